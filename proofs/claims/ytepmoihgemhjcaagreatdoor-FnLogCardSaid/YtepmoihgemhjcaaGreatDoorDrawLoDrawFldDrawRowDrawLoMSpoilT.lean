/-
  Parts of one proof, laid as one text: DrawLo, DrawFld, DrawRow, DrawLoM, SpoilT; what each says stands at its head.
-/
import Derived.Test.YtepmoihgemhjcaaGreatDoorRows
import Derived.Test.YtepmoihgemhjcaaGreatDoorBytesDigMath
import Derived.Test.YtepmoihgemhjcaaGreatDoorTreeMathSlABxKSlBOwnS
import Derived.Test.YtepmoihgemhjcaaGreatDoorFldGSrcDrawsDrawKitAppSSomeDrawTreeScanMath
import Derived.Test.YtepmoihgemhjcaaGreatDoorTimeBPutMathPutNumJoinedPutTextFldMath
import Derived.Test.YtepmoihgemhjcaaGreatDoorGetValGetTxtNumMathFldRdNumFromTmbMathFldRiseLgMath
import Derived.Test.YtepmoihgemhjcaaGreatDoorLgAtKLgAnsLgRtShwKOneKFldBlkRwBlk
import Derived.Test.YtepmoihgemhjcaaGreatDoorRowOpsLgO
import Derived.Test.YtepmoihgemhjcaaGreatDoorLtMathLaMathLfMathTakesLStepAppBlNotTakes
import Derived.Handy
import Derived.OwnWalk
import Derived.Laws.OwnMore
import Derived.WalkSpells
import Derived.Test.YtepmoihgemhjcaaGreatDoorOwnBPadIDigIDigAllTimeIImplFC
import Derived.Test.YtepmoihgemhjcaaGreatDoorGrKImplFT
import Derived.Test.YtepmoihgemhjcaaGreatDoorNameRight
import Derived.Test.YtepmoihgemhjcaaGreatDoorFldOMFldO
import Derived.Deep.Cut
import Derived.BigQuiet
import Derived.Deep.RegionHeld3
import Derived.Deep.CutRange
/-
  A log in a box beside a source, and what a LogOut that was drawn holds: what l09Log's draw carries.
-/
namespace Go.Proofs.YtepmoihgemhjcaaGreatDoor
open Go.RowKit Go.Lib
set_option linter.unusedVariables false
set_option maxRecDepth 20000

theorem lo_row {w : World} {base g : Nat} {e T : TypeId} {s : Nat} {v : Value} {n : Nat} {xs : List Value} {cs : Array Value} (h : w.ownsRow base e s v n xs) (hb : Bxs w g T cs) (hne : T ≠ e) : some g ≠ v.ownBlock := fun he => own_box h hb hne he.symm
theorem lo_box {w : World} {X Y : Nat} {T U : TypeId} {cs ds : Array Value} (h : Bxs w X T cs) (k : Bxs w Y U ds) (hne : T ≠ U) : X ≠ Y := fun e => by
  subst e
  unfold Bxs at h k
  rw [h] at k
  injection k with h1
  injection h1 with h2 h3
  exact hne h3
/-- A block below all of the log's own is written. -/
theorem LgO.touch {base : Nat} {xs : List (Rw × Value)} {lv : List ByteArray} {v1 v2 : Value} {w w' : World} {g : Nat} (h : LgO base xs lv v1 v2 w) (hg : w.grownBy w' (some g)) (hlt : g < base) : LgO base xs lv v1 v2 w' :=
  ⟨h.rws.kept hg (.inr (fun e => by have := (h.rws.lt.1 g e).1; omega)) (fun y hy => .inr (fun e => by have := (h.rws.lt.2 y hy g e).1; omega)), h.lvs.kept hg (.inr (fun e => by have := (h.lvs.lt g e).1; omega))⟩
/-- A log as it is drawn: of few rows and leaves, early. -/
structure LoD (n m : Nat) (t : Int) (rs : List Rw) (lv : List ByteArray) (now : Int) : Prop where
  n : rs.length ≤ n
  m : lv.length ≤ m
  le : RwsLe rs
  lz : TxtsLe lv
  t0 : 0 ≤ now
  t1 : now ≤ t
  f1 : ∀ r ∈ rs, 1 ≤ r.fs.length
theorem LoD.nil (n m : Nat) (t : Int) (ht : 0 ≤ t) : LoD n m t [] [] 0 := ⟨Nat.zero_le _, Nat.zero_le _, (fun r hr => by cases hr), (fun x hx => by cases hx), Int.le_refl _, ht, (fun r hr => by cases hr)⟩
section
variable {w0 x x' : World} {B p : Nat} {a : Option Addr} {len cap X Y : Nat} {v1 v2 u1 u2 : Value} {xs ys : List (Rw × Value)} {lv lu : List ByteArray} {now nu c : Int}
/-- A log in a box at X, beside the source at p. -/
structure LoS (w0 : World) (B p : Nat) (a : Option Addr) (len cap X : Nat) (v1 v2 : Value) (xs : List (Rw × Value)) (lv : List ByteArray) (now : Int) (x : World) : Prop where
  src : Src 126 B p a len cap x
  gr : w0.grownBy x (some p)
  hp : p < w0.heap.size
  hX : w0.heap.size ≤ X
  box : Bxs x X 26 #[v1, v2, .int .i64 now]
  lg : LgO w0.heap.size xs lv v1 v2 x
theorem LoS.below (h : LoS w0 B p a len cap X v1 v2 xs lv now x) (hb : Below x.heap.size x x') : LoS w0 B p a len cap X v1 v2 xs lv now x' := ⟨h.src.below hb, touch_below h.gr hb, h.hp, h.hX, h.box.below hb, h.lg.below hb⟩
theorem LoS.drew (h : LoS w0 B p a len cap X v1 v2 xs lv now x) : LoS w0 B p a len cap X v1 v2 xs lv now x.drew := h.below (Below.refl _ _).drew
theorem LoS.step (h : LoS w0 B p a len cap X v1 v2 xs lv now x) (hs' : Src 126 B p a len cap x') (hg : x.grownBy x' (some p)) : LoS w0 B p a len cap X v1 v2 xs lv now x' := by
  have hp := h.hp
  have hX := h.hX
  exact ⟨hs', touch_trans h.gr hg, hp, hX, (hg.block X h.box.lt (fun e => by cases e; omega)).trans h.box, h.lg.touch hg hp⟩
theorem LoS.cells (h : LoS w0 B p a len cap X v1 v2 xs lv now x) : x.cell? ⟨X, 0, none⟩ = some v1 ∧ x.cell? ⟨X, 1, none⟩ = some v2 ∧ x.cell? ⟨X, 2, none⟩ = some (.int .i64 now) ∧ x.frozen? ⟨X, 0, none⟩ = false ∧ x.frozen? ⟨X, 1, none⟩ = false ∧ x.frozen? ⟨X, 2, none⟩ = false := ⟨h.box.cell 0, h.box.cell 1, h.box.cell 2, h.box.fr 0, h.box.fr 1, h.box.fr 2⟩
/-- The log can be read. -/
theorem LoS.at {q : Option Addr} {p' : Option Addr} {cq cp n m : Nat} {t : Int} (h : LoS w0 B p a len cap X (.slice q xs.length cq) (.slice p' lv.length cp) xs lv now x) (hd : LoD n m t (xs.map (·.1)) lv now) (hn : n ≤ 1048576) (hm : m ≤ 1048576) : LgAt p' lv cp q (xs.map (·.1)) cq x := by
  obtain ⟨_, _, e1, hc1⟩ := h.lg.rws.form
  obtain ⟨_, _, e2, hc2, ht⟩ := ownS_form h.lg.lvs
  cases e1; cases e2
  have h1 := hd.n
  have h2 := hd.m
  have h3 : (xs.map (·.1)).length = xs.length := List.length_map _
  exact ⟨ht, hc2, by omega, hd.lz, h.lg.rws.at, by omega, by omega, hd.le⟩
/-- A box of another type, made since, is written: the source and the log stay. -/
theorem LoS.wrote {T : TypeId} {cs : Array Value} (h : LoS w0 B p a len cap X v1 v2 xs lv now x) (hY : w0.heap.size ≤ Y) (k : Bxs x Y T cs) (n0 : T ≠ 26) (n1 : T ≠ 29) (n2 : T ≠ 103) (n3 : T ≠ 9) (g : x.grownBy x' (some Y)) : LoS w0 B p a len cap X v1 v2 xs lv now x' := by
  have hp := h.hp
  have ne := lo_box k h.box n0
  exact ⟨h.src.other g (fun j hj => by cases hj; omega), touch_own h.gr g (fun j hj => by cases hj; exact hY), hp, h.hX, (g.block X h.box.lt (fun e => by cases e; exact ne rfl)).trans h.box, h.lg.box k n1 n2 n3 g⟩
/-- Another log of memory of its own is put into the box. -/
theorem LoS.put (h : LoS w0 B p a len cap X v1 v2 xs lv now x) (ho : LgO w0.heap.size ys lu u1 u2 x) (nu : Int) : LoS w0 B p a len cap X u1 u2 ys lu nu (((x.setCell ⟨X, 0, none⟩ u1).setCell ⟨X, 1, none⟩ u2).setCell ⟨X, 2, none⟩ (.int .i64 nu)) := by
  have hp := h.hp
  have hX := h.hX
  have g : x.grownBy (((x.setCell ⟨X, 0, none⟩ u1).setCell ⟨X, 1, none⟩ u2).setCell ⟨X, 2, none⟩ (.int .i64 nu)) (some X) := touch_set (touch_set (set_grw x X 0 u1) 1 u2) 2 _
  exact ⟨h.src.other g (fun j hj => by cases hj; omega), touch_own h.gr g (fun j hj => by cases hj; exact hX), hp, hX, ((h.box.set 0 _).set 1 _).set 2 _, ho.box h.box (by decide) (by decide) (by decide) g⟩
/-- The leaves grow by one text. -/
theorem LoS.appL (h : LoS w0 B p a len cap X v1 v2 xs lv now x) (t : ByteArray) (hl : lv.length + 1 ≤ 1048576) :
    ∃ q d y, (Builtin.append_ #[24, 24] 24 #[v2, .slice (some ⟨x.heap.size, 0, none⟩) 1 1]).run Tryz.prog (x.alloc (.cells #[.string t] 9)) = .ok (.slice q (lv.length + 1) d) y ∧
      LoS w0 B p a len cap X v1 (.slice q (lv.length + 1) d) xs (lv ++ [t]) now (y.setCell ⟨X, 1, none⟩ (.slice q (lv.length + 1) d)) ∧ (y.cell? ⟨X, 0, none⟩ = some v1 ∧ y.cell? ⟨X, 1, none⟩ = some v2 ∧ y.cell? ⟨X, 2, none⟩ = some (.int .i64 now)) ∧ y.frozen? ⟨X, 1, none⟩ = false := by
  have hp := h.hp
  have hX := h.hX
  have H := h.below ((Below.refl _ _).alloc (Nat.le_refl _) (.cells #[.string t] 9))
  obtain ⟨g, d, y, h1, h2, h3, -⟩ := app_str x w0.heap.size v2 lv h.lg.lvs t hl h.gr.size
  have hrow : ∀ j, v2.ownBlock = some j → w0.heap.size ≤ j := fun j hj => (H.lg.lvs.lt j hj).1
  have kb : Bxs y X 26 #[v1, v2, .int .i64 now] := H.box.grown h3 (lo_row H.lg.lvs H.box (by decide))
  have sy : Src 126 B p a len cap y := H.src.other h3 (fun j hj => by have := hrow j hj; omega)
  have gy : w0.grownBy y (some p) := touch_own H.gr h3 hrow
  have ho : LgO w0.heap.size xs (lv ++ [t]) v1 (.slice (some ⟨g, 0, none⟩) (lv.length + 1) d) y := ⟨H.lg.rws.kept h3 (own_apart H.lg.rws.own H.lg.lvs (by decide)) (fun z hz => own_apart (H.lg.rws.fld z hz) H.lg.lvs (by decide)), h2⟩
  have k := set_grw y X 1 (.slice (some ⟨g, 0, none⟩) (lv.length + 1) d)
  exact ⟨some ⟨g, 0, none⟩, d, y, h1, ⟨sy.other k (fun j hj => by cases hj; omega), touch_own gy k (fun j hj => by cases hj; exact hX), hp, hX, kb.set 1 _, ho.box kb (by decide) (by decide) (by decide) k⟩, ⟨kb.cell 0, kb.cell 1, kb.cell 2⟩, kb.fr 1⟩
/-- The rows grow by one, whose fields came later than all that is there. -/
theorem LoS.appR {xf : World} (h0 : LoS w0 B p a len cap X v1 v2 xs lv now xf) (h : LoS w0 B p a len cap X v1 v2 xs lv now x) (r : Rw) (q : Option Addr) (d : Nat) (hf : x.ownsRow xf.heap.size 103 5 (.slice q r.fs.length d) r.fs.length (fldRow r.fs)) (hl : xs.length + 1 ≤ 1048576) :
    ∃ q2 d2 y, (Builtin.append_ #[23, 23] 23 #[v1, .slice (some ⟨x.heap.size, 0, none⟩) 1 1]).run Tryz.prog (x.alloc (.cells #[.string r.k, .int .i64 r.a, .slice q r.fs.length d] 29)) = .ok (.slice q2 (xs.length + 1) d2) y ∧
      LoS w0 B p a len cap X (.slice q2 (xs.length + 1) d2) v2 (xs ++ [(r, .slice q r.fs.length d)]) lv now (y.setCell ⟨X, 0, none⟩ (.slice q2 (xs.length + 1) d2)) ∧ (y.cell? ⟨X, 0, none⟩ = some v1 ∧ y.cell? ⟨X, 1, none⟩ = some v2 ∧ y.cell? ⟨X, 2, none⟩ = some (.int .i64 now)) ∧ y.frozen? ⟨X, 0, none⟩ = false := by
  have hp := h.hp
  have hX := h.hX
  have hal := (Below.refl x.heap.size x).alloc (Nat.le_refl _) (.cells #[.string r.k, .int .i64 r.a, .slice q r.fs.length d] 29)
  have H := h.below hal
  have hc : CelAt (x.alloc (.cells #[.string r.k, .int .i64 r.a, .slice q r.fs.length d] 29)) (some ⟨x.heap.size, 0, none⟩) (rcRow [rcV (r, .slice q r.fs.length d)]) := fun j hj => ⟨x.heap.size, 0, rfl, by simp, by
    rw [Nat.zero_add, (Bxs.new x 29 #[.string r.k, .int .i64 r.a, .slice q r.fs.length d]).cell j]
    have hj3 : j < 3 := by simpa [rcRow, rcCells] using hj
    match j, hj3 with
    | 0, _ => rfl
    | 1, _ => rfl
    | 2, _ => rfl⟩
  obtain ⟨q2, d2, y, h1, h2, h3, h4⟩ := H.lg.rws.app (r, .slice q r.fs.length d) (some ⟨x.heap.size, 0, none⟩) 1 rfl hc (own_low (ownS_below hf hal) h0.gr.size) (fun z hz => by
    cases hy2 : z.2.ownBlock with
    | none => exact .inl rfl
    | some j =>
      refine .inr (fun e => ?_)
      have a := ((h0.lg.rws.lt.2 z hz) j hy2).2
      have b := (hf.lt j e.symm).1
      omega) hl H.gr.size
  have hrow : ∀ j, v1.ownBlock = some j → w0.heap.size ≤ j := fun j hj => (H.lg.rws.lt.1 j hj).1
  have kb : Bxs y X 26 #[v1, v2, .int .i64 now] := H.box.grown h3 (lo_row H.lg.rws.own H.box (by decide))
  have hl2 : y.ownsRow w0.heap.size 9 1 v2 lv.length (strRow lv) := H.lg.lvs.kept h3 (own_apart H.lg.lvs H.lg.rws.own (by decide))
  have sy : Src 126 B p a len cap y := H.src.other h3 (fun j hj => by have := hrow j hj; omega)
  have gy : w0.grownBy y (some p) := touch_own H.gr h3 hrow
  have ho : LgO w0.heap.size (xs ++ [(r, .slice q r.fs.length d)]) lv (.slice q2 (xs.length + 1) d2) v2 y := ⟨h2, hl2⟩
  have k := set_grw y X 0 (.slice q2 (xs.length + 1) d2)
  exact ⟨q2, d2, y, h1, ⟨sy.other k (fun j hj => by cases hj; omega), touch_own gy k (fun j hj => by cases hj; exact hX), hp, hX, kb.set 0 _, ho.box kb (by decide) (by decide) (by decide) k⟩, ⟨kb.cell 0, kb.cell 1, kb.cell 2⟩, kb.fr 0⟩
/-- The first row's first field's Gone is turned. -/
theorem LoS.flip {k : ByteArray} {at_ : Int} {f0 : Fld} {fr : List Fld} {fb fc : Nat} {xr : List (Rw × Value)} (h : LoS w0 B p a len cap X v1 v2 ((⟨k, at_, f0 :: fr⟩, .slice (some ⟨fb, 0, none⟩) (f0 :: fr).length fc) :: xr) lv now x) (g : Bool) :
    Src 126 B p a len cap (x.setCell ⟨fb, 4, none⟩ (.bool g)) ∧ w0.grownBy (x.setCell ⟨fb, 4, none⟩ (.bool g)) (some p) ∧ LgO w0.heap.size ((⟨k, at_, ⟨f0.n, f0.c, f0.s, f0.v, g⟩ :: fr⟩, .slice (some ⟨fb, 0, none⟩) (f0 :: fr).length fc) :: xr) lv v1 v2 (x.setCell ⟨fb, 4, none⟩ (.bool g)) ∧ Bxs (x.setCell ⟨fb, 4, none⟩ (.bool g)) X 26 #[v1, v2, .int .i64 now] := by
  have hp := h.hp
  have hf := h.lg.rws.fld _ (List.mem_cons_self ..)
  have hfb := (hf.lt fb rfl).1
  have kg := set_grw x fb 4 (.bool g)
  refine ⟨h.src.other kg (fun j hj => by cases hj; omega), touch_own h.gr kg (fun j hj => by cases hj; exact hfb), ⟨⟨?_, fun y hy => ?_, ?_⟩, ?_⟩, ?_⟩
  · have o := h.lg.rws.own.kept kg (by have := own_apart h.lg.rws.own hf (by decide); exact this)
    exact o
  · rcases List.mem_cons.1 hy with rfl | hy
    · have o := World.ownsRow.stored hf 4 (.bool g)
      exact o.1
    · have ne := (List.pairwise_cons.1 h.lg.rws.ne).1 y hy
      refine (h.lg.rws.fld y (List.mem_cons_of_mem _ hy)).kept kg (.inr (fun e => ?_))
      rcases ne with q | q
      · cases q
      · exact q e.symm
  · have ne := List.pairwise_cons.1 h.lg.rws.ne
    exact List.pairwise_cons.2 ⟨ne.1, ne.2⟩
  · exact h.lg.lvs.kept kg (by have := own_apart h.lg.lvs hf (by decide); exact this)
  · exact (kg.block X h.box.lt (fun e => by cases e; exact own_box hf h.box (by decide) rfl)).trans h.box
/-- A LogOut in its box: a log of memory of its own; right where the code is zero. -/
def LoV (w0 : World) (n m : Nat) (t : Int) (Y : Nat) (x : World) : Prop := w0.heap.size ≤ Y ∧ ∃ (u1 u2 : Value) (ys : List (Rw × Value)) (lu : List ByteArray) (nu c : Int), Bxs x Y 33 #[u1, u2, .int .i64 nu, .int .i64 c] ∧ LgO w0.heap.size ys lu u1 u2 x ∧ (c = 0 → LoD n m t (ys.map (·.1)) lu nu)
theorem LoV.below {n m : Nat} {t : Int} (h : LoV w0 n m t Y x) (hb : Below x.heap.size x x') : LoV w0 n m t Y x' := by
  obtain ⟨hY, u1, u2, ys, lu, nu, c, k, o, d⟩ := h
  exact ⟨hY, u1, u2, ys, lu, nu, c, k.below hb, o.below hb, d⟩
theorem LoV.touch {n m : Nat} {t : Int} (h : LoV w0 n m t Y x) (hg : x.grownBy x' (some p)) (hp : p < w0.heap.size) : LoV w0 n m t Y x' := by
  obtain ⟨hY, u1, u2, ys, lu, nu, c, k, o, d⟩ := h
  exact ⟨hY, u1, u2, ys, lu, nu, c, (hg.block Y k.lt (fun e => by cases e; omega)).trans k, o.touch hg hp, d⟩
/-- An answer of memory of its own is put into a LogOut's box. -/
theorem LoV.put {n m : Nat} {t : Int} {cs : Array Value} (hY : w0.heap.size ≤ Y) (k : Bxs x Y 33 cs) (hcs : cs.size = 4) (ho : LgO w0.heap.size ys lu u1 u2 x) (nu c : Int) (hd : c = 0 → LoD n m t (ys.map (·.1)) lu nu) :
    LoV w0 n m t Y ((((x.setCell ⟨Y, 0, none⟩ u1).setCell ⟨Y, 1, none⟩ u2).setCell ⟨Y, 2, none⟩ (.int .i64 nu)).setCell ⟨Y, 3, none⟩ (.int .i64 c)) := by
  have g : x.grownBy ((((x.setCell ⟨Y, 0, none⟩ u1).setCell ⟨Y, 1, none⟩ u2).setCell ⟨Y, 2, none⟩ (.int .i64 nu)).setCell ⟨Y, 3, none⟩ (.int .i64 c)) (some Y) := touch_set (touch_set (touch_set (set_grw x Y 0 u1) 1 u2) 2 _) 3 _
  match cs, hcs with
  | ⟨[a0, a1, a2, a3]⟩, _ => exact ⟨hY, u1, u2, ys, lu, nu, c, (((k.set 0 _).set 1 _).set 2 _).set 3 _, ho.box k (by decide) (by decide) (by decide) g, hd⟩
end
end Go.Proofs.YtepmoihgemhjcaaGreatDoor
/-
  What l07Name, l07Salt and l07Value draw: texts of at most 21, 9 and 17 bytes. The source's block alone is written.
  Conditions: the source is one ('Src').
-/
namespace Go.Proofs.YtepmoihgemhjcaaGreatDoor
open Go.RowKit Go.Lib
set_option linter.unusedVariables false
set_option maxRecDepth 20000

def nameS3 : List ByteArray := [⟨#[]⟩, ⟨#[65]⟩, ⟨#[49, 50, 51, 52, 53, 54, 55, 56, 57, 48, 49, 50, 51, 52, 53, 54, 55, 56, 57, 48, 49]⟩]
def nameS4 : List ByteArray := [⟨#[110, 97, 109, 101]⟩, ⟨#[109, 97, 105, 108]⟩, ⟨#[97, 103, 101]⟩, ⟨#[116, 111, 119, 110]⟩]
def valS4 : List ByteArray := [⟨#[]⟩, ⟨#[97, 110, 110]⟩, ⟨#[52, 50]⟩, ⟨#[120, 32, 121]⟩]
theorem nameS3_small : ∀ t ∈ nameS3, t.size ≤ 21 := by decide
theorem nameS4_small : ∀ t ∈ nameS4, t.size ≤ 21 := by decide
theorem valS4_small : ∀ t ∈ valS4, t.size ≤ 17 := by decide

set_option maxHeartbeats 1000000 in
theorem l07Name_any (B p : Nat) (a : Option Addr) (len cap : Nat) (w : World) (hs : Src 126 B p a len cap w) :
    Calls Tryz.prog 121 #[.pointer (some ⟨p, 0, none⟩)] w fun e w' =>
      (∃ t : ByteArray, e = .returned (.string t) ∧ t.size ≤ 21) ∧ Src 126 B p a len cap w' ∧ w.grownBy w' (some p) := by
  have HS : Hid (Src 126 B p a len cap w) := hs
  clear hs
  go_enter Tryz.func121, Tryz.ntmps121
  go_wp2_with fail
  refine (one_any B p a len cap 25 _ HS.out (by omega)).mono ?_
  rintro e w1 ⟨⟨r, rfl⟩, hs1, hg1⟩
  have hp := hs1.lt
  cases r with
  | true =>
    have HB : Hid (BlkS (w1.alloc (.cells (strRow nameS3).toArray 9)) w1.heap.size nameS3) := alloc_str w1 nameS3
    have H1 : Hid (Src 126 B p a len cap (w1.alloc (.cells (strRow nameS3).toArray 9))) := hs1.below ((Below.refl _ _).alloc (Nat.le_refl _) _)
    clear hs1
    go_wp2_with fail
    refine (pick_any B p a len cap w1.heap.size nameS3 _ H1.out HB.out (by omega) (by decide) (by decide)).mono ?_
    rintro e w2 ⟨⟨t, ht, rfl⟩, hs2, hg2⟩
    have HG : Hid (w.grownBy w2 (some p)) := touch_trans hg1 (touch_trans (World.grownBy_alloc w1 _ (some p)) hg2)
    have HS2 : Hid (Src 126 B p a len cap w2) := hs2
    have h5 := nameS3_small t ht
    clear hs2 hg2 hg1 ht HB H1
    go_wp2_with fail
    go_ret
    exact ⟨⟨t, rfl, h5⟩, HS2.out, HG.out⟩
  | false =>
    have HB : Hid (BlkS (w1.alloc (.cells (strRow nameS4).toArray 9)) w1.heap.size nameS4) := alloc_str w1 nameS4
    have H1 : Hid (Src 126 B p a len cap (w1.alloc (.cells (strRow nameS4).toArray 9))) := hs1.below ((Below.refl _ _).alloc (Nat.le_refl _) _)
    clear hs1
    go_wp2_with fail
    refine (pick_any B p a len cap w1.heap.size nameS4 _ H1.out HB.out (by omega) (by decide) (by decide)).mono ?_
    rintro e w2 ⟨⟨t, ht, rfl⟩, hs2, hg2⟩
    have HG : Hid (w.grownBy w2 (some p)) := touch_trans hg1 (touch_trans (World.grownBy_alloc w1 _ (some p)) hg2)
    have HS2 : Hid (Src 126 B p a len cap w2) := hs2
    have h5 := nameS4_small t ht
    clear hs2 hg2 hg1 ht HB H1
    go_wp2_with fail
    go_ret
    exact ⟨⟨t, rfl, h5⟩, HS2.out, HG.out⟩

set_option maxHeartbeats 1000000 in
theorem l07Value_any (B p : Nat) (a : Option Addr) (len cap : Nat) (w : World) (hs : Src 126 B p a len cap w) :
    Calls Tryz.prog 123 #[.pointer (some ⟨p, 0, none⟩)] w fun e w' =>
      (∃ t : ByteArray, e = .returned (.string t) ∧ t.size ≤ 17) ∧ Src 126 B p a len cap w' ∧ w.grownBy w' (some p) := by
  have HS : Hid (Src 126 B p a len cap w) := hs
  clear hs
  go_enter Tryz.func123, Tryz.ntmps123
  go_wp2_with fail
  refine (one_any B p a len cap 25 _ HS.out (by omega)).mono ?_
  rintro e w1 ⟨⟨r, rfl⟩, hs1, hg1⟩
  have hp := hs1.lt
  cases r with
  | true =>
    have hN := n_any B p a len cap 3 w1 hs1 (by omega)
    clear hs1
    go_wp2_with fail
    refine hN.mono ?_
    rintro e w2 ⟨⟨r2, rfl, r20, r21, -⟩, hs2, hg2⟩
    have r22 := r21 (by omega)
    obtain ⟨R, rfl⟩ := Int.eq_ofNat_of_zero_le r20
    have hmk := run_make_u8s (15 + R) (by omega) w2
    rw [show ((15 + R : Nat) : Int) = 15 + (R : Int) by omega] at hmk
    have hzc := zconv (15 + R) w2
    have HZs : (strOfNums (List.replicate (15 + R) 0)).size ≤ 17 := by rw [strOfNums_size, List.length_replicate]; omega
    have HS2 : Hid (Src 126 B p a len cap (w2.alloc (.cells (zrow (15 + R)).toArray 5))) := hs2.below ((Below.refl _ _).alloc (Nat.le_refl _) _)
    have HG : Hid (w.grownBy (w2.alloc (.cells (zrow (15 + R)).toArray 5)) (some p)) := touch_trans hg1 (touch_trans hg2 (World.grownBy_alloc w2 _ (some p)))
    clear hs2 hg2 hg1 hN r21 r20
    go_wp2_with fail
    go_ret
    exact ⟨⟨_, rfl, HZs⟩, HS2.out, HG.out⟩
  | false =>
    have HB : Hid (BlkS (w1.alloc (.cells (strRow valS4).toArray 9)) w1.heap.size valS4) := alloc_str w1 valS4
    have H1 : Hid (Src 126 B p a len cap (w1.alloc (.cells (strRow valS4).toArray 9))) := hs1.below ((Below.refl _ _).alloc (Nat.le_refl _) _)
    clear hs1
    go_wp2_with fail
    refine (pick_any B p a len cap w1.heap.size valS4 _ H1.out HB.out (by omega) (by decide) (by decide)).mono ?_
    rintro e w2 ⟨⟨t, ht, rfl⟩, hs2, hg2⟩
    have HG : Hid (w.grownBy w2 (some p)) := touch_trans hg1 (touch_trans (World.grownBy_alloc w1 _ (some p)) hg2)
    have HS2 : Hid (Src 126 B p a len cap w2) := hs2
    have h5 := valS4_small t ht
    clear hs2 hg2 hg1 ht HB H1
    go_wp2_with fail
    go_ret
    exact ⟨⟨t, rfl, h5⟩, HS2.out, HG.out⟩

theorem salt_at : ∀ k : Nat, k < 3 → ∃ v : Nat, (#[.int .i64 0, .int .i64 8, .int .i64 9] : Array Value)[k]? = some (.int .i64 (v : Int)) ∧ v ≤ 9
  | 0, _ => ⟨0, rfl, by omega⟩
  | 1, _ => ⟨8, rfl, by omega⟩
  | 2, _ => ⟨9, rfl, by omega⟩
  | k + 3, h => by omega
set_option maxHeartbeats 1000000 in
theorem l07Salt_any (B p : Nat) (a : Option Addr) (len cap : Nat) (w : World) (hs : Src 126 B p a len cap w) :
    Calls Tryz.prog 122 #[.pointer (some ⟨p, 0, none⟩)] w fun e w' =>
      (∃ t : ByteArray, e = .returned (.string t) ∧ t.size ≤ 9) ∧ Src 126 B p a len cap w' ∧ w.grownBy w' (some p) := by
  have HS : Hid (Src 126 B p a len cap w) := hs
  clear hs
  go_enter Tryz.func122, Tryz.ntmps122
  go_wp2_with fail
  refine (one_any B p a len cap 25 _ HS.out (by omega)).mono ?_
  rintro e w1 ⟨⟨r, rfl⟩, hs1, hg1⟩
  have hp := hs1.lt
  cases r with
  | true =>
    obtain ⟨W2, hW2⟩ : ∃ W2, W2 = w1.alloc (.cells #[.int .i64 0, .int .i64 8, .int .i64 9] 2) := ⟨_, rfl⟩
    have HW2 : Hid (W2 = w1.alloc (.cells #[.int .i64 0, .int .i64 8, .int .i64 9] 2)) := hW2
    have hb : W2.heap[w1.heap.size]? = some (.cells #[.int .i64 0, .int .i64 8, .int .i64 9] 2 (0, 0)) := by rw [hW2]; exact (MapKept.heap_alloc w1 _).1
    have HBk : Hid (∀ x, W2.grownBy x (some p) → x.heap[w1.heap.size]? = some (.cells #[.int .i64 0, .int .i64 8, .int .i64 9] 2 (0, 0))) := fun x hx => (hx.block _ (lt_of_block hb) (fun e => by cases e; omega)).trans hb
    have hN := n_any B p a len cap 3 W2 (by rw [hW2]; exact hs1.below ((Below.refl _ _).alloc (Nat.le_refl _) _)) (by omega)
    have HG2 : Hid (w.grownBy W2 (some p)) := by rw [hW2]; exact touch_trans hg1 (World.grownBy_alloc w1 _ (some p))
    clear hs1 hW2 hb hg1
    go_wp2_with fail
    rw [← HW2.out]
    refine hN.mono ?_
    rintro e w2 ⟨⟨r2, rfl, r20, r21, -⟩, hs2, hg2⟩
    have r22 := r21 (by omega)
    obtain ⟨R, rfl⟩ := Int.eq_ofNat_of_zero_le r20
    obtain ⟨V, hV, hV9⟩ := salt_at R (by omega)
    have hc : w2.cell? ⟨w1.heap.size, R, none⟩ = some (.int .i64 (V : Int)) := by simp [World.cell?, HBk.out w2 hg2, hV]
    have hmk := run_make_u8s V (by omega) w2
    have hzc := zconv V w2
    have HZs : (strOfNums (List.replicate V 0)).size ≤ 9 := by rw [strOfNums_size, List.length_replicate]; omega
    have HS2 : Hid (Src 126 B p a len cap (w2.alloc (.cells (zrow V).toArray 5))) := hs2.below ((Below.refl _ _).alloc (Nat.le_refl _) _)
    have HG : Hid (w.grownBy (w2.alloc (.cells (zrow V).toArray 5)) (some p)) := touch_trans HG2.out (touch_trans hg2 (World.grownBy_alloc w2 _ (some p)))
    clear hs2 hg2 hN r21 r20 hV HBk HW2
    go_wp2_with fail
    go_ret
    exact ⟨⟨_, rfl, HZs⟩, HS2.out, HG.out⟩
  | false =>
    have hN := n_any B p a len cap 4 w1 hs1 (by omega)
    clear hs1
    go_wp2_with fail
    refine hN.mono ?_
    rintro e w2 ⟨⟨r2, rfl, r20, r21, -⟩, hs2, hg2⟩
    have r22 := r21 (by omega)
    have hB := bytes_any B p a len cap r2 w2 hs2 (by omega)
    have hg2 := touch_trans hg1 hg2
    clear hN hs2 r21 hg1
    go_wp2_with fail
    refine hB.mono ?_
    rintro e w3 ⟨⟨u, rfl, hu⟩, hs3, hg3⟩
    have HT : (⟨#[115]⟩ ++ u : ByteArray).size ≤ 9 := by rw [append_size]; show 1 + u.size ≤ 9; omega
    have HS3 : Hid (Src 126 B p a len cap w3) := hs3
    have HG : Hid (w.grownBy w3 (some p)) := touch_trans hg2 hg3
    clear hB hs3 hg3 hg2
    go_wp2_with fail
    go_ret
    exact ⟨⟨_, rfl, HT⟩, HS3.out, HG.out⟩
end Go.Proofs.YtepmoihgemhjcaaGreatDoor
/-
  What l07Row draws: a row that is right, none of its fields forgotten, in memory of its own.
  Conditions: the source is one ('Src'); the time is right.
-/
namespace Go.Proofs.YtepmoihgemhjcaaGreatDoor
open Go.RowKit Go.Lib
set_option linter.unusedVariables false
set_option maxRecDepth 20000

/-- A source; a result's box; a block of names; two rows of texts of its own, apart. -/
structure LrS (w : World) (B p : Nat) (a : Option Addr) (len cap : Nat) (g : Nat) (ns : List ByteArray) (v1 v2 : Value) (ss vs : List ByteArray) (x : World) : Prop where
  src : Src 126 B p a len cap x
  gr : w.grownBy x (some p)
  res : Bxs x w.heap.size 29 #[.string ByteArray.empty, .int .i64 0, .slice none 0 0]
  nm : BlkS x g ns
  own1 : x.ownsRow w.heap.size 9 1 v1 ss.length (strRow ss)
  own2 : x.ownsRow w.heap.size 9 1 v2 vs.length (strRow vs)
  ap : ∀ j, v1.ownBlock = some j → v2.ownBlock ≠ some j
  n1 : v1.ownBlock ≠ some g
  n2 : v2.ownBlock ≠ some g
  hp : p < w.heap.size
  hg : w.heap.size ≤ g
section
variable {w : World} {B p : Nat} {a : Option Addr} {len cap g : Nat} {ns : List ByteArray} {v1 v2 : Value} {ss vs : List ByteArray} {x y : World}
theorem LrS.swap (h : LrS w B p a len cap g ns v1 v2 ss vs x) : LrS w B p a len cap g ns v2 v1 vs ss x :=
  ⟨h.src, h.gr, h.res, h.nm, h.own2, h.own1, fun j h1 h2 => h.ap j h2 h1, h.n2, h.n1, h.hp, h.hg⟩
theorem LrS.draw (h : LrS w B p a len cap g ns v1 v2 ss vs x) (hs : Src 126 B p a len cap y) (k : x.grownBy y (some p)) : LrS w B p a len cap g ns v1 v2 ss vs y := by
  have hp := h.hp
  have hg := h.hg
  exact ⟨hs, touch_trans h.gr k, h.res.grown k (fun e => by cases e; omega), h.nm.touch k (by omega), ownR_grown h.own1 k (fun j hj e => by have := (h.own1.lt j hj).1; cases e; omega), ownR_grown h.own2 k (fun j hj e => by have := (h.own2.lt j hj).1; cases e; omega), h.ap, h.n1, h.n2, hp, hg⟩
theorem LrS.al (h : LrS w B p a len cap g ns v1 v2 ss vs x) (o : Obj) : LrS w B p a len cap g ns v1 v2 ss vs (x.alloc o) :=
  ⟨h.src.below ((Below.refl _ _).alloc (Nat.le_refl _) _), touch_below h.gr ((Below.refl _ _).alloc (Nat.le_refl _) _), h.res.alloc _, h.nm.below ((Below.refl _ _).alloc (Nat.le_refl _) _) h.nm.lt, h.own1.alloc _, h.own2.alloc _, h.ap, h.n1, h.n2, h.hp, h.hg⟩
theorem LrS.app1 (h : LrS w B p a len cap g ns v1 v2 ss vs x) (s : ByteArray) (hl : ss.length + 1 ≤ 1048576) :
    ∃ g' c y, (Builtin.append_ #[24, 24] 24 #[v1, .slice (some ⟨x.heap.size, 0, none⟩) 1 1]).run Tryz.prog (x.alloc (.cells #[.string s] 9)) = .ok (.slice (some ⟨g', 0, none⟩) (ss.length + 1) c) y ∧
      LrS w B p a len cap g ns (.slice (some ⟨g', 0, none⟩) (ss.length + 1) c) v2 (ss ++ [s]) vs y := by
  have hsz := h.gr.size
  have hp := h.hp
  obtain ⟨g', c, y, h1, h2, h3, h4⟩ := app_str x w.heap.size v1 ss h.own1 s hl hsz
  have H := h.al (.cells #[.string s] 9)
  have hrow : ∀ j, v1.ownBlock = some j → w.heap.size ≤ j := fun j hj => (h.own1.lt j hj).1
  have hob : ∀ j, (Value.slice (some ⟨g', 0, none⟩) (ss.length + 1) c).ownBlock = some j → g' = j := fun j hj => by simpa [Value.ownBlock] using hj
  refine ⟨g', c, y, h1, ⟨H.src.other h3 (fun j hj => by have := hrow j hj; omega), touch_own H.gr h3 hrow, H.res.grown h3 (Ne.symm (ownR_ne H.own1 H.res (by decide))), ?_, h2, ownR_grown H.own2 h3 (fun j hj he => h.ap j he hj), ?_, ?_, h.n2, hp, h.hg⟩⟩
  · exact (h3.block g H.nm.lt (Ne.symm h.n1)).trans H.nm
  · intro j hj he
    obtain rfl := hob j hj
    rcases h4 with h4 | h4
    · exact h.ap _ h4 he
    · have := (h.own2.lt _ he).2; omega
  · intro he
    obtain rfl := hob _ he
    rcases h4 with h4 | h4
    · exact h.n1 h4
    · have := h.nm.lt; omega
end
/-! ### What is drawn, whatever is drawn -/
def nmS : Nat → List ByteArray
  | 0 => [⟨#[109, 97, 105, 108]⟩, ⟨#[110, 97, 109, 101]⟩]
  | 1 => [⟨#[97, 103, 101]⟩]
  | _ => [⟨#[97, 103, 101]⟩, ⟨#[109, 97, 105, 108]⟩, ⟨#[116, 111, 119, 110]⟩]
def userS : ByteArray := ⟨#[117, 115, 101, 114]⟩
theorem fb_right (at_ : Int) (h0 : 0 ≤ at_) (h1 : at_ ≤ 1000000) : roC userS at_ [⟨#[97, 103, 101]⟩] [⟨#[115]⟩] [⟨#[55]⟩] = 0 := by
  unfold roC
  rw [if_neg (by unfold roBig; decide), if_neg (by unfold roOdd; decide), if_pos]
  refine rwB_of (by decide) ⟨h0, h1⟩ (by decide) ?_ rfl
  intro f hf
  have : f = rfAt [⟨#[97, 103, 101]⟩] [⟨#[115]⟩] [⟨#[55]⟩] 0 := by simpa [rfTo, List.range_succ] using hf
  subst this
  show fdB ⟨⟨#[97, 103, 101]⟩, cmB ⟨#[97, 103, 101]⟩ ⟨#[115]⟩ ⟨#[55]⟩, ⟨#[115]⟩, ⟨#[55]⟩, false⟩ = true
  unfold fdB
  dsimp only
  have hok : cmOk ⟨#[97, 103, 101]⟩ ⟨#[115]⟩ ⟨#[55]⟩ = true := by decide
  have hs : (cmB ⟨#[97, 103, 101]⟩ ⟨#[115]⟩ ⟨#[55]⟩).size = 32 := by unfold cmB; rw [if_pos hok]; exact digB_size _
  rw [decide_eq_true hs, show nrB ⟨#[97, 103, 101]⟩ = true by decide]
  simp
theorem rf_there (ns ss vs : List ByteArray) (k : Nat) : ∀ f ∈ rfTo ns ss vs k, f.g = false := by
  intro f hf
  obtain ⟨j, -, rfl⟩ := List.mem_map.1 hf
  rfl
/-- A row that is right, whose fields are all there. -/
def RwR (k : ByteArray) (at_ : Int) (fs : List Fld) : Prop := rwB k at_ fs = true ∧ ∀ f ∈ fs, f.g = false
theorem ro_right {k : ByteArray} {at_ : Int} {ns ss vs : List ByteArray} (h : roC k at_ ns ss vs = 0) : RwR k at_ (roF k at_ ns ss vs) ∧ roK k at_ ns ss vs = k ∧ roA k at_ ns ss vs = at_ := by
  have e : roF k at_ ns ss vs = rfTo ns ss vs ns.length := if_pos h
  refine ⟨⟨?_, by rw [e]; exact rf_there _ _ _ _⟩, if_pos h, if_pos h⟩
  rw [e]
  unfold roC at h
  split at h
  · cases h
  · split at h
    · cases h
    · split at h
      · assumption
      · cases h
theorem set_grown (x : World) (g i : Nat) (v : Value) : x.grownBy (x.setCell ⟨g, i, none⟩ v) (some g) := grown_set (World.grownBy.refl _ _) i v
/-- Three stores into a box of one's own, beside a source and a row of one's own. -/
theorem put3 {w x : World} {B p : Nat} {a : Option Addr} {len cap g : Nat} {v : Value} {n : Nat} {xs : List Value} (hg : w.grownBy x (some p)) (hs : Src 126 B p a len cap x) (ho : x.ownsRow w.heap.size 103 5 v n xs) (hp : p < w.heap.size) (hw : w.heap.size ≤ g) (hn : v.ownBlock ≠ some g) (x0 x1 x2 : Value) :
    (((x.setCell ⟨g, 0, none⟩ x0).setCell ⟨g, 1, none⟩ x1).setCell ⟨g, 2, none⟩ x2).ownsRow w.heap.size 103 5 v n xs ∧ Src 126 B p a len cap (((x.setCell ⟨g, 0, none⟩ x0).setCell ⟨g, 1, none⟩ x1).setCell ⟨g, 2, none⟩ x2) ∧ w.grownBy (((x.setCell ⟨g, 0, none⟩ x0).setCell ⟨g, 1, none⟩ x1).setCell ⟨g, 2, none⟩ x2) (some p) := by
  have hr : ∀ j, some g = some j → p < j := fun j hj => by cases hj; omega
  have hr2 : ∀ j, some g = some j → w.heap.size ≤ j := fun j hj => by cases hj; exact hw
  refine ⟨ownsRow_setCell_other (ownsRow_setCell_other (ownsRow_setCell_other ho hn _) hn _) hn _, ?_, ?_⟩
  · exact ((hs.other (set_grown x g 0 x0) hr).other (set_grown _ g 1 x1) hr).other (set_grown _ g 2 x2) hr
  · exact touch_own (touch_own (touch_own hg (set_grown x g 0 x0) hr2) (set_grown _ g 1 x1) hr2) (set_grown _ g 2 x2) hr2
def kindS : List ByteArray := [userS, ⟨#[98, 105, 108, 108]⟩]
theorem kindS_small : ∀ t ∈ kindS, t.size ≤ 4 := by decide
theorem field_rowD (k : ByteArray) (t : Int) (q : Option Addr) (n c : Nat) (e : Int) (x : World) : (Instr.field 89 (.agg #[.string k, .int .i64 t, .slice q n c, .int .i64 e]) 0).run Tryz.prog x = .ok (.agg #[.string k, .int .i64 t, .slice q n c]) x := by kernel_rfl
set_option maxHeartbeats 8000000 in
theorem l07Row_any (B p : Nat) (a : Option Addr) (len cap : Nat) (at_ : Int) (w : World) (hs : Src 126 B p a len cap w) (h0 : 0 ≤ at_) (h1 : at_ ≤ 1000000) :
    Calls Tryz.prog 57 #[.pointer (some ⟨p, 0, none⟩), .int .i64 at_] w fun e w' =>
      (∃ (k : ByteArray) (fs : List Fld) (v : Value), e = .returned (.agg #[.string k, .int .i64 at_, v]) ∧ w'.ownsRow w.heap.size 103 5 v fs.length (fldRow fs) ∧ RwR k at_ fs) ∧ Src 126 B p a len cap w' ∧ w.grownBy w' (some p) := by
  have hp := hs.lt
  obtain ⟨W1, hW1⟩ : ∃ W1, W1 = w.alloc (.cells #[.string ⟨#[]⟩, .int .i64 0, .slice none 0 0] 29) := ⟨_, rfl⟩
  obtain ⟨W2, hW2⟩ : ∃ W2, W2 = W1.alloc (.cells #[.string ⟨#[109, 97, 105, 108]⟩, .string ⟨#[110, 97, 109, 101]⟩] 9) := ⟨_, rfl⟩
  obtain ⟨W3, hW3⟩ : ∃ W3, W3 = W2.alloc (.cells #[.string ⟨#[97, 103, 101]⟩] 9) := ⟨_, rfl⟩
  obtain ⟨W4, hW4⟩ : ∃ W4, W4 = W3.alloc (.cells #[.string ⟨#[97, 103, 101]⟩, .string ⟨#[109, 97, 105, 108]⟩, .string ⟨#[116, 111, 119, 110]⟩] 9) := ⟨_, rfl⟩
  obtain ⟨W5, hW5⟩ : ∃ W5, W5 = W4.alloc (.cells #[.slice (some ⟨w.heap.size + 1, 0, none⟩) 2 2, .slice (some ⟨w.heap.size + 1 + 1, 0, none⟩) 1 1, .slice (some ⟨w.heap.size + 1 + 1 + 1, 0, none⟩) 3 3] 24) := ⟨_, rfl⟩
  have HW : Hid (W5 = ((((w.alloc (.cells #[.string ⟨#[]⟩, .int .i64 0, .slice none 0 0] 29)).alloc (.cells #[.string ⟨#[109, 97, 105, 108]⟩, .string ⟨#[110, 97, 109, 101]⟩] 9)).alloc (.cells #[.string ⟨#[97, 103, 101]⟩] 9)).alloc (.cells #[.string ⟨#[97, 103, 101]⟩, .string ⟨#[109, 97, 105, 108]⟩, .string ⟨#[116, 111, 119, 110]⟩] 9)).alloc (.cells #[.slice (some ⟨w.heap.size + 1, 0, none⟩) 2 2, .slice (some ⟨w.heap.size + 1 + 1, 0, none⟩) 1 1, .slice (some ⟨w.heap.size + 1 + 1 + 1, 0, none⟩) 3 3] 24)) := by rw [hW5, hW4, hW3, hW2, hW1]; exact rfl
  have z1 : W1.heap.size = w.heap.size + 1 := by rw [hW1]; simp
  have z2 : W2.heap.size = w.heap.size + 1 + 1 := by rw [hW2, szA, z1]
  have z3 : W3.heap.size = w.heap.size + 1 + 1 + 1 := by rw [hW3, szA, z2]
  have z4 : W4.heap.size = w.heap.size + 1 + 1 + 1 + 1 := by rw [hW4, szA, z3]
  have a1 : Below W1.heap.size W1 W2 := by rw [hW2]; exact (Below.refl _ _).alloc (Nat.le_refl _) _
  have a2 : Below W2.heap.size W2 W3 := by rw [hW3]; exact (Below.refl _ _).alloc (Nat.le_refl _) _
  have a3 : Below W3.heap.size W3 W4 := by rw [hW4]; exact (Below.refl _ _).alloc (Nat.le_refl _) _
  have a4 : Below W4.heap.size W4 W5 := by rw [hW5]; exact (Below.refl _ _).alloc (Nat.le_refl _) _
  have a0 : Below w.heap.size w W1 := by rw [hW1]; exact (Below.refl _ _).alloc (Nat.le_refl _) _
  have R5 : Hid (Bxs W5 w.heap.size 29 #[.string ByteArray.empty, .int .i64 0, .slice none 0 0]) := by
    have h : Bxs W1 w.heap.size 29 #[.string ByteArray.empty, .int .i64 0, .slice none 0 0] := by rw [hW1]; exact Bxs.new _ _ _
    exact ((h.below a1).below a2 |>.below a3).below a4
  have N0 : Hid (BlkS W5 (w.heap.size + 1) (nmS 0)) := by
    have h : BlkS W2 (w.heap.size + 1) (nmS 0) := by rw [hW2, ← z1]; exact alloc_str W1 (nmS 0)
    exact ((h.below a2 h.lt).below a3 (h.below a2 h.lt).lt).below a4 ((h.below a2 h.lt).below a3 (h.below a2 h.lt).lt).lt
  have N1 : Hid (BlkS W5 (w.heap.size + 1 + 1) (nmS 1)) := by
    have h : BlkS W3 (w.heap.size + 1 + 1) (nmS 1) := by rw [hW3, ← z2]; exact alloc_str W2 (nmS 1)
    exact (h.below a3 h.lt).below a4 (h.below a3 h.lt).lt
  have N2 : Hid (BlkS W5 (w.heap.size + 1 + 1 + 1) (nmS 2)) := by
    have h : BlkS W4 (w.heap.size + 1 + 1 + 1) (nmS 2) := by rw [hW4, ← z3]; exact alloc_str W3 (nmS 2)
    exact h.below a4 h.lt
  have D5 : Hid (Bxs W5 (w.heap.size + 1 + 1 + 1 + 1) 24 #[.slice (some ⟨w.heap.size + 1, 0, none⟩) 2 2, .slice (some ⟨w.heap.size + 1 + 1, 0, none⟩) 1 1, .slice (some ⟨w.heap.size + 1 + 1 + 1, 0, none⟩) 3 3]) := by rw [hW5, ← z4]; exact Bxs.new _ _ _
  have b5 : Below w.heap.size w W5 := (((a0.trans (a1.mono (by omega))).trans (a2.mono (by omega))).trans (a3.mono (by omega))).trans (a4.mono (by omega))
  have S5 : Hid (Src 126 B p a len cap W5) := hs.below b5
  have G5 : Hid (w.grownBy W5 (some p)) := grown_below b5
  clear hW1 hW2 hW3 hW4 hW5 z1 z2 z3 z4 a0 a1 a2 a3 a4 b5 hs
  go_enter Tryz.func57, Tryz.ntmps57
  go_wp2_with fail
  rw [← HW.out]
  clear HW
  refine (n_any B p a len cap 3 W5 S5.out (by omega)).mono ?_
  rintro e w6 ⟨⟨r, rfl, r0, r1, -⟩, hs6, hg6⟩
  have r2 := r1 (by omega)
  obtain ⟨R, rfl⟩ := Int.eq_ofNat_of_zero_le r0
  obtain ⟨g, ns, hcell, hnm, hgw, hnl, hnz⟩ : ∃ (g : Nat) (ns : List ByteArray), w6.cell? ⟨w.heap.size + 1 + 1 + 1 + 1, R, none⟩ = some (.slice (some ⟨g, 0, none⟩) ns.length ns.length) ∧ BlkS w6 g ns ∧ w.heap.size ≤ g ∧ ns.length ≤ 3 ∧ ∀ x ∈ ns, x.size ≤ 4 := by
    have d6 := D5.out.grown hg6 (fun e => by cases e; omega)
    have n0 := N0.out.touch hg6 (by omega)
    have n1 := N1.out.touch hg6 (by omega)
    have n2 := N2.out.touch hg6 (by omega)
    match R, r2 with
    | 0, _ => exact ⟨_, nmS 0, d6.cell 0, n0, by omega, by decide, by decide⟩
    | 1, _ => exact ⟨_, nmS 1, d6.cell 1, n1, by omega, by decide, by decide⟩
    | 2, _ => exact ⟨_, nmS 2, d6.cell 2, n2, by omega, by decide, by decide⟩
    | R + 3, h => omega
  have S6 : Hid (LrS w B p a len cap g ns (.slice (some ⟨w6.heap.size, 0, none⟩) 0 0) (.slice (some ⟨w6.heap.size + 1, 0, none⟩) 0 0) [] [] ((w6.alloc (.cells #[] 9)).alloc (.cells #[] 9))) := by
    have hsz : w.heap.size ≤ w6.heap.size := (touch_trans G5.out hg6).size
    have hng := hnm.lt
    have hz : (w6.alloc (.cells #[] 9)).heap.size = w6.heap.size + 1 := szA _ _
    have e1 : (w6.alloc (.cells #[] 9)).ownsRow w.heap.size 9 1 (.slice (some ⟨w6.heap.size, 0, none⟩) 0 0) ([] : List ByteArray).length (strRow []) := ownS_mono (ownS_none w6) hsz
    have e2 : ((w6.alloc (.cells #[] 9)).alloc (.cells #[] 9)).ownsRow w.heap.size 9 1 (.slice (some ⟨w6.heap.size + 1, 0, none⟩) 0 0) ([] : List ByteArray).length (strRow []) := by
      have := ownS_none (w6.alloc (.cells #[] 9))
      rw [hz] at this
      exact ownS_mono this (by omega)
    have b : Below w6.heap.size w6 ((w6.alloc (.cells #[] 9)).alloc (.cells #[] 9)) := alB ((Below.refl _ _).alloc (Nat.le_refl _) _) _
    exact ⟨hs6.below b, touch_below (touch_trans G5.out hg6) b, (R5.out.grown hg6 (fun e => by cases e; omega)).below b, hnm.below b hng, e1.alloc _, e2, fun j hj he => by
        have q1 : w6.heap.size = j := by simpa [Value.ownBlock] using hj
        have q2 : w6.heap.size + 1 = j := by simpa [Value.ownBlock] using he
        omega, fun e => by
        have q1 : w6.heap.size = g := by simpa [Value.ownBlock] using e
        omega, fun e => by
        have q1 : w6.heap.size + 1 = g := by simpa [Value.ownBlock] using e
        omega, hp, hgw⟩
  clear hs6 hg6 hnm D5 N0 N1 N2 R5 S5 G5 r1 r0
  have i3 : (R : Int) < 3 := by omega
  go_wp2_with fail
  go_loopw [6, 7, 8] (fun v1 v2 i wr => ∃ (k : Nat) (ss vs : List ByteArray) (u1 u2 : Value), u1 = v1 ∧ u2 = v2 ∧ i = .int .i64 k ∧ k ≤ ns.length ∧ Hid (ss.length = k ∧ vs.length = k) ∧ Hid ((∀ x ∈ ss, x.size ≤ 9) ∧ ∀ x ∈ vs, x.size ≤ 17) ∧ Hid (LrS w B p a len cap g ns u1 u2 ss vs wr)) (fun _ _ i _ => ns.length - (Go.RowKit.intOf i).toNat)
  case atStart => exact ⟨0, [], [], _, _, rfl, rfl, rfl, Nat.zero_le _, ⟨rfl, rfl⟩, ⟨(fun x hx => by simp at hx), (fun x hx => by simp at hx)⟩, S6⟩
  case round =>
    clear S6 hcell
    obtain ⟨k, ss, vs, v1, v2, rfl, rfl, rfl, hk, HL, HZ, HS⟩ := hrel
    by_cases hlt : k < ns.length
    · have i1 : (k : Int) < ns.length := by omega
      go_wp2_with fail
      refine (l07Salt_any B p a len cap wr HS.out.src).mono ?_
      rintro e y1 ⟨⟨s1, rfl, hs1⟩, hsy, hgy⟩
      have S1 := HS.out.draw hsy hgy
      obtain ⟨g1, c1, y2, hrun1, S2⟩ := S1.app1 s1 (by have := HL.out.1; omega)
      have HS2 : Hid (LrS w B p a len cap g ns (.slice (some ⟨g1, 0, none⟩) (ss.length + 1) c1) v2 (ss ++ [s1]) vs y2) := S2
      clear S1 S2 hsy hgy HS
      go_wp2_with (at_builtin; refine wpList_append_run rfl _ _ _ rfl _ _ _ _ rfl rfl hrun1 ?_)
      refine (l07Value_any B p a len cap y2 HS2.out.src).mono ?_
      rintro e y3 ⟨⟨s2, rfl, hs2⟩, hsy, hgy⟩
      have S1 := HS2.out.draw hsy hgy
      obtain ⟨g2, c2, y4, hrun2, S2⟩ := S1.swap.app1 s2 (by have := HL.out.2; omega)
      have HS4 : Hid (LrS w B p a len cap g ns (.slice (some ⟨g1, 0, none⟩) (ss.length + 1) c1) (.slice (some ⟨g2, 0, none⟩) (vs.length + 1) c2) (ss ++ [s1]) (vs ++ [s2]) y4) := S2.swap
      have HL2 : Hid ((ss ++ [s1]).length = k + 1 ∧ (vs ++ [s2]).length = k + 1) := ⟨by rw [List.length_append, HL.out.1]; rfl, by rw [List.length_append, HL.out.2]; rfl⟩
      have HZ2 : Hid ((∀ x ∈ ss ++ [s1], x.size ≤ 9) ∧ ∀ x ∈ vs ++ [s2], x.size ≤ 17) := ⟨fun x hx => by
          rcases List.mem_append.1 hx with h | h
          · exact HZ.out.1 x h
          · obtain rfl := List.mem_singleton.1 h; exact hs1, fun x hx => by
          rcases List.mem_append.1 hx with h | h
          · exact HZ.out.2 x h
          · obtain rfl := List.mem_singleton.1 h; exact hs2⟩
      clear S1 S2 hsy hgy HS2 HL HZ hrun1
      go_wp2_with (at_builtin; refine wpList_append_run rfl _ _ _ rfl _ _ _ _ rfl rfl hrun2 ?_)
      go_roundw
      case rel => exact ⟨k + 1, ss ++ [s1], vs ++ [s2], _, _, rfl, rfl, by go_num, by omega, HL2, HZ2, HS4⟩
      case measure => simp [Go.RowKit.intOf]; omega
    · have hkn : ¬ (k : Int) < ns.length := by omega
      obtain ⟨z1, hz1⟩ : ∃ z1, z1 = wr.alloc (.cells #[.string ⟨#[117, 115, 101, 114]⟩, .string ⟨#[98, 105, 108, 108]⟩] 9) := ⟨_, rfl⟩
      have HZ1 : Hid (z1 = wr.alloc (.cells #[.string ⟨#[117, 115, 101, 114]⟩, .string ⟨#[98, 105, 108, 108]⟩] 9)) := hz1
      have BK : Hid (BlkS z1 wr.heap.size kindS) := by rw [hz1]; exact alloc_str wr kindS
      have S1 : Hid (LrS w B p a len cap g ns v1 v2 ss vs z1) := by rw [hz1]; exact HS.out.al _
      have hne : wr.heap.size ≠ p := by have := HS.out.src.lt; omega
      clear hz1 HS
      go_wp2_with fail
      rw [← HZ1.out]
      refine (pick_any B p a len cap wr.heap.size kindS z1 S1.out.src BK.out hne (by decide) (by decide)).mono ?_
      rintro e y1 ⟨⟨kd, hkd, rfl⟩, hsy, hgy⟩
      have S2 := S1.out.draw hsy hgy
      obtain ⟨p2, q2, rfl, hq2, t2⟩ := ownS_form S2.own1
      obtain ⟨p3, q3, rfl, hq3, t3⟩ := ownS_form S2.own2
      have hkz := kindS_small kd hkd
      have HRO := specRowOf_any kd at_ (some ⟨g, 0, none⟩) ns.length ns p2 q2 ss p3 q3 vs y1 S2.nm.txt t2 t3 (Nat.le_refl _) hq2 hq3 (by unfold maxLen; omega) (fun x hx => by have := hnz x hx; unfold maxLen; omega) (fun x hx => by have := HZ.out.1 x hx; unfold maxLen; omega) (fun x hx => by have := HZ.out.2 x hx; unfold maxLen; omega)
      have HS2 : Hid (LrS w B p a len cap g ns (.slice p2 ss.length q2) (.slice p3 vs.length q3) ss vs y1) := S2
      have HRR : Hid (roC kd at_ ns ss vs = 0 → RwR kd at_ (roF kd at_ ns ss vs) ∧ roK kd at_ ns ss vs = kd ∧ roA kd at_ ns ss vs = at_) := ro_right
      clear S1 S2 hsy hgy BK HZ1 HZ HL t2 t3 hkz hkd
      generalize roC kd at_ ns ss vs = C at *
      generalize roK kd at_ ns ss vs = RK at *
      generalize roA kd at_ ns ss vs = RA at *
      generalize roF kd at_ ns ss vs = RF at *
      go_wp2_with fail
      refine HRO.mono ?_
      rintro e y2 ⟨v, rfl, own, b2⟩
      obtain ⟨q, cc, rfl, hcc, -⟩ := ownF_form own
      go_upto_region 10 with fail
      obtain ⟨y3, hy3⟩ : ∃ y3, y3 = y2.alloc (.cells #[.string RK, .int .i64 RA, .slice q RF.length cc, .int .i64 C] 89) := ⟨_, rfl⟩
      rw [← hy3]
      obtain ⟨Z, hZ⟩ : ∃ Z, Z = y2.heap.size := ⟨_, rfl⟩
      rw [← hZ]
      have BZ : Bxs y3 Z 89 #[.string RK, .int .i64 RA, .slice q RF.length cc, .int .i64 C] := by rw [hy3, hZ]; exact Bxs.new _ _ _
      have b3 : Below y1.heap.size y1 y3 := by rw [hy3]; exact alB b2 _
      have hsz : w.heap.size + 1 ≤ y1.heap.size := HS2.out.res.lt
      have own3 : Hid (y3.ownsRow y1.heap.size 103 5 (.slice q RF.length cc) RF.length (fldRow RF)) := by rw [hy3]; exact own.alloc _
      have G3 : Hid (w.grownBy y3 (some p)) := touch_below HS2.out.gr b3
      have S3 : Hid (Src 126 B p a len cap y3) := HS2.out.src.below b3
      have R3 : Hid (Bxs y3 w.heap.size 29 #[.string ByteArray.empty, .int .i64 0, .slice none 0 0]) := HS2.out.res.below b3
      obtain ⟨c0, c1, c2, c3⟩ := BZ.four
      clear hy3 hZ BZ b3 own b2 HS2 HRO
      cases hC : (C != 0) with
      | false =>
        have hC0 : C = 0 := by simpa using hC
        obtain ⟨rr, rfl, rfl⟩ := HRR.out hC0
        have hPut := fun x0 x1 x2 => put3 G3.out S3.out (ownS_mono own3.out (show w.heap.size ≤ y1.heap.size by omega)) hp (Nat.le_refl _) (fun e => by have := (own3.out.lt _ e).1; omega) x0 x1 x2
        have HP : Hid (∀ x0 x1 x2 : Value, _) := hPut
        have HRr : Hid (RwR RK RA RF) := rr
        have f0 := R3.out.fr 0
        have f1 := R3.out.fr 1
        have f2 := R3.out.fr 2
        have d0 : y3.cell? ⟨w.heap.size, 0, none⟩ = some (.string ByteArray.empty) := R3.out.cell 0
        have d1 : y3.cell? ⟨w.heap.size, 1, none⟩ = some (.int .i64 0) := R3.out.cell 1
        have d2 : y3.cell? ⟨w.heap.size, 2, none⟩ = some (.slice none 0 0) := R3.out.cell 2
        clear hPut rr HRR G3 S3 own3 R3
        go_wp2_with fail
        refine bodyPost_ret (v := .agg #[.string RK, .int .i64 RA, .slice q RF.length cc]) (by simp [results, Tryz.results57, go_sem, d0, d1, d2]) rfl ?_
        obtain ⟨o1, o2, o3⟩ := HP.out (.string RK) (.int .i64 RA) (.slice q RF.length cc)
        exact ⟨⟨RK, RF, _, rfl, o1, HRr.out⟩, o2, o3⟩
      | true =>
        have hC0 : (C == 0) = false := by simpa using hC
        clear HRR c0 c1 c2 hcc
        obtain ⟨u1, hu1⟩ : ∃ u1, u1 = ((y3.alloc (.cells #[.string ⟨#[97, 103, 101]⟩] 9)).alloc (.cells #[.string ⟨#[115]⟩] 9)).alloc (.cells #[.string ⟨#[55]⟩] 9) := ⟨_, rfl⟩
        have HU1 : Hid (u1 = ((y3.alloc (.cells #[.string ⟨#[97, 103, 101]⟩] 9)).alloc (.cells #[.string ⟨#[115]⟩] 9)).alloc (.cells #[.string ⟨#[55]⟩] 9)) := hu1
        have bu : Below y3.heap.size y3 u1 := by rw [hu1]; exact alB (alB ((Below.refl _ _).alloc (Nat.le_refl _) _) _) _
        have tA : TxtAt u1 (some ⟨y3.heap.size, 0, none⟩) [⟨#[97, 103, 101]⟩] := by
          rw [hu1]
          exact (((alloc_str y3 [⟨#[97, 103, 101]⟩]).txt.below ((Below.refl _ _).alloc (Nat.le_refl _) _)).below ((Below.refl _ _).alloc (Nat.le_refl _) _))
        have tB : TxtAt u1 (some ⟨y3.heap.size + 1, 0, none⟩) [⟨#[115]⟩] := by
          rw [hu1]
          have h := (alloc_str (y3.alloc (.cells #[.string ⟨#[97, 103, 101]⟩] 9)) [⟨#[115]⟩]).txt
          rw [szA] at h
          exact h.below ((Below.refl _ _).alloc (Nat.le_refl _) _)
        have tC : TxtAt u1 (some ⟨y3.heap.size + 1 + 1, 0, none⟩) [⟨#[55]⟩] := by
          rw [hu1]
          have h := (alloc_str ((y3.alloc (.cells #[.string ⟨#[97, 103, 101]⟩] 9)).alloc (.cells #[.string ⟨#[115]⟩] 9)) [⟨#[55]⟩]).txt
          rw [szA, szA] at h
          exact h
        have HFB := specRowOf_any userS at_ (some ⟨y3.heap.size, 0, none⟩) 1 [⟨#[97, 103, 101]⟩] (some ⟨y3.heap.size + 1, 0, none⟩) 1 [⟨#[115]⟩] (some ⟨y3.heap.size + 1 + 1, 0, none⟩) 1 [⟨#[55]⟩] u1 tA tB tC (by decide) (by decide) (by decide) (by decide) (by decide) (by decide) (by decide)
        have hfb := fb_right at_ h0 h1
        obtain ⟨rr, e1, e2⟩ := ro_right hfb
        rw [hfb, e1, e2] at HFB
        have HFB' : Hid (Calls Tryz.prog 124 #[.string ⟨#[117, 115, 101, 114]⟩, .int .i64 at_, .slice (some ⟨y3.heap.size, 0, none⟩) 1 1, .slice (some ⟨y3.heap.size + 1, 0, none⟩) 1 1, .slice (some ⟨y3.heap.size + 1 + 1, 0, none⟩) 1 1] u1 fun e w' => ∃ v, e = .returned (.agg #[.string userS, .int .i64 at_, v, .int .i64 0]) ∧ w'.ownsRow u1.heap.size 103 5 v (roF userS at_ [⟨#[97, 103, 101]⟩] [⟨#[115]⟩] [⟨#[55]⟩]).length (fldRow (roF userS at_ [⟨#[97, 103, 101]⟩] [⟨#[115]⟩] [⟨#[55]⟩])) ∧ Below u1.heap.size u1 w') := HFB
        generalize roF userS at_ [⟨#[97, 103, 101]⟩] [⟨#[115]⟩] [⟨#[55]⟩] = FF at *
        have HRr : Hid (RwR userS at_ FF) := rr
        have HBu : Hid (Below y3.heap.size y3 u1) := bu
        have hfr := field_rowD
        clear hu1 tA tB tC HFB hfb rr e1 e2 bu
        go_wp2_with fail
        rw [← HU1.out]
        refine HFB'.out.mono ?_
        rintro e y5 ⟨v5, rfl, own5, b5⟩
        obtain ⟨q5, cc5, rfl, hcc5, -⟩ := ownF_form own5
        have bb := chainB HBu.out b5
        have hsu : y3.heap.size ≤ u1.heap.size := HBu.out.size
        have hsy := R3.out.lt
        have hPut := fun x0 x1 x2 => put3 (touch_below G3.out bb) (S3.out.below bb) (ownS_mono own5 (show w.heap.size ≤ u1.heap.size by omega)) hp (Nat.le_refl _) (fun e => by have := (own5.lt _ e).1; omega) x0 x1 x2
        have HP : Hid (∀ x0 x1 x2 : Value, _) := hPut
        have R5 := R3.out.below bb
        have f0 := R5.fr 0
        have f1 := R5.fr 1
        have f2 := R5.fr 2
        have d0 : y5.cell? ⟨w.heap.size, 0, none⟩ = some (.string ByteArray.empty) := R5.cell 0
        have d1 : y5.cell? ⟨w.heap.size, 1, none⟩ = some (.int .i64 0) := R5.cell 1
        have d2 : y5.cell? ⟨w.heap.size, 2, none⟩ = some (.slice none 0 0) := R5.cell 2
        clear hPut G3 S3 own3 R3 own5 bb b5 R5 HBu HFB' HU1
        go_wp2_with fail
        refine bodyPost_ret (v := .agg #[.string userS, .int .i64 at_, .slice q5 FF.length cc5]) (by simp [results, Tryz.results57, go_sem, d0, d1, d2]) rfl ?_
        obtain ⟨o1, o2, o3⟩ := HP.out (.string userS) (.int .i64 at_) (.slice q5 FF.length cc5)
        exact ⟨⟨userS, FF, _, rfl, o1, HRr.out⟩, o2, o3⟩
end Go.Proofs.YtepmoihgemhjcaaGreatDoor
/-
  What LogAdd, LogForget and LogTime answer of a log as it is drawn is one, where the code is zero (plain).
-/
namespace Go.Proofs.YtepmoihgemhjcaaGreatDoor
open Go.RowKit Go.Lib
set_option linter.unusedVariables false
set_option maxRecDepth 20000

theorem lo_lf (k : ByteArray) (at_ : Int) (fs : List Fld) : (lfB k at_ fs).size ≤ 33 := by
  unfold lfB
  split
  · rw [ByteArray.size_append, digB_size]; decide
  · simp
theorem la_drawn {rs : List Rw} {lv : List ByteArray} {now : Int} {r : Rw} (hd : LoD 6 65 1000000 rs lv now) (hr : r.fs.length ≤ 1048576 ∧ r.k.size ≤ maxLen ∧ FldsLe r.fs) (h : laC rs lv now r = 0) : LoD 6 65 1000000 (laR rs lv now r) (laL rs lv now r) (laN rs lv now r) := by
  have e1 : laR rs lv now r = rs ++ [r] := by unfold laR; rw [if_pos h]
  have e2 : laL rs lv now r = lv ++ [lfB r.k r.a r.fs] := by unfold laL; rw [if_pos h]
  have e3 : laN rs lv now r = now := by unfold laN; rw [if_pos h]
  unfold laC at h
  split at h
  · rename_i hk
    by_cases h6 : rs.length = 6
    · rw [if_pos h6] at h; omega
    unfold laK at hk
    rw [Bool.and_eq_true] at hk
    obtain ⟨l1, l2, -⟩ := lg_right hk.1
    rw [e1, e2, e3]
    have hf1 : 1 ≤ r.fs.length := by
      have h2 := hk.2
      rw [Bool.and_eq_true] at h2
      exact (rwB_parts h2.1).2.2.1.1
    refine ⟨by simp; omega, by simp; omega, fun x hx => ?_, fun x hx => ?_, hd.t0, hd.t1, fun x hx => ?_⟩
    · rcases List.mem_append.1 hx with g | g
      · exact hd.le x g
      · rw [List.mem_singleton.1 g]; exact hr
    · rcases List.mem_append.1 hx with g | g
      · exact hd.lz x g
      · rw [List.mem_singleton.1 g]
        have := lo_lf r.k r.a r.fs
        unfold maxLen; omega
    · rcases List.mem_append.1 hx with g | g
      · exact hd.f1 x g
      · rw [List.mem_singleton.1 g]; exact hf1
  · omega
theorem lf_drawn {rs : List Rw} {lv : List ByteArray} {now r f y : Int} (hd : LoD 6 65 1000000 rs lv now) (h : lfC rs lv now r f y = 0) : LoD 6 65 1000000 (lfR rs lv now r f y) (lfL rs lv now r f y) (lfN rs lv now r f y) := by
  obtain ⟨e1, e2, e3⟩ := lf_good h
  unfold lfC at h
  split at h
  · rename_i hk
    rw [Bool.and_eq_true] at hk
    obtain ⟨l1, l2, -⟩ := lg_right hk.1
    obtain ⟨I, J, hI, hJ, rfl, rfl, -⟩ := fc_zero h
    have hrI : rs.getD (I : Int).toNat rwZ = rs[I] := by rw [Int.toNat_natCast, List.getD_eq_getElem?_getD, List.getElem?_eq_getElem hI, Option.getD_some]
    have hz := hd.le _ (List.getElem_mem hI)
    rw [e1, e2, e3]
    refine ⟨by simpa using l1, by simp; omega, fun x hx => ?_, fun x hx => ?_, hd.t0, hd.t1, fun x hx => ?_⟩
    · rcases List.mem_or_eq_of_mem_set hx with g | rfl
      · exact hd.le x g
      · unfold fgt
        rw [hrI]
        refine ⟨by simpa using hz.1, hz.2.1, fun g hg => ?_⟩
        rcases List.mem_or_eq_of_mem_set hg with q | rfl
        · exact hz.2.2 g q
        · have hJ2 : rs[I].fs.getD (J : Int).toNat fldD = rs[I].fs[J] := by rw [Int.toNat_natCast, List.getD_eq_getElem?_getD, List.getElem?_eq_getElem hJ, Option.getD_some]
          have := hz.2.2 _ (List.getElem_mem hJ)
          rw [hJ2]
          exact ⟨this.1, this.2.1, Nat.zero_le _, Nat.zero_le _⟩
    · rcases List.mem_append.1 hx with g | g
      · exact hd.lz x g
      · rw [List.mem_singleton.1 g]
        have := (tmRaw_size ⟨(I : Int), (J : Int), y, now⟩).2
        unfold maxLen; omega
    · rcases List.mem_or_eq_of_mem_set hx with g | rfl
      · exact hd.f1 x g
      · unfold fgt
        rw [hrI]
        simpa using hd.f1 _ (List.getElem_mem hI)
  · omega
theorem lt_drawn {rs : List Rw} {lv : List ByteArray} {now t : Int} (hd : LoD 6 65 1000000 rs lv now) (h : ltC rs lv now t = 0) : LoD 6 65 1000000 (ltmR rs lv now t) (ltL rs lv now t) (ltN rs lv now t) := by
  unfold ltC at h
  split at h
  · rename_i hk
    have e1 : ltmR rs lv now t = rs := by unfold ltmR; rw [if_pos hk]
    have e2 : ltL rs lv now t = lv := by unfold ltL; rw [if_pos hk]
    have e3 : ltN rs lv now t = mxB now t := by unfold ltN; rw [if_pos hk]
    unfold ltB at hk
    rw [Bool.and_eq_true] at hk
    have ht := hk.2
    unfold timeB at ht
    have ht2 := of_decide_eq_true ht
    have a0 := hd.t0
    have a1 := hd.t1
    rw [e1, e2, e3]
    refine ⟨hd.n, hd.m, hd.le, hd.lz, ?_, ?_, hd.f1⟩ <;> (unfold mxB; split <;> omega)
  · omega
end Go.Proofs.YtepmoihgemhjcaaGreatDoor
/-
  What spoil draws of a text: some text that is at most one byte longer.
-/
namespace Go.Proofs.YtepmoihgemhjcaaGreatDoor
open Go.RowKit Go.Lib
set_option linter.unusedVariables false
set_option maxRecDepth 20000

theorem conv_oneB (n : Int) (w : World) : (convert 22 9 (.slice (some ⟨w.heap.size, 0, none⟩) 1 1)).run Tryz.prog (w.alloc (.cells #[.int .u8 n] 5)) = .ok (.string (strOfNums [n])) (w.alloc (.cells #[.int .u8 n] 5)) :=
  own_convD (base := w.heap.size) (xs := [n]) ⟨by simp, .inr ⟨w.heap.size, 1, #[.int .u8 n], rfl, Nat.le_refl _, heap_alloc_new w _, Nat.le_refl _, by unfold maxLen; omega, rfl, by simp⟩⟩ rfl
theorem size_app3 (a b c : ByteArray) : (a ++ b ++ c).size = a.size + b.size + c.size := by simp [ByteArray.size_append]
theorem belowDN {B : Nat} {a w : World} (h : Below B a w) (n : Nat) : Below B a (w.drewN n) := ⟨h.os, h.tape, h.output, h.size, h.block⟩
def SpoiltT (B p : Nat) (a : Option Addr) (len cap : Nat) (t : ByteArray) (w : World) (e : Ending) (w' : World) : Prop :=
  (∃ u : ByteArray, e = .returned (.string u) ∧ u.size ≤ t.size + 1) ∧ Src 126 B p a len cap w' ∧ w.grownBy w' (some p)
set_option maxHeartbeats 4000000 in
theorem spoilT_any (B p : Nat) (a : Option Addr) (len cap : Nat) (t : ByteArray) (w : World) (hs : Src 126 B p a len cap w) (ht : t.size ≤ 1000) :
    Calls Tryz.prog 90 #[.pointer (some ⟨p, 0, none⟩), .string t] w (SpoiltT B p a len cap t w) := by
  go_enter Tryz.func90, Tryz.ntmps90
  go_wp2_with fail
  refine (n_any B p a len cap ((t.size : Int) + 1) w hs (by omega)).mono ?_
  rintro e w2 ⟨⟨r, rfl, hr0, hr1, hr2⟩, hs2, G2⟩
  obtain ⟨K, rfl⟩ := Int.eq_ofNat_of_zero_le hr0
  have hK : K ≤ t.size := by
    rcases Nat.eq_zero_or_pos t.size with h | h
    · have := hr2 (by omega); omega
    · have := hr1 (by omega); omega
  clear hr0 hr1 hr2 hs
  go_wp2_with fail
  refine (n_any B p a len cap 17 w2 hs2 (by omega)).mono ?_
  rintro e w3 ⟨⟨r, rfl, hr0, hr1, -⟩, hs3, G3⟩
  obtain ⟨R, rfl⟩ := Int.eq_ofNat_of_zero_le hr0
  have hR : R < 17 := by have := hr1 (by omega); omega
  have G3' : Hid (w.grownBy w3 (some p)) := touch_trans G2 G3
  have H3 : Hid (Src 126 B p a len cap w3) := hs3
  clear hr0 hr1 hs2 hs3 G2 G3
  have hcv := fun n => conv_oneB n w3
  obtain ⟨W4, hW4⟩ : ∃ W4, W4 = fun n : Int => w3.alloc (.cells #[.int .u8 n] 5) := ⟨_, rfl⟩
  have HB : Hid (∀ n, Src 126 B p a len cap (W4 n) ∧ w.grownBy (W4 n) (some p)) := fun n => by
    rw [hW4]
    have b : Below w3.heap.size w3 (w3.alloc (.cells #[.int .u8 n] 5)) := (Below.refl _ _).alloc (Nat.le_refl _) _
    exact ⟨H3.out.below b, touch_below G3'.out b⟩
  have HW4 : Hid (∀ n, w3.alloc (.cells #[.int .u8 n] 5) = W4 n) := fun n => by rw [hW4]
  have hz1 : ∀ n : Int, (strOfNums [n]).size = 1 := fun n => by rw [strOfNums_size]; rfl
  clear hW4 H3 G3'
  go_upto_region 3 with fail
  rw [HW4.out]
  generalize (⟨#[32, 10, 48, 97, 45, 110, 44, 58, 93, 255, 40, 120, 126, 49, 128, 225, 59]⟩ : ByteArray)[R] = cb at *
  obtain ⟨x4, hx4⟩ : ∃ x4, x4 = W4 (cb.toNat : Int) := ⟨_, rfl⟩
  obtain ⟨hs4, hg4⟩ := HB.out (cb.toNat : Int)
  obtain ⟨c1, hc1⟩ : ∃ c1, c1 = strOfNums [(cb.toNat : Int)] := ⟨_, rfl⟩
  have hzc := hz1 (cb.toNat : Int)
  rw [← hx4] at hs4 hg4 ⊢
  rw [← hc1] at hzc ⊢
  clear hx4 HB HW4 hz1 hc1 hcv
  have HK : Hid (K ≤ t.size) := hK
  have hKi : (K : Int) ≤ (t.size : Int) := by omega
  have HZ : Hid (c1.size = 1) := hzc
  have HEnd : Hid (∀ (x : World) (u : ByteArray) (m : Nat), Src 126 B p a len cap x → w.grownBy x (some p) → u.size ≤ t.size + 1 → SpoiltT B p a len cap t w (.returned (.string u)) (x.drewN m)) := fun x u m h1 h2 h3 => ⟨⟨u, rfl, h3⟩, h1.below (belowDN (Below.refl _ _) m), touch_below h2 (belowDN (Below.refl _ _) m)⟩
  have hmz : t.size ≤ 9223372036854775807 := by omega
  have v1 : (t.extract 0 K).size ≤ 1000 := by simp; omega
  have v2 : c1.size ≤ 10 := by omega
  have v3 : (t.extract 0 K ++ c1).size ≤ 1010 := by rw [ByteArray.size_append]; omega
  have v4 : (t.extract K t.size).size ≤ 1000 := by simp; omega
  have v5 : (t.extract (K + 1) t.size).size ≤ 1000 := by simp; omega
  clear hzc
  by_cases hk : K = t.size
  · have e1 : ((K : Int) == (t.size : Int)) = true := beq_iff_eq.2 (by omega)
    have HE : Hid _ := fun m => HEnd.out x4 (t.extract 0 K ++ c1 ++ t.extract K t.size) m hs4 hg4 (by rw [size_app3, HZ.out]; simp; omega)
    clear HEnd hs4 hg4 hk
    go_wp2_with fail
    go_quiet (fail)
    go_wp2_with fail
    go_ret
    exact HE.out _
  have e1 : ((K : Int) == (t.size : Int)) = false := beq_eq_false_iff_ne.2 (by omega)
  have hlt : K < t.size := by omega
  have H4 : Hid (Src 126 B p a len cap x4) := hs4
  have G4 : Hid (w.grownBy x4 (some p)) := hg4
  clear hs4 hg4 hk
  go_wp2_with fail
  refine (one_any B p a len cap 3 x4 H4.out (by omega)).mono ?_
  rintro e x5 ⟨⟨bo, rfl⟩, hs5, hg5⟩
  have hg5 := touch_trans G4.out hg5
  cases bo
  · have H5 : Hid (Src 126 B p a len cap x5) := hs5
    have G5 : Hid (w.grownBy x5 (some p)) := hg5
    clear hs5 hg5 H4 G4
    go_wp2_with fail
    refine (one_any B p a len cap 2 x5 H5.out (by omega)).mono ?_
    rintro e x6 ⟨⟨bo, rfl⟩, hs6, hg6⟩
    have hg6 := touch_trans G5.out hg6
    have hw1 : IntKind.i64.wrap ((K : Int) + 1) = (K : Int) + 1 := by rw [IntKind.wrap_i64]; omega
    have hk1 : (K : Int) + 1 ≤ (t.size : Int) := by omega
    have hk2 : K + 1 ≤ t.size := by omega
    cases bo
    · have HE : Hid _ := fun m => HEnd.out x6 (t.extract 0 K ++ c1 ++ t.extract (K + 1) t.size) m hs6 hg6 (by rw [size_app3, HZ.out]; simp; omega)
      clear HEnd hs6 hg6 H5 G5
      go_wp2_with fail
      go_quiet (fail)
      go_wp2_with fail
      go_ret
      exact HE.out _
    · have HE : Hid _ := fun m => HEnd.out x6 (t.extract 0 K ++ t.extract (K + 1) t.size) m hs6 hg6 (by simp [ByteArray.size_append]; omega)
      clear HEnd hs6 hg6 H5 G5
      go_wp2_with fail
      go_quiet (fail)
      go_wp2_with fail
      go_ret
      exact HE.out _
  · have HE : Hid _ := fun m => HEnd.out x5 (t.extract 0 K ++ c1 ++ t.extract K t.size) m hs5 hg5 (by rw [size_app3, HZ.out]; simp; omega)
    clear HEnd hs5 hg5 H4 G4
    go_wp2_with fail
    go_quiet (fail)
    go_wp2_with fail
    go_ret
    exact HE.out _
end Go.Proofs.YtepmoihgemhjcaaGreatDoor
