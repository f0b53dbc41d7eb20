/-
  Parts of one proof, laid as one text: HeadLaw, LwPrf, LwAt, DrawLo, DrawFld, FldOM; what each says stands at its head.
-/
import Derived.Test.YtnknnfgimiljjaaGreatDoorRows
import Derived.Test.YtnknnfgimiljjaaGreatDoorBytesDigMath
import Derived.Test.YtnknnfgimiljjaaGreatDoorTreeMathSlABxKSlBOwnSJoinedOwnB
import Derived.Test.YtnknnfgimiljjaaGreatDoorPowerHalvesTreeTree2TreeHPathMathIncMathTakerTakePathConMathTakeProofConI
import Derived.Test.YtnknnfgimiljjaaGreatDoorProofLawSrcDrawsDrawKitAppSSomeDrawTree
import Derived.Test.YtnknnfgimiljjaaGreatDoorGetValGetTxtNumMathFldRdNumFromTmbMathLgMath
import Derived.Test.YtnknnfgimiljjaaGreatDoorLgAtKLgAnsLgRtShwKOneKFldGFldBlkRwBlkRowOpsLgO
import Derived.Test.YtnknnfgimiljjaaGreatDoorLawLgLawLhLawLzLawLmPrfLs
import Derived.Test.YtnknnfgimiljjaaGreatDoorProofG
import Derived.Test.YtnknnfgimiljjaaGreatDoorProof2ProofIExtLgLgLaw
import Derived.Handy
import Derived.WalkSpells
import Derived.OwnWalk
import Derived.Deep.RegionHeld3
import Derived.Deep.Cut
import Derived.Test.YtnknnfgimiljjaaGreatDoorTimeBPutMathPutNumPutTextFldMathFldRiseScanMath
import Derived.Test.YtnknnfgimiljjaaGreatDoorLtMathLaMathLfMathTakesLStepAppGrKDigAllTimeIImplFCBlNotTakes
import Derived.Laws.OwnMore
import Derived.Test.YtnknnfgimiljjaaGreatDoorNameRight
/-
  Promise 14 as plain laws: each leaf of a right log is proved to be in it, each size of it to be the beginning of all, also behind a forgetting.
-/
namespace Go.Proofs.YtnknnfgimiljjaaGreatDoor
open Go.RowKit Go.Lib
set_option linter.unusedVariables false

theorem lg_ent {rs : List Rw} {lv : List ByteArray} {now : Int} (h : lgB rs lv now = true) : entB lv = true := by
  have := ent_take (lg_right h).2.1 (lg_small h) lv.length
  rwa [List.take_length] at this
theorem ro_all {rs : List Rw} {lv : List ByteArray} {now : Int} (h : lgB rs lv now = true) : roO rs lv now (lv.length : Int) = treeA lv := by
  unfold roO
  rw [if_pos h, if_pos (by omega), Int.toNat_natCast, List.take_length, treeA_of (lg_ent h)]
theorem ro_some {rs : List Rw} {lv : List ByteArray} {now : Int} (h : lgB rs lv now = true) {m : Nat} (hm : m ≤ lv.length) : roO rs lv now (m : Int) = treeA (lv.take m) := by
  unfold roO
  rw [if_pos h, if_pos (by omega), Int.toNat_natCast, treeA_of (entB_take (lg_ent h) m)]
theorem hd_proof {rs : List Rw} {lv : List ByteArray} {now : Int} (h : lgB rs lv now = true) {k : Nat} (hk : k < lv.length) : pgB (pfL rs lv now (k : Int)) (pfI rs lv now (k : Int)) (pfS rs lv now (k : Int)) (pfP rs lv now (k : Int)) (roO rs lv now (lv.length : Int)) = true := by
  have ho : pfOk rs lv now (k : Int) := ⟨h, by omega, by omega⟩
  obtain ⟨e1, e2, e3, e4⟩ := pf_yes ho hk
  rw [e1, e2, e3, e4, ro_all h, pg_some (lg_small h _ (List.getElem_mem hk))]
  have e5 : pathB lv k = pathA lv (k : Int) := by unfold pathA; rw [if_pos ⟨lg_ent h, by omega, by omega⟩]; simp
  rw [e5]
  exact inc_true (lg_ent h) k hk
theorem hd_ext {rs : List Rw} {lv : List ByteArray} {now : Int} (h : lgB rs lv now = true) {m : Nat} (h1 : 1 ≤ m) (hm : m ≤ lv.length) : conA (m : Int) (lv.length : Int) (exO rs lv now (m : Int)) (roO rs lv now (m : Int)) (roO rs lv now (lv.length : Int)) = true := by
  unfold exO
  rw [if_pos h, ro_all h, ro_some h hm]
  exact con_true (lg_ent h) m h1 hm
/-- Behind a forgetting the old size is the beginning of the new log, by its old root. -/
theorem hd_fgt {rs : List Rw} {lv : List ByteArray} {now r f y : Int} (h : lfC rs lv now r f y = 0) {m : Nat} (h1 : 1 ≤ m) (hm : m ≤ lv.length) : conA (m : Int) ((lv.length : Int) + 1) (exO (lfR rs lv now r f y) (lfL rs lv now r f y) (lfN rs lv now r f y) (m : Int)) (roO rs lv now (m : Int)) (roO (lfR rs lv now r f y) (lfL rs lv now r f y) (lfN rs lv now r f y) ((lv.length : Int) + 1)) = true := by
  have hl := (lf_leaves h).2.1
  have e : ((lv.length : Int) + 1) = (((lfL rs lv now r f y).length : Nat) : Int) := by rw [hl]; omega
  rw [e, ← lf_root h (m : Int) (by omega)]
  exact hd_ext (lf_right h) h1 (by omega)
end Go.Proofs.YtnknnfgimiljjaaGreatDoor
/-
  What lwProof answers at two proofs that are alike: true.
  Conditions: the cells of both hold the path.
-/
namespace Go.Proofs.YtnknnfgimiljjaaGreatDoor
open Go.RowKit Go.Lib
set_option linter.unusedVariables false
set_option maxRecDepth 20000

set_option maxHeartbeats 4000000 in
theorem lwProof_any (lf : ByteArray) (ix sz : Int) (a b : Option Addr) (c d : Nat) (ss : List ByteArray) (w : World) (h1 : TxtAt w a ss) (h2 : TxtAt w b ss) (hn : ss.length ≤ 1048576) (hc : ss.length ≤ c) (hd : ss.length ≤ d) :
    Calls Tryz.prog 11 #[.agg #[.string lf, .int .i64 ix, .int .i64 sz, .slice a ss.length c], .agg #[.string lf, .int .i64 ix, .int .i64 sz, .slice b ss.length d]] w fun e w' => e = .returned (.bool true) ∧ Below w.heap.size w w' := by
  obtain ⟨W0, hW0⟩ : ∃ W0, W0 = w.alloc (.cells #[.string lf, .int .i64 ix, .int .i64 sz, .slice a ss.length c] 30) := ⟨_, rfl⟩
  have hz0 : W0.heap.size = w.heap.size + 1 := by rw [hW0]; simp
  obtain ⟨W1, hW1⟩ : ∃ W1, W1 = W0.alloc (.cells #[.string lf, .int .i64 ix, .int .i64 sz, .slice b ss.length d] 30) := ⟨_, rfl⟩
  have HW1 : Hid (W1 = (w.alloc (.cells #[.string lf, .int .i64 ix, .int .i64 sz, .slice a ss.length c] 30)).alloc (.cells #[.string lf, .int .i64 ix, .int .i64 sz, .slice b ss.length d] 30)) := by rw [hW1, hW0]; exact rfl
  have hB0 : Below w.heap.size w W0 := by rw [hW0]; exact (Below.refl _ _).alloc (Nat.le_refl _) _
  have B1 : Hid (Below w.heap.size w W1) := by rw [hW1]; exact alB hB0 _
  have X1 : Hid (Bxs W1 w.heap.size 30 #[.string lf, .int .i64 ix, .int .i64 sz, .slice a ss.length c]) := by rw [hW1]; refine Bxs.alloc ?_ _; rw [hW0]; exact Bxs.new _ _ _
  have X2 : Hid (Bxs W1 (w.heap.size + 1) 30 #[.string lf, .int .i64 ix, .int .i64 sz, .slice b ss.length d]) := by rw [hW1, ← hz0]; exact Bxs.new _ _ _
  have hE := texts_any a b c d ss ss W1 (h1.below B1.out) (h2.below B1.out) (by omega) (by omega) hc hd
  rw [decide_eq_true rfl] at hE
  obtain ⟨x0, x1, x2, x3⟩ := X1.out.four
  obtain ⟨y0, y1, y2, y3⟩ := X2.out.four
  clear hW1 hW0 h1 h2 hB0 hz0 X1 X2
  go_enter Tryz.func11, Tryz.ntmps11
  go_upto_region 1 with fail
  rw [← HW1.out]
  clear HW1
  go_wp2_with fail
  refine hE.mono ?_
  rintro e w1 ⟨rfl, b1⟩
  have b1 := chainB B1.out b1
  clear hE x0 x1 x2 x3 y0 y1 y2 y3
  go_wp2_with fail
  go_ret
  exact ⟨rfl, b1⟩
end Go.Proofs.YtnknnfgimiljjaaGreatDoor
/-
  What lwAt answers: a number below most.
-/
namespace Go.Proofs.YtnknnfgimiljjaaGreatDoor
open Go.RowKit Go.Lib
set_option linter.unusedVariables false
set_option maxRecDepth 20000

set_option maxHeartbeats 2000000 in
theorem lwAt_any (B : Nat) (a : Option Addr) (len cap : Nat) (i : Nat) (most : Int) (w : World) (hlen : len ≤ 1048576) (hi : i ≤ 1000) (hm : most ≤ 9223372036854775807) (hc : CodeAt B a len w) :
    Calls Tryz.prog 22 #[.slice a len cap, .int .i64 i, .int .i64 most] w fun e w' => (∃ r, e = .returned (.int .i64 r) ∧ nAns most r) ∧ w' = w := by
  by_cases h1 : most ≤ 1
  · have d1 : decide (most ≤ 1) = true := by simpa using h1
    clear hc
    go_enter Tryz.func22, Tryz.ntmps22
    go_wp2
    go_ret
    exact ⟨⟨0, rfl, Int.le_refl _, fun h => by omega, fun _ => rfl⟩, rfl⟩
  have d1 : decide (most ≤ 1) = false := by simp; omega
  by_cases h0 : len = 0
  · subst h0
    clear hc
    go_enter Tryz.func22, Tryz.ntmps22
    go_wp2
    go_ret
    exact ⟨⟨0, rfl, Int.le_refl _, fun h => by omega, fun _ => rfl⟩, rfl⟩
  · rcases hc with hc | ⟨xb, xo, ha, hx, hcell⟩
    · exact absurd hc h0
    subst ha
    have d2 : ((len : Int) == 0) = false := by simp; omega
    have hlt : i % len < len := Nat.mod_lt _ (by omega)
    obtain ⟨c, c0, c1, hci⟩ := hcell (i % len) hlt
    have hmod : (i : Int) % (len : Int) = ((i % len : Nat) : Int) := by omega
    have HM : Hid ((i : Int) % (len : Int) = ((i % len : Nat) : Int)) := hmod
    clear hcell hmod
    go_enter Tryz.func22, Tryz.ntmps22
    go_wp2
    go_ret
    exact ⟨⟨c % most, rfl, Int.emod_nonneg _ (by omega), fun _ => Int.emod_lt_of_pos _ (by omega), fun h => by omega⟩, rfl⟩
end Go.Proofs.YtnknnfgimiljjaaGreatDoor
/-
  A log in a box beside a source, and what a LogOut that was drawn holds: what l09Log's draw carries.
-/
namespace Go.Proofs.YtnknnfgimiljjaaGreatDoor
open Go.RowKit Go.Lib
set_option linter.unusedVariables false
set_option maxRecDepth 20000

theorem lo_row {w : World} {base g : Nat} {e T : TypeId} {s : Nat} {v : Value} {n : Nat} {xs : List Value} {cs : Array Value} (h : w.ownsRow base e s v n xs) (hb : Bxs w g T cs) (hne : T ≠ e) : some g ≠ v.ownBlock := fun he => own_box h hb hne he.symm
theorem lo_box {w : World} {X Y : Nat} {T U : TypeId} {cs ds : Array Value} (h : Bxs w X T cs) (k : Bxs w Y U ds) (hne : T ≠ U) : X ≠ Y := fun e => by
  subst e
  unfold Bxs at h k
  rw [h] at k
  injection k with h1
  injection h1 with h2 h3
  exact hne h3
/-- A block below all of the log's own is written. -/
theorem LgO.touch {base : Nat} {xs : List (Rw × Value)} {lv : List ByteArray} {v1 v2 : Value} {w w' : World} {g : Nat} (h : LgO base xs lv v1 v2 w) (hg : w.grownBy w' (some g)) (hlt : g < base) : LgO base xs lv v1 v2 w' :=
  ⟨h.rws.kept hg (.inr (fun e => by have := (h.rws.lt.1 g e).1; omega)) (fun y hy => .inr (fun e => by have := (h.rws.lt.2 y hy g e).1; omega)), h.lvs.kept hg (.inr (fun e => by have := (h.lvs.lt g e).1; omega))⟩
/-- A log as it is drawn: of few rows and leaves, early. -/
structure LoD (n m : Nat) (t : Int) (rs : List Rw) (lv : List ByteArray) (now : Int) : Prop where
  n : rs.length ≤ n
  m : lv.length ≤ m
  le : RwsLe rs
  lz : TxtsLe lv
  t0 : 0 ≤ now
  t1 : now ≤ t
  f1 : ∀ r ∈ rs, 1 ≤ r.fs.length
theorem LoD.nil (n m : Nat) (t : Int) (ht : 0 ≤ t) : LoD n m t [] [] 0 := ⟨Nat.zero_le _, Nat.zero_le _, (fun r hr => by cases hr), (fun x hx => by cases hx), Int.le_refl _, ht, (fun r hr => by cases hr)⟩
section
variable {w0 x x' : World} {B p : Nat} {a : Option Addr} {len cap X Y : Nat} {v1 v2 u1 u2 : Value} {xs ys : List (Rw × Value)} {lv lu : List ByteArray} {now nu c : Int}
/-- A log in a box at X, beside the source at p. -/
structure LoS (w0 : World) (B p : Nat) (a : Option Addr) (len cap X : Nat) (v1 v2 : Value) (xs : List (Rw × Value)) (lv : List ByteArray) (now : Int) (x : World) : Prop where
  src : Src 91 B p a len cap x
  gr : w0.grownBy x (some p)
  hp : p < w0.heap.size
  hX : w0.heap.size ≤ X
  box : Bxs x X 26 #[v1, v2, .int .i64 now]
  lg : LgO w0.heap.size xs lv v1 v2 x
theorem LoS.below (h : LoS w0 B p a len cap X v1 v2 xs lv now x) (hb : Below x.heap.size x x') : LoS w0 B p a len cap X v1 v2 xs lv now x' := ⟨h.src.below hb, touch_below h.gr hb, h.hp, h.hX, h.box.below hb, h.lg.below hb⟩
theorem LoS.drew (h : LoS w0 B p a len cap X v1 v2 xs lv now x) : LoS w0 B p a len cap X v1 v2 xs lv now x.drew := h.below (Below.refl _ _).drew
theorem LoS.step (h : LoS w0 B p a len cap X v1 v2 xs lv now x) (hs' : Src 91 B p a len cap x') (hg : x.grownBy x' (some p)) : LoS w0 B p a len cap X v1 v2 xs lv now x' := by
  have hp := h.hp
  have hX := h.hX
  exact ⟨hs', touch_trans h.gr hg, hp, hX, (hg.block X h.box.lt (fun e => by cases e; omega)).trans h.box, h.lg.touch hg hp⟩
theorem LoS.cells (h : LoS w0 B p a len cap X v1 v2 xs lv now x) : x.cell? ⟨X, 0, none⟩ = some v1 ∧ x.cell? ⟨X, 1, none⟩ = some v2 ∧ x.cell? ⟨X, 2, none⟩ = some (.int .i64 now) ∧ x.frozen? ⟨X, 0, none⟩ = false ∧ x.frozen? ⟨X, 1, none⟩ = false ∧ x.frozen? ⟨X, 2, none⟩ = false := ⟨h.box.cell 0, h.box.cell 1, h.box.cell 2, h.box.fr 0, h.box.fr 1, h.box.fr 2⟩
/-- The log can be read. -/
theorem LoS.at {q : Option Addr} {p' : Option Addr} {cq cp n m : Nat} {t : Int} (h : LoS w0 B p a len cap X (.slice q xs.length cq) (.slice p' lv.length cp) xs lv now x) (hd : LoD n m t (xs.map (·.1)) lv now) (hn : n ≤ 1048576) (hm : m ≤ 1048576) : LgAt p' lv cp q (xs.map (·.1)) cq x := by
  obtain ⟨_, _, e1, hc1⟩ := h.lg.rws.form
  obtain ⟨_, _, e2, hc2, ht⟩ := ownS_form h.lg.lvs
  cases e1; cases e2
  have h1 := hd.n
  have h2 := hd.m
  have h3 : (xs.map (·.1)).length = xs.length := List.length_map _
  exact ⟨ht, hc2, by omega, hd.lz, h.lg.rws.at, by omega, by omega, hd.le⟩
/-- A box of another type, made since, is written: the source and the log stay. -/
theorem LoS.wrote {T : TypeId} {cs : Array Value} (h : LoS w0 B p a len cap X v1 v2 xs lv now x) (hY : w0.heap.size ≤ Y) (k : Bxs x Y T cs) (n0 : T ≠ 26) (n1 : T ≠ 70) (n2 : T ≠ 72) (n3 : T ≠ 9) (g : x.grownBy x' (some Y)) : LoS w0 B p a len cap X v1 v2 xs lv now x' := by
  have hp := h.hp
  have ne := lo_box k h.box n0
  exact ⟨h.src.other g (fun j hj => by cases hj; omega), touch_own h.gr g (fun j hj => by cases hj; exact hY), hp, h.hX, (g.block X h.box.lt (fun e => by cases e; exact ne rfl)).trans h.box, h.lg.box k n1 n2 n3 g⟩
/-- Another log of memory of its own is put into the box. -/
theorem LoS.put (h : LoS w0 B p a len cap X v1 v2 xs lv now x) (ho : LgO w0.heap.size ys lu u1 u2 x) (nu : Int) : LoS w0 B p a len cap X u1 u2 ys lu nu (((x.setCell ⟨X, 0, none⟩ u1).setCell ⟨X, 1, none⟩ u2).setCell ⟨X, 2, none⟩ (.int .i64 nu)) := by
  have hp := h.hp
  have hX := h.hX
  have g : x.grownBy (((x.setCell ⟨X, 0, none⟩ u1).setCell ⟨X, 1, none⟩ u2).setCell ⟨X, 2, none⟩ (.int .i64 nu)) (some X) := touch_set (touch_set (set_grw x X 0 u1) 1 u2) 2 _
  exact ⟨h.src.other g (fun j hj => by cases hj; omega), touch_own h.gr g (fun j hj => by cases hj; exact hX), hp, hX, ((h.box.set 0 _).set 1 _).set 2 _, ho.box h.box (by decide) (by decide) (by decide) g⟩
/-- The leaves grow by one text. -/
theorem LoS.appL (h : LoS w0 B p a len cap X v1 v2 xs lv now x) (t : ByteArray) (hl : lv.length + 1 ≤ 1048576) :
    ∃ q d y, (Builtin.append_ #[24, 24] 24 #[v2, .slice (some ⟨x.heap.size, 0, none⟩) 1 1]).run Tryz.prog (x.alloc (.cells #[.string t] 9)) = .ok (.slice q (lv.length + 1) d) y ∧
      LoS w0 B p a len cap X v1 (.slice q (lv.length + 1) d) xs (lv ++ [t]) now (y.setCell ⟨X, 1, none⟩ (.slice q (lv.length + 1) d)) ∧ (y.cell? ⟨X, 0, none⟩ = some v1 ∧ y.cell? ⟨X, 1, none⟩ = some v2 ∧ y.cell? ⟨X, 2, none⟩ = some (.int .i64 now)) ∧ y.frozen? ⟨X, 1, none⟩ = false := by
  have hp := h.hp
  have hX := h.hX
  have H := h.below ((Below.refl _ _).alloc (Nat.le_refl _) (.cells #[.string t] 9))
  obtain ⟨g, d, y, h1, h2, h3, -⟩ := app_str x w0.heap.size v2 lv h.lg.lvs t hl h.gr.size
  have hrow : ∀ j, v2.ownBlock = some j → w0.heap.size ≤ j := fun j hj => (H.lg.lvs.lt j hj).1
  have kb : Bxs y X 26 #[v1, v2, .int .i64 now] := H.box.grown h3 (lo_row H.lg.lvs H.box (by decide))
  have sy : Src 91 B p a len cap y := H.src.other h3 (fun j hj => by have := hrow j hj; omega)
  have gy : w0.grownBy y (some p) := touch_own H.gr h3 hrow
  have ho : LgO w0.heap.size xs (lv ++ [t]) v1 (.slice (some ⟨g, 0, none⟩) (lv.length + 1) d) y := ⟨H.lg.rws.kept h3 (own_apart H.lg.rws.own H.lg.lvs (by decide)) (fun z hz => own_apart (H.lg.rws.fld z hz) H.lg.lvs (by decide)), h2⟩
  have k := set_grw y X 1 (.slice (some ⟨g, 0, none⟩) (lv.length + 1) d)
  exact ⟨some ⟨g, 0, none⟩, d, y, h1, ⟨sy.other k (fun j hj => by cases hj; omega), touch_own gy k (fun j hj => by cases hj; exact hX), hp, hX, kb.set 1 _, ho.box kb (by decide) (by decide) (by decide) k⟩, ⟨kb.cell 0, kb.cell 1, kb.cell 2⟩, kb.fr 1⟩
/-- The rows grow by one, whose fields came later than all that is there. -/
theorem LoS.appR {xf : World} (h0 : LoS w0 B p a len cap X v1 v2 xs lv now xf) (h : LoS w0 B p a len cap X v1 v2 xs lv now x) (r : Rw) (q : Option Addr) (d : Nat) (hf : x.ownsRow xf.heap.size 72 5 (.slice q r.fs.length d) r.fs.length (fldRow r.fs)) (hl : xs.length + 1 ≤ 1048576) :
    ∃ q2 d2 y, (Builtin.append_ #[23, 23] 23 #[v1, .slice (some ⟨x.heap.size, 0, none⟩) 1 1]).run Tryz.prog (x.alloc (.cells #[.string r.k, .int .i64 r.a, .slice q r.fs.length d] 70)) = .ok (.slice q2 (xs.length + 1) d2) y ∧
      LoS w0 B p a len cap X (.slice q2 (xs.length + 1) d2) v2 (xs ++ [(r, .slice q r.fs.length d)]) lv now (y.setCell ⟨X, 0, none⟩ (.slice q2 (xs.length + 1) d2)) ∧ (y.cell? ⟨X, 0, none⟩ = some v1 ∧ y.cell? ⟨X, 1, none⟩ = some v2 ∧ y.cell? ⟨X, 2, none⟩ = some (.int .i64 now)) ∧ y.frozen? ⟨X, 0, none⟩ = false := by
  have hp := h.hp
  have hX := h.hX
  have hal := (Below.refl x.heap.size x).alloc (Nat.le_refl _) (.cells #[.string r.k, .int .i64 r.a, .slice q r.fs.length d] 70)
  have H := h.below hal
  have hc : CelAt (x.alloc (.cells #[.string r.k, .int .i64 r.a, .slice q r.fs.length d] 70)) (some ⟨x.heap.size, 0, none⟩) (rcRow [rcV (r, .slice q r.fs.length d)]) := fun j hj => ⟨x.heap.size, 0, rfl, by simp, by
    rw [Nat.zero_add, (Bxs.new x 70 #[.string r.k, .int .i64 r.a, .slice q r.fs.length d]).cell j]
    have hj3 : j < 3 := by simpa [rcRow, rcCells] using hj
    match j, hj3 with
    | 0, _ => rfl
    | 1, _ => rfl
    | 2, _ => rfl⟩
  obtain ⟨q2, d2, y, h1, h2, h3, h4⟩ := H.lg.rws.app (r, .slice q r.fs.length d) (some ⟨x.heap.size, 0, none⟩) 1 rfl hc (own_low (ownS_below hf hal) h0.gr.size) (fun z hz => by
    cases hy2 : z.2.ownBlock with
    | none => exact .inl rfl
    | some j =>
      refine .inr (fun e => ?_)
      have a := ((h0.lg.rws.lt.2 z hz) j hy2).2
      have b := (hf.lt j e.symm).1
      omega) hl H.gr.size
  have hrow : ∀ j, v1.ownBlock = some j → w0.heap.size ≤ j := fun j hj => (H.lg.rws.lt.1 j hj).1
  have kb : Bxs y X 26 #[v1, v2, .int .i64 now] := H.box.grown h3 (lo_row H.lg.rws.own H.box (by decide))
  have hl2 : y.ownsRow w0.heap.size 9 1 v2 lv.length (strRow lv) := H.lg.lvs.kept h3 (own_apart H.lg.lvs H.lg.rws.own (by decide))
  have sy : Src 91 B p a len cap y := H.src.other h3 (fun j hj => by have := hrow j hj; omega)
  have gy : w0.grownBy y (some p) := touch_own H.gr h3 hrow
  have ho : LgO w0.heap.size (xs ++ [(r, .slice q r.fs.length d)]) lv (.slice q2 (xs.length + 1) d2) v2 y := ⟨h2, hl2⟩
  have k := set_grw y X 0 (.slice q2 (xs.length + 1) d2)
  exact ⟨q2, d2, y, h1, ⟨sy.other k (fun j hj => by cases hj; omega), touch_own gy k (fun j hj => by cases hj; exact hX), hp, hX, kb.set 0 _, ho.box kb (by decide) (by decide) (by decide) k⟩, ⟨kb.cell 0, kb.cell 1, kb.cell 2⟩, kb.fr 0⟩
/-- The first row's first field's Gone is turned. -/
theorem LoS.flip {k : ByteArray} {at_ : Int} {f0 : Fld} {fr : List Fld} {fb fc : Nat} {xr : List (Rw × Value)} (h : LoS w0 B p a len cap X v1 v2 ((⟨k, at_, f0 :: fr⟩, .slice (some ⟨fb, 0, none⟩) (f0 :: fr).length fc) :: xr) lv now x) (g : Bool) :
    Src 91 B p a len cap (x.setCell ⟨fb, 4, none⟩ (.bool g)) ∧ w0.grownBy (x.setCell ⟨fb, 4, none⟩ (.bool g)) (some p) ∧ LgO w0.heap.size ((⟨k, at_, ⟨f0.n, f0.c, f0.s, f0.v, g⟩ :: fr⟩, .slice (some ⟨fb, 0, none⟩) (f0 :: fr).length fc) :: xr) lv v1 v2 (x.setCell ⟨fb, 4, none⟩ (.bool g)) ∧ Bxs (x.setCell ⟨fb, 4, none⟩ (.bool g)) X 26 #[v1, v2, .int .i64 now] := by
  have hp := h.hp
  have hf := h.lg.rws.fld _ (List.mem_cons_self ..)
  have hfb := (hf.lt fb rfl).1
  have kg := set_grw x fb 4 (.bool g)
  refine ⟨h.src.other kg (fun j hj => by cases hj; omega), touch_own h.gr kg (fun j hj => by cases hj; exact hfb), ⟨⟨?_, fun y hy => ?_, ?_⟩, ?_⟩, ?_⟩
  · have o := h.lg.rws.own.kept kg (by have := own_apart h.lg.rws.own hf (by decide); exact this)
    exact o
  · rcases List.mem_cons.1 hy with rfl | hy
    · have o := World.ownsRow.stored hf 4 (.bool g)
      exact o.1
    · have ne := (List.pairwise_cons.1 h.lg.rws.ne).1 y hy
      refine (h.lg.rws.fld y (List.mem_cons_of_mem _ hy)).kept kg (.inr (fun e => ?_))
      rcases ne with q | q
      · cases q
      · exact q e.symm
  · have ne := List.pairwise_cons.1 h.lg.rws.ne
    exact List.pairwise_cons.2 ⟨ne.1, ne.2⟩
  · exact h.lg.lvs.kept kg (by have := own_apart h.lg.lvs hf (by decide); exact this)
  · exact (kg.block X h.box.lt (fun e => by cases e; exact own_box hf h.box (by decide) rfl)).trans h.box
/-- A LogOut in its box: a log of memory of its own; right where the code is zero. -/
def LoV (w0 : World) (n m : Nat) (t : Int) (Y : Nat) (x : World) : Prop := w0.heap.size ≤ Y ∧ ∃ (u1 u2 : Value) (ys : List (Rw × Value)) (lu : List ByteArray) (nu c : Int), Bxs x Y 45 #[u1, u2, .int .i64 nu, .int .i64 c] ∧ LgO w0.heap.size ys lu u1 u2 x ∧ (c = 0 → LoD n m t (ys.map (·.1)) lu nu)
theorem LoV.below {n m : Nat} {t : Int} (h : LoV w0 n m t Y x) (hb : Below x.heap.size x x') : LoV w0 n m t Y x' := by
  obtain ⟨hY, u1, u2, ys, lu, nu, c, k, o, d⟩ := h
  exact ⟨hY, u1, u2, ys, lu, nu, c, k.below hb, o.below hb, d⟩
theorem LoV.touch {n m : Nat} {t : Int} (h : LoV w0 n m t Y x) (hg : x.grownBy x' (some p)) (hp : p < w0.heap.size) : LoV w0 n m t Y x' := by
  obtain ⟨hY, u1, u2, ys, lu, nu, c, k, o, d⟩ := h
  exact ⟨hY, u1, u2, ys, lu, nu, c, (hg.block Y k.lt (fun e => by cases e; omega)).trans k, o.touch hg hp, d⟩
/-- An answer of memory of its own is put into a LogOut's box. -/
theorem LoV.put {n m : Nat} {t : Int} {cs : Array Value} (hY : w0.heap.size ≤ Y) (k : Bxs x Y 45 cs) (hcs : cs.size = 4) (ho : LgO w0.heap.size ys lu u1 u2 x) (nu c : Int) (hd : c = 0 → LoD n m t (ys.map (·.1)) lu nu) :
    LoV w0 n m t Y ((((x.setCell ⟨Y, 0, none⟩ u1).setCell ⟨Y, 1, none⟩ u2).setCell ⟨Y, 2, none⟩ (.int .i64 nu)).setCell ⟨Y, 3, none⟩ (.int .i64 c)) := by
  have g : x.grownBy ((((x.setCell ⟨Y, 0, none⟩ u1).setCell ⟨Y, 1, none⟩ u2).setCell ⟨Y, 2, none⟩ (.int .i64 nu)).setCell ⟨Y, 3, none⟩ (.int .i64 c)) (some Y) := touch_set (touch_set (touch_set (set_grw x Y 0 u1) 1 u2) 2 _) 3 _
  match cs, hcs with
  | ⟨[a0, a1, a2, a3]⟩, _ => exact ⟨hY, u1, u2, ys, lu, nu, c, (((k.set 0 _).set 1 _).set 2 _).set 3 _, ho.box k (by decide) (by decide) (by decide) g, hd⟩
end
end Go.Proofs.YtnknnfgimiljjaaGreatDoor
/-
  What l07Name, l07Salt and l07Value draw: texts of at most 21, 9 and 17 bytes. The source's block alone is written.
  Conditions: the source is one ('Src').
-/
namespace Go.Proofs.YtnknnfgimiljjaaGreatDoor
open Go.RowKit Go.Lib
set_option linter.unusedVariables false
set_option maxRecDepth 20000

def nameS3 : List ByteArray := [⟨#[]⟩, ⟨#[65]⟩, ⟨#[49, 50, 51, 52, 53, 54, 55, 56, 57, 48, 49, 50, 51, 52, 53, 54, 55, 56, 57, 48, 49]⟩]
def nameS4 : List ByteArray := [⟨#[110, 97, 109, 101]⟩, ⟨#[109, 97, 105, 108]⟩, ⟨#[97, 103, 101]⟩, ⟨#[116, 111, 119, 110]⟩]
def valS4 : List ByteArray := [⟨#[]⟩, ⟨#[97, 110, 110]⟩, ⟨#[52, 50]⟩, ⟨#[120, 32, 121]⟩]
theorem nameS3_small : ∀ t ∈ nameS3, t.size ≤ 21 := by decide
theorem nameS4_small : ∀ t ∈ nameS4, t.size ≤ 21 := by decide
theorem valS4_small : ∀ t ∈ valS4, t.size ≤ 17 := by decide

set_option maxHeartbeats 1000000 in
theorem l07Name_any (B p : Nat) (a : Option Addr) (len cap : Nat) (w : World) (hs : Src 91 B p a len cap w) :
    Calls Tryz.prog 116 #[.pointer (some ⟨p, 0, none⟩)] w fun e w' =>
      (∃ t : ByteArray, e = .returned (.string t) ∧ t.size ≤ 21) ∧ Src 91 B p a len cap w' ∧ w.grownBy w' (some p) := by
  have HS : Hid (Src 91 B p a len cap w) := hs
  clear hs
  go_enter Tryz.func116, Tryz.ntmps116
  go_wp2_with fail
  refine (one_any B p a len cap 25 _ HS.out (by omega)).mono ?_
  rintro e w1 ⟨⟨r, rfl⟩, hs1, hg1⟩
  have hp := hs1.lt
  cases r with
  | true =>
    have HB : Hid (BlkS (w1.alloc (.cells (strRow nameS3).toArray 9)) w1.heap.size nameS3) := alloc_str w1 nameS3
    have H1 : Hid (Src 91 B p a len cap (w1.alloc (.cells (strRow nameS3).toArray 9))) := hs1.below ((Below.refl _ _).alloc (Nat.le_refl _) _)
    clear hs1
    go_wp2_with fail
    refine (pick_any B p a len cap w1.heap.size nameS3 _ H1.out HB.out (by omega) (by decide) (by decide)).mono ?_
    rintro e w2 ⟨⟨t, ht, rfl⟩, hs2, hg2⟩
    have HG : Hid (w.grownBy w2 (some p)) := touch_trans hg1 (touch_trans (World.grownBy_alloc w1 _ (some p)) hg2)
    have HS2 : Hid (Src 91 B p a len cap w2) := hs2
    have h5 := nameS3_small t ht
    clear hs2 hg2 hg1 ht HB H1
    go_wp2_with fail
    go_ret
    exact ⟨⟨t, rfl, h5⟩, HS2.out, HG.out⟩
  | false =>
    have HB : Hid (BlkS (w1.alloc (.cells (strRow nameS4).toArray 9)) w1.heap.size nameS4) := alloc_str w1 nameS4
    have H1 : Hid (Src 91 B p a len cap (w1.alloc (.cells (strRow nameS4).toArray 9))) := hs1.below ((Below.refl _ _).alloc (Nat.le_refl _) _)
    clear hs1
    go_wp2_with fail
    refine (pick_any B p a len cap w1.heap.size nameS4 _ H1.out HB.out (by omega) (by decide) (by decide)).mono ?_
    rintro e w2 ⟨⟨t, ht, rfl⟩, hs2, hg2⟩
    have HG : Hid (w.grownBy w2 (some p)) := touch_trans hg1 (touch_trans (World.grownBy_alloc w1 _ (some p)) hg2)
    have HS2 : Hid (Src 91 B p a len cap w2) := hs2
    have h5 := nameS4_small t ht
    clear hs2 hg2 hg1 ht HB H1
    go_wp2_with fail
    go_ret
    exact ⟨⟨t, rfl, h5⟩, HS2.out, HG.out⟩

set_option maxHeartbeats 1000000 in
theorem l07Value_any (B p : Nat) (a : Option Addr) (len cap : Nat) (w : World) (hs : Src 91 B p a len cap w) :
    Calls Tryz.prog 107 #[.pointer (some ⟨p, 0, none⟩)] w fun e w' =>
      (∃ t : ByteArray, e = .returned (.string t) ∧ t.size ≤ 17) ∧ Src 91 B p a len cap w' ∧ w.grownBy w' (some p) := by
  have HS : Hid (Src 91 B p a len cap w) := hs
  clear hs
  go_enter Tryz.func107, Tryz.ntmps107
  go_wp2_with fail
  refine (one_any B p a len cap 25 _ HS.out (by omega)).mono ?_
  rintro e w1 ⟨⟨r, rfl⟩, hs1, hg1⟩
  have hp := hs1.lt
  cases r with
  | true =>
    have hN := n_any B p a len cap 3 w1 hs1 (by omega)
    clear hs1
    go_wp2_with fail
    refine hN.mono ?_
    rintro e w2 ⟨⟨r2, rfl, r20, r21, -⟩, hs2, hg2⟩
    have r22 := r21 (by omega)
    obtain ⟨R, rfl⟩ := Int.eq_ofNat_of_zero_le r20
    have hmk := run_make_u8s (15 + R) (by omega) w2
    rw [show ((15 + R : Nat) : Int) = 15 + (R : Int) by omega] at hmk
    have hzc := zconv (15 + R) w2
    have HZs : (strOfNums (List.replicate (15 + R) 0)).size ≤ 17 := by rw [strOfNums_size, List.length_replicate]; omega
    have HS2 : Hid (Src 91 B p a len cap (w2.alloc (.cells (zrow (15 + R)).toArray 5))) := hs2.below ((Below.refl _ _).alloc (Nat.le_refl _) _)
    have HG : Hid (w.grownBy (w2.alloc (.cells (zrow (15 + R)).toArray 5)) (some p)) := touch_trans hg1 (touch_trans hg2 (World.grownBy_alloc w2 _ (some p)))
    clear hs2 hg2 hg1 hN r21 r20
    go_wp2_with fail
    go_ret
    exact ⟨⟨_, rfl, HZs⟩, HS2.out, HG.out⟩
  | false =>
    have HB : Hid (BlkS (w1.alloc (.cells (strRow valS4).toArray 9)) w1.heap.size valS4) := alloc_str w1 valS4
    have H1 : Hid (Src 91 B p a len cap (w1.alloc (.cells (strRow valS4).toArray 9))) := hs1.below ((Below.refl _ _).alloc (Nat.le_refl _) _)
    clear hs1
    go_wp2_with fail
    refine (pick_any B p a len cap w1.heap.size valS4 _ H1.out HB.out (by omega) (by decide) (by decide)).mono ?_
    rintro e w2 ⟨⟨t, ht, rfl⟩, hs2, hg2⟩
    have HG : Hid (w.grownBy w2 (some p)) := touch_trans hg1 (touch_trans (World.grownBy_alloc w1 _ (some p)) hg2)
    have HS2 : Hid (Src 91 B p a len cap w2) := hs2
    have h5 := valS4_small t ht
    clear hs2 hg2 hg1 ht HB H1
    go_wp2_with fail
    go_ret
    exact ⟨⟨t, rfl, h5⟩, HS2.out, HG.out⟩

theorem salt_at : ∀ k : Nat, k < 3 → ∃ v : Nat, (#[.int .i64 0, .int .i64 8, .int .i64 9] : Array Value)[k]? = some (.int .i64 (v : Int)) ∧ v ≤ 9
  | 0, _ => ⟨0, rfl, by omega⟩
  | 1, _ => ⟨8, rfl, by omega⟩
  | 2, _ => ⟨9, rfl, by omega⟩
  | k + 3, h => by omega
set_option maxHeartbeats 1000000 in
theorem l07Salt_any (B p : Nat) (a : Option Addr) (len cap : Nat) (w : World) (hs : Src 91 B p a len cap w) :
    Calls Tryz.prog 106 #[.pointer (some ⟨p, 0, none⟩)] w fun e w' =>
      (∃ t : ByteArray, e = .returned (.string t) ∧ t.size ≤ 9) ∧ Src 91 B p a len cap w' ∧ w.grownBy w' (some p) := by
  have HS : Hid (Src 91 B p a len cap w) := hs
  clear hs
  go_enter Tryz.func106, Tryz.ntmps106
  go_wp2_with fail
  refine (one_any B p a len cap 25 _ HS.out (by omega)).mono ?_
  rintro e w1 ⟨⟨r, rfl⟩, hs1, hg1⟩
  have hp := hs1.lt
  cases r with
  | true =>
    obtain ⟨W2, hW2⟩ : ∃ W2, W2 = w1.alloc (.cells #[.int .i64 0, .int .i64 8, .int .i64 9] 2) := ⟨_, rfl⟩
    have HW2 : Hid (W2 = w1.alloc (.cells #[.int .i64 0, .int .i64 8, .int .i64 9] 2)) := hW2
    have hb : W2.heap[w1.heap.size]? = some (.cells #[.int .i64 0, .int .i64 8, .int .i64 9] 2 (0, 0)) := by rw [hW2]; exact (MapKept.heap_alloc w1 _).1
    have HBk : Hid (∀ x, W2.grownBy x (some p) → x.heap[w1.heap.size]? = some (.cells #[.int .i64 0, .int .i64 8, .int .i64 9] 2 (0, 0))) := fun x hx => (hx.block _ (lt_of_block hb) (fun e => by cases e; omega)).trans hb
    have hN := n_any B p a len cap 3 W2 (by rw [hW2]; exact hs1.below ((Below.refl _ _).alloc (Nat.le_refl _) _)) (by omega)
    have HG2 : Hid (w.grownBy W2 (some p)) := by rw [hW2]; exact touch_trans hg1 (World.grownBy_alloc w1 _ (some p))
    clear hs1 hW2 hb hg1
    go_wp2_with fail
    rw [← HW2.out]
    refine hN.mono ?_
    rintro e w2 ⟨⟨r2, rfl, r20, r21, -⟩, hs2, hg2⟩
    have r22 := r21 (by omega)
    obtain ⟨R, rfl⟩ := Int.eq_ofNat_of_zero_le r20
    obtain ⟨V, hV, hV9⟩ := salt_at R (by omega)
    have hc : w2.cell? ⟨w1.heap.size, R, none⟩ = some (.int .i64 (V : Int)) := by simp [World.cell?, HBk.out w2 hg2, hV]
    have hmk := run_make_u8s V (by omega) w2
    have hzc := zconv V w2
    have HZs : (strOfNums (List.replicate V 0)).size ≤ 9 := by rw [strOfNums_size, List.length_replicate]; omega
    have HS2 : Hid (Src 91 B p a len cap (w2.alloc (.cells (zrow V).toArray 5))) := hs2.below ((Below.refl _ _).alloc (Nat.le_refl _) _)
    have HG : Hid (w.grownBy (w2.alloc (.cells (zrow V).toArray 5)) (some p)) := touch_trans HG2.out (touch_trans hg2 (World.grownBy_alloc w2 _ (some p)))
    clear hs2 hg2 hN r21 r20 hV HBk HW2
    go_wp2_with fail
    go_ret
    exact ⟨⟨_, rfl, HZs⟩, HS2.out, HG.out⟩
  | false =>
    have hN := n_any B p a len cap 4 w1 hs1 (by omega)
    clear hs1
    go_wp2_with fail
    refine hN.mono ?_
    rintro e w2 ⟨⟨r2, rfl, r20, r21, -⟩, hs2, hg2⟩
    have r22 := r21 (by omega)
    have hB := bytes_any B p a len cap r2 w2 hs2 (by omega)
    have hg2 := touch_trans hg1 hg2
    clear hN hs2 r21 hg1
    go_wp2_with fail
    refine hB.mono ?_
    rintro e w3 ⟨⟨u, rfl, hu⟩, hs3, hg3⟩
    have HT : (⟨#[115]⟩ ++ u : ByteArray).size ≤ 9 := by rw [append_size]; show 1 + u.size ≤ 9; omega
    have HS3 : Hid (Src 91 B p a len cap w3) := hs3
    have HG : Hid (w.grownBy w3 (some p)) := touch_trans hg2 hg3
    clear hB hs3 hg3 hg2
    go_wp2_with fail
    go_ret
    exact ⟨⟨_, rfl, HT⟩, HS3.out, HG.out⟩
end Go.Proofs.YtnknnfgimiljjaaGreatDoor
/-
  What RowOf answers, as plain functions; the boxes of a row that is put together.
-/
namespace Go.Proofs.YtnknnfgimiljjaaGreatDoor
open Go.RowKit Go.Lib
set_option linter.unusedVariables false
set_option maxRecDepth 20000

/-! ### What RowOf answers -/
def rfAt (ns ss vs : List ByteArray) (i : Nat) : Fld := ⟨ns.getD i ByteArray.empty, cmB (ns.getD i ByteArray.empty) (ss.getD i ByteArray.empty) (vs.getD i ByteArray.empty), ss.getD i ByteArray.empty, vs.getD i ByteArray.empty, false⟩
def rfTo (ns ss vs : List ByteArray) (k : Nat) : List Fld := (List.range k).map (rfAt ns ss vs)
theorem rfTo_len (ns ss vs : List ByteArray) (k : Nat) : (rfTo ns ss vs k).length = k := by simp [rfTo]
theorem rfTo_succ (ns ss vs : List ByteArray) (k : Nat) : rfTo ns ss vs (k + 1) = rfTo ns ss vs k ++ [rfAt ns ss vs k] := by simp [rfTo, List.range_succ]
def roBig (k : ByteArray) (ns ss vs : List ByteArray) : Prop := 8000 < k.size ∨ 400 < ns.length ∨ 400 < ss.length ∨ 400 < vs.length
def roOdd (ns ss vs : List ByteArray) : Prop := ss.length ≠ ns.length ∨ vs.length ≠ ns.length ∨ 3 < ns.length
instance (k : ByteArray) (ns ss vs : List ByteArray) : Decidable (roBig k ns ss vs) := by unfold roBig; infer_instance
instance (ns ss vs : List ByteArray) : Decidable (roOdd ns ss vs) := by unfold roOdd; infer_instance
def roC (k : ByteArray) (at_ : Int) (ns ss vs : List ByteArray) : Int := if roBig k ns ss vs then 2 else if roOdd ns ss vs then 1 else if rwB k at_ (rfTo ns ss vs ns.length) = true then 0 else 1
def roK (k : ByteArray) (at_ : Int) (ns ss vs : List ByteArray) : ByteArray := if roC k at_ ns ss vs = 0 then k else ByteArray.empty
def roA (k : ByteArray) (at_ : Int) (ns ss vs : List ByteArray) : Int := if roC k at_ ns ss vs = 0 then at_ else 0
def roF (k : ByteArray) (at_ : Int) (ns ss vs : List ByteArray) : List Fld := if roC k at_ ns ss vs = 0 then rfTo ns ss vs ns.length else []
/-- A result's box, a row's box, the row of fields that the call owns. -/
structure RoS (w : World) (k : ByteArray) (at_ : Int) (v : Value) (l : List Fld) (x : World) : Prop where
  bel : Below w.heap.size w x
  res : Bxs x w.heap.size 84 #[.string ByteArray.empty, .int .i64 0, .slice none 0 0, .int .i64 0]
  box : Bxs x (w.heap.size + 1) 70 #[.string k, .int .i64 at_, v]
  own : x.ownsRow w.heap.size 72 5 v l.length (fldRow l)
theorem ownF_ne {w : World} {base g : Nat} {e T : TypeId} {s : Nat} {v : Value} {n : Nat} {xs : List Value} {cs : Array Value} (h : w.ownsRow base e s v n xs) (hb : Bxs w g T cs) (hne : T ≠ e) : v.ownBlock ≠ some g := by
  intro he
  rcases h.2 with ⟨rfl, _⟩ | ⟨g', cap, cur, rfl, _, hg', _⟩
  · cases he
  · have : g' = g := by simpa [Value.ownBlock] using he
    subst this
    unfold Bxs at hb
    rw [hb] at hg'
    injection hg' with h1
    injection h1 with h2 h3
    exact hne h3
theorem RoS.below {w : World} {k : ByteArray} {at_ : Int} {v : Value} {l : List Fld} {x y : World} (h : RoS w k at_ v l x) (hb : Below x.heap.size x y) : RoS w k at_ v l y := ⟨chainB h.bel hb, h.res.below hb, h.box.below hb, ownS_below h.own hb⟩
theorem RoS.append {w : World} {k : ByteArray} {at_ : Int} {v v2 : Value} {l l2 : List Fld} {x x6 : World} (h : RoS w k at_ v l x) (o : Obj) (hg : (x.alloc o).grownBy x6 v.ownBlock) (ho : x6.ownsRow w.heap.size 72 5 v2 l2.length (fldRow l2)) :
    RoS w k at_ v2 l2 (x6.setCell ⟨w.heap.size + 1, 2, none⟩ v2) ∧ x6.cell? ⟨w.heap.size + 1, 2, none⟩ = some v ∧ x6.frozen? ⟨w.heap.size + 1, 2, none⟩ = false ∧ Below w.heap.size w x6 := by
  have n1 := ownF_ne h.own h.box (by decide)
  have n2 := ownF_ne h.own h.res (by decide)
  have hb : Bxs x6 (w.heap.size + 1) 70 #[.string k, .int .i64 at_, v] := (h.box.alloc o).grown hg (Ne.symm n1)
  have hr : Bxs x6 w.heap.size 84 #[.string ByteArray.empty, .int .i64 0, .slice none 0 0, .int .i64 0] := (h.res.alloc o).grown hg (Ne.symm n2)
  have hB : Below w.heap.size w x6 := (h.bel.alloc h.bel.size o).grown hg (by have := h.bel.size; simp; omega) (fun j hj => by
    rcases h.own.2 with ⟨rfl, _⟩ | ⟨g', cap, cur, rfl, hge, _⟩
    · cases hj
    · simp [Value.ownBlock] at hj; omega)
  refine ⟨⟨hB.setCell (by show _ ≤ w.heap.size + 1; omega) _, hr.other _ _ (by omega) _, ?_, ownsRow_setCell_other ho (by have := ownF_ne ho hb (by decide); simpa using this) _⟩, hb.cell 2, hb.fr 2, hB⟩
  exact hb.set 2 v2
theorem RoS.done {w : World} {k : ByteArray} {at_ : Int} {v : Value} {l : List Fld} {x : World} (h : RoS w k at_ v l x) (x0 x1 x2 x3 : Value) : ((((x.setCell ⟨w.heap.size, 0, none⟩ x0).setCell ⟨w.heap.size, 1, none⟩ x1).setCell ⟨w.heap.size, 2, none⟩ x2).setCell ⟨w.heap.size, 3, none⟩ x3).ownsRow w.heap.size 72 5 v l.length (fldRow l) ∧ Below w.heap.size w ((((x.setCell ⟨w.heap.size, 0, none⟩ x0).setCell ⟨w.heap.size, 1, none⟩ x1).setCell ⟨w.heap.size, 2, none⟩ x2).setCell ⟨w.heap.size, 3, none⟩ x3) := by
  have n2 : v.ownBlock ≠ some w.heap.size := ownF_ne h.own h.res (by decide)
  exact ⟨ownsRow_setCell_other (ownsRow_setCell_other (ownsRow_setCell_other (ownsRow_setCell_other h.own n2 _) n2 _) n2 _) n2 _, below_set4 h.bel (Nat.le_refl _) _ _ _ _⟩
theorem rfTo_le {ns ss vs : List ByteArray} (z1 : ∀ x ∈ ns, x.size ≤ maxLen) (z2 : ∀ x ∈ ss, x.size ≤ maxLen) (z3 : ∀ x ∈ vs, x.size ≤ maxLen) (k : Nat) : FldsLe (rfTo ns ss vs k) := by
  have hg : ∀ (l : List ByteArray) (j : Nat), (∀ x ∈ l, x.size ≤ maxLen) → (l.getD j ByteArray.empty).size ≤ maxLen := fun l j h => by
    by_cases hj : j < l.length
    · rw [List.getD_eq_getElem?_getD, List.getElem?_eq_getElem hj]; exact h _ (List.getElem_mem hj)
    · rw [List.getD_eq_getElem?_getD, List.getElem?_eq_none (by omega)]; exact Nat.zero_le _
  intro f hf
  obtain ⟨j, -, rfl⟩ := List.mem_map.1 hf
  exact ⟨hg ns j z1, Nat.le_trans (cmB_size _ _ _) (by unfold maxLen; omega), hg ss j z2, hg vs j z3⟩
end Go.Proofs.YtnknnfgimiljjaaGreatDoor
