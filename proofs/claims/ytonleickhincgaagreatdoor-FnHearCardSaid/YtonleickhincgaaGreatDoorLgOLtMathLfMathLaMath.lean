/-
  Parts of one proof, laid as one text: LgO, LtMath, LfMath, LaMath; what each says stands at its head.
-/
import Derived.Test.YtonleickhincgaaGreatDoorRows
import Derived.Test.YtonleickhincgaaGreatDoorBytesDigMath
import Derived.Test.YtonleickhincgaaGreatDoorTreeMathSlABxKSlBOwnS
import Derived.Test.YtonleickhincgaaGreatDoorTimeBPutMathPutNumJoinedPutTextFldMath
import Derived.Test.YtonleickhincgaaGreatDoorGetValGetTxtNumMathFldRdNumFromTmbMathLgMath
import Derived.Test.YtonleickhincgaaGreatDoorLgAtKLgAnsLgRtAudMathHdMathClaMathHearMathFldGOneKFldBlkRwBlkRowOps
import Derived.Handy
import Derived.OwnWalk
import Derived.Test.YtonleickhincgaaGreatDoorShwKOwnBPadIMacMathSgnBDigITurn2
import Derived.WalkSpells
import Derived.Deep.Cut
/-
  A log of its own memory: its rows in a row of their own, the fields of each in one of their own, its leaves in one of their own.
-/
namespace Go.Proofs.YtonleickhincgaaGreatDoor
open Go.RowKit Go.Lib
set_option linter.unusedVariables false
set_option maxRecDepth 20000

theorem elRow : ∃ i, ElT Tryz.prog 39 100 i (.agg #[.string ByteArray.empty, .int .i64 0, .slice none 0 0]) 3 48 :=
  elT_of Tryz.underlying39 infoRow (by kernel_rfl) (by omega) (by intro v hv; simp [Value.cells] at hv; rcases hv with rfl | rfl | rfl <;> rfl)
/-- Two own rows of elements of two types lie in two blocks. -/
theorem own_apart {w : World} {b b' : Nat} {e e' : TypeId} {s s' n n' : Nat} {v v' : Value} {xs xs' : List Value} (h : w.ownsRow b e s v n xs) (k : w.ownsRow b' e' s' v' n' xs') (hne : e ≠ e') : v.ownBlock = none ∨ v.ownBlock ≠ v'.ownBlock := by
  rcases h.2 with ⟨rfl, _⟩ | ⟨g, cap, cur, rfl, _, hg, _⟩
  · exact .inl rfl
  · rcases k.2 with ⟨rfl, _⟩ | ⟨g', cap', cur', rfl, _, hg', _⟩
    · exact .inr (by simp [Value.ownBlock])
    · refine .inr (fun e => ?_)
      have : g = g' := by simpa [Value.ownBlock] using e
      subst this
      rw [hg] at hg'
      injection hg' with h1
      injection h1 with h2 h3
      exact hne h3
theorem own_box {w : World} {base g : Nat} {e T : TypeId} {s : Nat} {v : Value} {n : Nat} {xs : List Value} {cs : Array Value} (h : w.ownsRow base e s v n xs) (hb : Bxs w g T cs) (hne : T ≠ e) : v.ownBlock ≠ some g := by
  intro he
  rcases h.2 with ⟨rfl, _⟩ | ⟨g', cap, cur, rfl, _, hg', _⟩
  · cases he
  · have : g' = g := by simpa [Value.ownBlock] using he
    subst this
    unfold Bxs at hb
    rw [hb] at hg'
    injection hg' with h1
    injection h1 with h2 h3
    exact hne h3
theorem own_low {w : World} {base base' : Nat} {e : TypeId} {s n : Nat} {v : Value} {xs : List Value} (h : w.ownsRow base e s v n xs) (hb : base' ≤ base) : w.ownsRow base' e s v n xs := ownS_mono h hb
/-- A row as its three cells, its fields in a slice. -/
def rcV (x : Rw × Value) : Rc := ⟨x.1.k, x.1.a, x.2⟩
theorem rcV_len (xs : List (Rw × Value)) : (rcRow (xs.map rcV)).length = xs.length * 3 := by rw [rcRow_len, List.length_map]
theorem one_rc (xs : List (Rw × Value)) (h : ∀ x ∈ xs, x.2.oneCell' = true) : ∀ u ∈ rcRow (xs.map rcV), u.oneCell' = true := fun u hu => by
  unfold rcRow at hu
  obtain ⟨r, hr, h1⟩ := List.mem_flatMap.1 hu
  obtain ⟨x, hx, rfl⟩ := List.mem_map.1 hr
  simp [rcCells, rcV] at h1
  rcases h1 with rfl | rfl | rfl
  · rfl
  · rfl
  · exact h x hx
/-- Rows of their own memory. -/
structure RwsO (base : Nat) (xs : List (Rw × Value)) (v : Value) (w : World) : Prop where
  own : w.ownsRow base 100 3 v xs.length (rcRow (xs.map rcV))
  fld : ∀ x ∈ xs, w.ownsRow base 122 5 x.2 x.1.fs.length (fldRow x.1.fs)
  ne : xs.Pairwise (fun x y => x.2.ownBlock = none ∨ x.2.ownBlock ≠ y.2.ownBlock)
section
variable {base base' : Nat} {xs : List (Rw × Value)} {v v1 v2 : Value} {w w' : World} {lv : List ByteArray}
theorem RwsO.nil (base : Nat) (w : World) : RwsO base [] (.slice none 0 0) w := ⟨World.ownsRow_nil _ _ _ _, (fun x hx => by cases hx), List.Pairwise.nil⟩
theorem RwsO.below (h : RwsO base xs v w) (hb : Below w.heap.size w w') : RwsO base xs v w' := ⟨ownS_below h.own hb, fun x hx => ownS_below (h.fld x hx) hb, h.ne⟩
theorem RwsO.lower (h : RwsO base xs v w) (hb : base' ≤ base) : RwsO base' xs v w := ⟨own_low h.own hb, fun x hx => own_low (h.fld x hx) hb, h.ne⟩
/-- .. and none of these blocks is the row that was written. -/
theorem RwsO.kept {row : Option Nat} (h : RwsO base xs v w) (hg : w.grownBy w' row) (h1 : v.ownBlock = none ∨ v.ownBlock ≠ row) (h2 : ∀ x ∈ xs, x.2.ownBlock = none ∨ x.2.ownBlock ≠ row) : RwsO base xs v w' := ⟨h.own.kept hg h1, fun x hx => (h.fld x hx).kept hg (h2 x hx), h.ne⟩
theorem RwsO.lt (h : RwsO base xs v w) : (∀ j, v.ownBlock = some j → base ≤ j ∧ j < w.heap.size) ∧ ∀ x ∈ xs, ∀ j, x.2.ownBlock = some j → base ≤ j ∧ j < w.heap.size := ⟨fun j hj => h.own.lt j hj, fun x hx j hj => (h.fld x hx).lt j hj⟩
/-- A box of another type is written. -/
theorem RwsO.box {T : TypeId} {cs : Array Value} {g : Nat} (h : RwsO base xs v w) (hb : Bxs w g T cs) (n1 : T ≠ 100) (n2 : T ≠ 122) (hg : w.grownBy w' (some g)) : RwsO base xs v w' :=
  h.kept hg (.inr (own_box h.own hb n1)) (fun x hx => .inr (own_box (h.fld x hx) hb n2))
theorem RwsO.form (h : RwsO base xs v w) : ∃ p c, v = .slice p xs.length c ∧ xs.length ≤ c := by
  rcases h.own.2 with ⟨h0, h1⟩ | ⟨g, cap, cur, h1, _, _, h4, _⟩
  · exact ⟨none, 0, by rw [h0, h1], by omega⟩
  · exact ⟨_, _, h1, h4⟩
theorem RwsO.at {p : Option Addr} {c : Nat} (h : RwsO base xs (.slice p xs.length c) w) : RwAt w p (xs.map (·.1)) := by
  intro i hi
  have hi2 : i < xs.length := by simpa using hi
  have hc := own_cel h.own
  have hr := rcRow_at (xs.map rcV) i (by simpa using hi2)
  have hl := rcV_len xs
  obtain ⟨b, off, rfl, hb, h1⟩ := hc (i * 3) (by omega)
  have g : ∀ j (hj : j < (rcRow (xs.map rcV)).length), w.cell? ⟨b, off + j, none⟩ = (rcRow (xs.map rcV))[j]? := fun j hj => by
    obtain ⟨b', off', e, _, h3⟩ := hc j hj
    cases e
    rw [h3, List.getElem?_eq_getElem hj]
  have ev : (xs.map rcV)[i]'(by simpa using hi2) = ⟨xs[i].1.k, xs[i].1.a, xs[i].2⟩ := by simp [rcV]
  rw [ev] at hr
  obtain ⟨q, cc, hq, hcc, hf⟩ := ownF_form (h.fld _ (List.getElem_mem hi2))
  rw [hq] at hr
  have e1 : (xs.map (·.1))[i] = xs[i].1 := by simp
  rw [e1]
  exact ⟨b, off, q, cc, rfl, hb, (g (i * 3) (by omega)).trans hr.1, by rw [Nat.add_assoc]; exact (g (i * 3 + 1) (by omega)).trans hr.2.1, by rw [Nat.add_assoc]; exact (g (i * 3 + 2) (by omega)).trans hr.2.2, hcc, hf⟩
/-- One more row, whose fields lie in memory that came later than all of these. -/
theorem RwsO.app (h : RwsO base xs v w) (x : Rw × Value) (p : Option Addr) (c : Nat) (hx : x.2.oneCell' = true) (hp : CelAt w p (rcRow [rcV x])) (hf : w.ownsRow base 122 5 x.2 x.1.fs.length (fldRow x.1.fs)) (hn : ∀ y ∈ xs, y.2.ownBlock = none ∨ y.2.ownBlock ≠ x.2.ownBlock) (hl : xs.length + 1 ≤ 1048576) (hb : base ≤ w.heap.size) :
    ∃ q d y, (Builtin.append_ #[39, 39] 39 #[v, .slice p 1 c]).run Tryz.prog w = .ok (.slice q (xs.length + 1) d) y ∧ RwsO base (xs ++ [x]) (.slice q (xs.length + 1) d) y ∧ w.grownBy y v.ownBlock ∧ Lies w v (.slice q (xs.length + 1) d) := by
  obtain ⟨i, E⟩ := elRow
  obtain ⟨v', y, h1, h2, h3, h4⟩ := app_cel E 39 w base v xs.length (rcRow (xs.map rcV)) h.own p 1 c (rcRow [rcV x]) hp (by simp [rcRow, rcCells]) (by have := one_rc [x] (fun y hy => by rw [List.mem_singleton.1 hy]; exact hx); simpa using this) (by omega) (by unfold maxLen; omega) hb
  have e0 : rcRow (xs.map rcV) ++ rcRow [rcV x] = rcRow ((xs ++ [x]).map rcV) := by rw [List.map_append, rcRow_append]; rfl
  rw [e0] at h2
  have hform : ∃ q d, v' = .slice q (xs.length + 1) d := by
    rcases h2.2 with ⟨h0, h5⟩ | ⟨g, cap, cur, h5, _⟩
    · omega
    · exact ⟨_, _, h5⟩
  obtain ⟨q, d, rfl⟩ := hform
  have far : ∀ z : Rw × Value, w.ownsRow base 122 5 z.2 z.1.fs.length (fldRow z.1.fs) → y.ownsRow base 122 5 z.2 z.1.fs.length (fldRow z.1.fs) := fun z hz => hz.kept h3 (own_apart hz h.own (by decide))
  refine ⟨q, d, y, h1, ⟨by simpa using h2, fun z hz => ?_, ?_⟩, h3, h4⟩
  · rcases List.mem_append.1 hz with g | g
    · exact far z (h.fld z g)
    · rw [List.mem_singleton.1 g]; exact far x hf
  · rw [List.pairwise_append]
    refine ⟨h.ne, List.pairwise_singleton _ _, fun a ha b hb2 => ?_⟩
    rw [List.mem_singleton.1 hb2]
    exact hn a ha
/-- A log of its own memory. -/
structure LgO (base : Nat) (xs : List (Rw × Value)) (lv : List ByteArray) (v1 v2 : Value) (w : World) : Prop where
  rws : RwsO base xs v1 w
  lvs : w.ownsRow base 9 1 v2 lv.length (strRow lv)
theorem LgO.nil (base : Nat) (w : World) : LgO base [] [] (.slice none 0 0) (.slice none 0 0) w := ⟨RwsO.nil _ _, World.ownsRow_nil _ _ _ _⟩
theorem LgO.below (h : LgO base xs lv v1 v2 w) (hb : Below w.heap.size w w') : LgO base xs lv v1 v2 w' := ⟨h.rws.below hb, ownS_below h.lvs hb⟩
theorem LgO.lower (h : LgO base xs lv v1 v2 w) (hb : base' ≤ base) : LgO base' xs lv v1 v2 w := ⟨h.rws.lower hb, own_low h.lvs hb⟩
theorem LgO.box {T : TypeId} {cs : Array Value} {g : Nat} (h : LgO base xs lv v1 v2 w) (hb : Bxs w g T cs) (n1 : T ≠ 100) (n2 : T ≠ 122) (n3 : T ≠ 9) (hg : w.grownBy w' (some g)) : LgO base xs lv v1 v2 w' := ⟨h.rws.box hb n1 n2 hg, h.lvs.kept hg (.inr (own_box h.lvs hb n3))⟩
theorem LgO.set {g : Nat} (h : LgO base xs lv v1 v2 w) (hg : g < base) (j : Nat) (x : Value) : LgO base xs lv v1 v2 (w.setCell ⟨g, j, none⟩ x) := by
  have k : w.grownBy (w.setCell ⟨g, j, none⟩ x) (some g) := by
    refine ⟨rfl, rfl, rfl, by simp [World.setCell], fun q hq hne => ?_⟩
    have hq' : g ≠ q := fun e => hne (by rw [e])
    simp [World.setCell, Array.getElem?_modify, hq']
  exact ⟨h.rws.kept k (.inr (fun e => by have := (h.rws.lt.1 g e).1; omega)) (fun y hy => .inr (fun e => by have := (h.rws.lt.2 y hy g e).1; omega)), h.lvs.kept k (.inr (fun e => by have := (h.lvs.lt g e).1; omega))⟩
/-- A log in a box at E, made since W. -/
structure LgC (W : World) (E : Nat) (xs : List (Rw × Value)) (lv : List ByteArray) (now : Int) (v1 v2 : Value) (x : World) : Prop where
  box : Bxs x E 41 #[v1, v2, .int .i64 now]
  lg : LgO W.heap.size xs lv v1 v2 x
  eb : W.heap.size ≤ E
  bel : Below W.heap.size W x
variable {W x x' : World} {E : Nat} {now : Int}
theorem LgC.below (h : LgC W E xs lv now v1 v2 x) (hb : Below x.heap.size x x') : LgC W E xs lv now v1 v2 x' := ⟨h.box.below hb, h.lg.below hb, h.eb, chainB h.bel hb⟩
theorem LgC.cells (h : LgC W E xs lv now v1 v2 x) : x.cell? ⟨E, 0, none⟩ = some v1 ∧ x.cell? ⟨E, 1, none⟩ = some v2 ∧ x.cell? ⟨E, 2, none⟩ = some (.int .i64 now) ∧ x.frozen? ⟨E, 0, none⟩ = false ∧ x.frozen? ⟨E, 1, none⟩ = false ∧ x.frozen? ⟨E, 2, none⟩ = false := ⟨h.box.cell 0, h.box.cell 1, h.box.cell 2, h.box.fr 0, h.box.fr 1, h.box.fr 2⟩
theorem set_grw (x : World) (g i : Nat) (v : Value) : x.grownBy (x.setCell ⟨g, i, none⟩ v) (some g) := by
  refine ⟨rfl, rfl, rfl, by simp [World.setCell], fun q hq hne => ?_⟩
  have hq' : g ≠ q := fun e => hne (by rw [e])
  simp [World.setCell, Array.getElem?_modify, hq']
theorem below_cel {B : Nat} {a y : World} (h : Below B a y) {g : Nat} (hg : B ≤ g) (i : Nat) (v : Value) : Below B a (y.setCell ⟨g, i, none⟩ v) := h.setCell (p := ⟨g, i, none⟩) hg v
/-- A log of its own rows and leaves is put into the box. -/
theorem LgC.put {u0 u1 u2 : Value} (k : Bxs x E 41 #[u0, u1, u2]) (hE : W.heap.size ≤ E) (hb : Below W.heap.size W x) (hl : LgO W.heap.size xs lv v1 v2 x) : LgC W E xs lv now v1 v2 (((x.setCell ⟨E, 0, none⟩ v1).setCell ⟨E, 1, none⟩ v2).setCell ⟨E, 2, none⟩ (.int .i64 now)) :=
  ⟨((k.set 0 _).set 1 _).set 2 _, (((hl.box k (by decide) (by decide) (by decide) (set_grw x E 0 v1)).box (k.set 0 v1) (by decide) (by decide) (by decide) (set_grw _ E 1 v2)).box ((k.set 0 v1).set 1 v2) (by decide) (by decide) (by decide) (set_grw _ E 2 _)), hE, below_cel (below_cel (below_cel hb hE 0 _) hE 1 _) hE 2 _⟩
/-- One more row: its fields came later than all that is there. -/
theorem LgC.app {xf : World} (h : LgC W E xs lv now v1 v2 xf) (hx : Below xf.heap.size xf x) (r : Rw) (q : Option Addr) (d : Nat) (hf : x.ownsRow xf.heap.size 122 5 (.slice q r.fs.length d) r.fs.length (fldRow r.fs)) (hl : xs.length + 1 ≤ 1048576) :
    ∃ q2 d2 y, (Builtin.append_ #[39, 39] 39 #[v1, .slice (some ⟨x.heap.size, 0, none⟩) 1 1]).run Tryz.prog (x.alloc (.cells #[.string r.k, .int .i64 r.a, .slice q r.fs.length d] 100)) = .ok (.slice q2 (xs.length + 1) d2) y ∧ LgC W E (xs ++ [(r, .slice q r.fs.length d)]) lv now (.slice q2 (xs.length + 1) d2) v2 (y.setCell ⟨E, 0, none⟩ (.slice q2 (xs.length + 1) d2)) ∧ Below W.heap.size W y ∧ y.cell? ⟨E, 0, none⟩ = some v1 ∧ y.frozen? ⟨E, 0, none⟩ = false ∧ (x.alloc (.cells #[.string r.k, .int .i64 r.a, .slice q r.fs.length d] 100)).grownBy y v1.ownBlock := by
  have hal := (Below.refl x.heap.size x).alloc (Nat.le_refl _) (.cells #[.string r.k, .int .i64 r.a, .slice q r.fs.length d] 100)
  have H := (h.below hx).below hal
  have hc : CelAt (x.alloc (.cells #[.string r.k, .int .i64 r.a, .slice q r.fs.length d] 100)) (some ⟨x.heap.size, 0, none⟩) (rcRow [rcV (r, .slice q r.fs.length d)]) := fun j hj => ⟨x.heap.size, 0, rfl, by simp, by
    rw [Nat.zero_add, (Bxs.new x 100 #[.string r.k, .int .i64 r.a, .slice q r.fs.length d]).cell j]
    have hj3 : j < 3 := by simpa [rcRow, rcCells] using hj
    match j, hj3 with
    | 0, _ => rfl
    | 1, _ => rfl
    | 2, _ => rfl⟩
  have hW := h.bel.size
  have hxz := hx.size
  obtain ⟨q2, d2, y, h1, h2, h3, h4⟩ := H.lg.rws.app (r, .slice q r.fs.length d) (some ⟨x.heap.size, 0, none⟩) 1 rfl hc (own_low (ownS_below hf hal) hW) (fun y hy => by
    cases hy2 : y.2.ownBlock with
    | none => exact .inl rfl
    | some j =>
      refine .inr (fun e => ?_)
      have a := ((h.lg.rws.lt.2 y hy) j hy2).2
      have b := (hf.lt j e.symm).1
      omega) hl H.bel.size
  have hrow : ∀ j, v1.ownBlock = some j → W.heap.size ≤ j := fun j hj => (H.lg.rws.lt.1 j hj).1
  have kb : Bxs y E 41 #[v1, v2, .int .i64 now] := H.box.grown h3 (fun e => own_box H.lg.rws.own H.box (by decide) e.symm)
  have hl2 : y.ownsRow W.heap.size 9 1 v2 lv.length (strRow lv) := H.lg.lvs.kept h3 (own_apart H.lg.lvs H.lg.rws.own (by decide))
  have hby : Below W.heap.size W y := H.bel.grown h3 H.bel.size hrow
  have ho : LgO W.heap.size (xs ++ [(r, .slice q r.fs.length d)]) lv (.slice q2 (xs.length + 1) d2) v2 y := ⟨h2, hl2⟩
  exact ⟨q2, d2, y, h1, ⟨kb.set 0 _, ho.box kb (by decide) (by decide) (by decide) (set_grw y E 0 _), h.eb, below_cel hby h.eb 0 _⟩, hby, kb.cell 0, kb.fr 0, h3⟩
end
end Go.Proofs.YtonleickhincgaaGreatDoor
/-
  A LogOut in new memory; what LogTime answers (plain).
-/
namespace Go.Proofs.YtonleickhincgaaGreatDoor
open Go.RowKit Go.Lib
set_option linter.unusedVariables false
set_option maxRecDepth 20000

/-- A LogOut of its own memory. -/
def LgA (base : Nat) (rs : List Rw) (lv : List ByteArray) (now C : Int) (e : Ending) (w : World) : Prop := ∃ v1 v2 xs, e = .returned (.agg #[v1, v2, .int .i64 now, .int .i64 C]) ∧ xs.map (·.1) = rs ∧ LgO base xs lv v1 v2 w
theorem LgA.ill (base : Nat) (C : Int) (w : World) : LgA base [] [] 0 C (.returned (.agg #[.slice none 0 0, .slice none 0 0, .int .i64 0, .int .i64 C])) w := ⟨_, _, [], rfl, rfl, LgO.nil _ _⟩
def mxB (a b : Int) : Int := if a < b then b else a
def ltB (rs : List Rw) (lv : List ByteArray) (now t : Int) : Bool := lgB rs lv now && timeB t
def ltC (rs : List Rw) (lv : List ByteArray) (now t : Int) : Int := if ltB rs lv now t = true then 0 else 1
def ltmR (rs : List Rw) (lv : List ByteArray) (now t : Int) : List Rw := if ltB rs lv now t = true then rs else []
def ltL (rs : List Rw) (lv : List ByteArray) (now t : Int) : List ByteArray := if ltB rs lv now t = true then lv else []
def ltN (rs : List Rw) (lv : List ByteArray) (now t : Int) : Int := if ltB rs lv now t = true then mxB now t else 0
/-- The log's box and the answer's, as LogTime begins. -/
structure LtB (w : World) (q : Option Addr) (n cq : Nat) (p : Option Addr) (m cp : Nat) (now : Int) (x : World) : Prop where
  lg : Bxs x w.heap.size 41 #[.slice q n cq, .slice p m cp, .int .i64 now]
  rs : Bxs x (w.heap.size + 1) 136 #[.slice none 0 0, .slice none 0 0, .int .i64 0, .int .i64 0]
  bel : Below w.heap.size w x
theorem LtB.below {w x y : World} {q : Option Addr} {n cq : Nat} {p : Option Addr} {m cp : Nat} {now : Int} (h : LtB w q n cq p m cp now x) (hb : Below x.heap.size x y) : LtB w q n cq p m cp now y := ⟨h.lg.below hb, h.rs.below hb, chainB h.bel hb⟩
theorem LtB.thr {w x : World} {q : Option Addr} {n cq : Nat} {p : Option Addr} {m cp : Nat} {now : Int} (h : LtB w q n cq p m cp now x) : x.cell? ⟨w.heap.size, 0, none⟩ = some (.slice q n cq) ∧ x.cell? ⟨w.heap.size, 1, none⟩ = some (.slice p m cp) ∧ x.cell? ⟨w.heap.size, 2, none⟩ = some (.int .i64 now) := ⟨h.lg.cell 0, h.lg.cell 1, h.lg.cell 2⟩
theorem LtB.res {w x : World} {q : Option Addr} {n cq : Nat} {p : Option Addr} {m cp : Nat} {now : Int} (h : LtB w q n cq p m cp now x) : x.cell? ⟨w.heap.size + 1, 0, none⟩ = some (.slice none 0 0) ∧ x.cell? ⟨w.heap.size + 1, 1, none⟩ = some (.slice none 0 0) ∧ x.cell? ⟨w.heap.size + 1, 2, none⟩ = some (.int .i64 0) ∧ x.cell? ⟨w.heap.size + 1, 3, none⟩ = some (.int .i64 0) ∧ x.frozen? ⟨w.heap.size + 1, 0, none⟩ = false ∧ x.frozen? ⟨w.heap.size + 1, 1, none⟩ = false ∧ x.frozen? ⟨w.heap.size + 1, 2, none⟩ = false ∧ x.frozen? ⟨w.heap.size + 1, 3, none⟩ = false := ⟨h.rs.cell 0, h.rs.cell 1, h.rs.cell 2, h.rs.cell 3, h.rs.fr 0, h.rs.fr 1, h.rs.fr 2, h.rs.fr 3⟩
/-- The answer is written into its box: what a log of its own is stays one. -/
theorem LtB.put {w x y : World} {base : Nat} {q : Option Addr} {n cq : Nat} {p : Option Addr} {m cp : Nat} {now : Int} (h : Bxs x (w.heap.size + 1) 136 #[.slice none 0 0, .slice none 0 0, .int .i64 0, .int .i64 0]) (hb : Below w.heap.size w x) {xs : List (Rw × Value)} {lv : List ByteArray} {v1 v2 : Value} (o : LgO base xs lv v1 v2 x) (u0 u1 u2 u3 : Value) :
    Bxs ((((x.setCell ⟨w.heap.size + 1, 0, none⟩ u0).setCell ⟨w.heap.size + 1, 1, none⟩ u1).setCell ⟨w.heap.size + 1, 2, none⟩ u2).setCell ⟨w.heap.size + 1, 3, none⟩ u3) (w.heap.size + 1) 136 #[u0, u1, u2, u3] ∧ LgO base xs lv v1 v2 ((((x.setCell ⟨w.heap.size + 1, 0, none⟩ u0).setCell ⟨w.heap.size + 1, 1, none⟩ u1).setCell ⟨w.heap.size + 1, 2, none⟩ u2).setCell ⟨w.heap.size + 1, 3, none⟩ u3) ∧ Below w.heap.size w ((((x.setCell ⟨w.heap.size + 1, 0, none⟩ u0).setCell ⟨w.heap.size + 1, 1, none⟩ u1).setCell ⟨w.heap.size + 1, 2, none⟩ u2).setCell ⟨w.heap.size + 1, 3, none⟩ u3) :=
  ⟨(((h.set 0 _).set 1 _).set 2 _).set 3 _, (((o.box h (by decide) (by decide) (by decide) (set_grw x _ 0 u0)).box (h.set 0 u0) (by decide) (by decide) (by decide) (set_grw _ _ 1 u1)).box ((h.set 0 u0).set 1 u1) (by decide) (by decide) (by decide) (set_grw _ _ 2 u2)).box (((h.set 0 u0).set 1 u1).set 2 u2) (by decide) (by decide) (by decide) (set_grw _ _ 3 u3), below_set4 hb (by omega) _ _ _ _⟩
theorem lt_boxes (w : World) (q : Option Addr) (n cq : Nat) (p : Option Addr) (m cp : Nat) (now : Int) {W2 : World} (h : W2 = (w.alloc (.cells #[.slice q n cq, .slice p m cp, .int .i64 now] 41)).alloc (.cells #[.slice none 0 0, .slice none 0 0, .int .i64 0, .int .i64 0] 136)) : LtB w q n cq p m cp now W2 := by
  subst h
  have h := Bxs.new (w.alloc (.cells #[.slice q n cq, .slice p m cp, .int .i64 now] 41)) 136 #[.slice none 0 0, .slice none 0 0, .int .i64 0, .int .i64 0]
  rw [szA] at h
  exact ⟨(Bxs.new _ _ _).alloc _, h, alB ((Below.refl _ _).alloc (Nat.le_refl _) _) _⟩
end Go.Proofs.YtonleickhincgaaGreatDoor
/-
  What LogForget answers (plain); a row of a log of its own is written.
-/
namespace Go.Proofs.YtonleickhincgaaGreatDoor
open Go.RowKit Go.Lib
set_option linter.unusedVariables false
set_option maxRecDepth 20000

/-- The row with that field forgotten. -/
def fgt (rs : List Rw) (r f : Int) : Rw := ⟨(rs.getD r.toNat rwZ).k, (rs.getD r.toNat rwZ).a, (rs.getD r.toNat rwZ).fs.set f.toNat (goneF ((rs.getD r.toNat rwZ).fs.getD f.toNat fldD))⟩
def lfC (rs : List Rw) (lv : List ByteArray) (now r f y : Int) : Int := if (lgB rs lv now && decide (1 ≤ y ∧ y ≤ 2)) = true then fcO rs r f else 1
def lfR (rs : List Rw) (lv : List ByteArray) (now r f y : Int) : List Rw := if lfC rs lv now r f y = 0 then rs.set r.toNat (fgt rs r f) else []
def lfL (rs : List Rw) (lv : List ByteArray) (now r f y : Int) : List ByteArray := if lfC rs lv now r f y = 0 then lv ++ [tmRaw ⟨r, f, y, now⟩] else []
def lfN (rs : List Rw) (lv : List ByteArray) (now r f y : Int) : Int := if lfC rs lv now r f y = 0 then now else 0
theorem lf_bad {rs : List Rw} {lv : List ByteArray} {now r f y C : Int} (h : lfC rs lv now r f y = C) (hC : C ≠ 0) : lfR rs lv now r f y = [] ∧ lfL rs lv now r f y = [] ∧ lfN rs lv now r f y = 0 := by
  unfold lfR lfL lfN
  rw [h]
  exact ⟨if_neg hC, if_neg hC, if_neg hC⟩
theorem lf_good {rs : List Rw} {lv : List ByteArray} {now r f y : Int} (h : lfC rs lv now r f y = 0) : lfR rs lv now r f y = rs.set r.toNat (fgt rs r f) ∧ lfL rs lv now r f y = lv ++ [tmRaw ⟨r, f, y, now⟩] ∧ lfN rs lv now r f y = now := by
  unfold lfR lfL lfN
  rw [h]
  exact ⟨if_pos rfl, if_pos rfl, if_pos rfl⟩
theorem getD_row {rs : List Rw} {I : Nat} (hI : I < rs.length) : rs.getD (I : Int).toNat rwZ = rs[I] := by
  rw [Int.toNat_natCast, List.getD_eq_getElem?_getD, List.getElem?_eq_getElem hI]; rfl
theorem fc_zero {rs : List Rw} {r f : Int} (h : fcO rs r f = 0) : ∃ (I J : Nat) (hI : I < rs.length) (hJ : J < rs[I].fs.length), r = I ∧ f = J ∧ rs[I].fs[J].g = false := by
  unfold fcO at h
  by_cases h1 : 0 ≤ r ∧ r ≤ (rs.length : Int) - 1
  · rw [if_pos h1] at h
    obtain ⟨I, rfl⟩ := Int.eq_ofNat_of_zero_le h1.1
    have hI : I < rs.length := by omega
    by_cases h2 : 0 ≤ f ∧ f ≤ ((rs.getD (I : Int).toNat rwZ).fs.length : Int) - 1
    · rw [if_pos h2] at h
      rw [getD_row hI] at h2
      obtain ⟨J, rfl⟩ := Int.eq_ofNat_of_zero_le h2.1
      have hJ : J < rs[I].fs.length := by omega
      refine ⟨I, J, hI, hJ, rfl, rfl, ?_⟩
      have e2 : fldOf rs I J = rs[I].fs[J] := by
        unfold fldOf
        rw [getD_row hI, Int.toNat_natCast, List.getD_eq_getElem?_getD, List.getElem?_eq_getElem hJ]; rfl
      rw [e2] at h
      cases hg : rs[I].fs[J].g with
      | false => rfl
      | true => rw [hg] at h; simp at h
    · rw [if_neg h2] at h; omega
  · rw [if_neg h1] at h; omega
theorem fgt_eq {rs : List Rw} {I J : Nat} (hI : I < rs.length) (hJ : J < rs[I].fs.length) : fgt rs I J = ⟨rs[I].k, rs[I].a, rs[I].fs.set J (goneF rs[I].fs[J])⟩ := by
  unfold fgt
  rw [getD_row hI, Int.toNat_natCast, List.getD_eq_getElem?_getD, List.getElem?_eq_getElem hJ]; rfl
theorem forget_post {k : ByteArray} {a : Int} {fs : List Fld} {J : Nat} (hr : rwB k a fs = true) (hJ : J < fs.length) (hg : fs[J].g = false) : fgC k a fs J = 0 ∧ fgK k a fs J = k ∧ fgA k a fs J = a ∧ fgF k a fs J = fs.set J (goneF fs[J]) := by
  have e : fs.getD (J : Int).toNat fldD = fs[J] := by rw [Int.toNat_natCast, List.getD_eq_getElem?_getD, List.getElem?_eq_getElem hJ]; rfl
  have hC : fgC k a fs J = 0 := by
    unfold fgC
    rw [if_pos hr, if_pos (by omega), e, hg]; rfl
  refine ⟨hC, ?_, ?_, ?_⟩
  · unfold fgK; rw [hC]; rfl
  · unfold fgA; rw [hC]; rfl
  · unfold fgF; rw [hC, e, Int.toNat_natCast]; rfl
theorem lg_tomb {rs : List Rw} {lv : List ByteArray} {now y : Int} {I J : Nat} (h : lgB rs lv now = true) (hI : I < rs.length) (hJ : J < rs[I].fs.length) (hy : 1 ≤ y ∧ y ≤ 2) : tmB ⟨I, J, y, now⟩ = true := by
  obtain ⟨h1, h2, h3⟩ := lg_right h
  have h4 := (rwB_parts (k := rs[I].k) (at_ := rs[I].a) (fs := rs[I].fs) (h3 _ (List.getElem_mem hI))).2.2.1
  unfold lgB timeB at h
  simp only [Bool.and_eq_true, decide_eq_true_iff] at h
  rw [tmB_iff]
  show ((0 : Int) ≤ I ∧ (I : Int) ≤ 63) ∧ ((0 : Int) ≤ J ∧ (J : Int) ≤ 2) ∧ (1 ≤ y ∧ y ≤ 2) ∧ (0 ≤ now ∧ now ≤ 1000000)
  exact ⟨by omega, by omega, hy, h.2.2.1⟩
theorem own_set3 {w : World} {base b n cc : Nat} {l : List Rc} (h : w.ownsRow base 100 3 (.slice (some ⟨b, 0, none⟩) n cc) n (rcRow l)) (i : Nat) (x : Rc) : (set3 w b (i * 3) x).ownsRow base 100 3 (.slice (some ⟨b, 0, none⟩) n cc) n (rcRow (l.set i x)) := by
  have h1 := (h.stored (i * 3) (.string x.k)).1
  have h2 := (h1.stored (i * 3 + 1) (.int .i64 x.a)).1
  have h3 := (h2.stored (i * 3 + 2) x.v).1
  rw [rcRow_set] at h3
  exact h3
theorem set3_grw (x : World) (g i : Nat) (v : Rc) : x.grownBy (set3 x g i v) (some g) := by
  refine ⟨rfl, rfl, rfl, by simp [set3, World.setCell], fun q hq hne => ?_⟩
  have hq' : g ≠ q := fun e => hne (by rw [e])
  simp [set3, World.setCell, Array.getElem?_modify, hq']
theorem RwsO.some_of {base : Nat} {xs : List (Rw × Value)} {v : Value} {w : World} (h : RwsO base xs v w) (h0 : 0 < xs.length) : ∃ g c, v = .slice (some ⟨g, 0, none⟩) xs.length c := by
  rcases h.own.2 with ⟨h1, h2⟩ | ⟨g, cap, cur, h1, _⟩
  · omega
  · exact ⟨g, cap, h1⟩
theorem set_fst (xs : List (Rw × Value)) (I : Nat) (r : Rw) (v : Value) : (xs.set I (r, v)).map (·.1) = (xs.map (·.1)).set I r := by rw [List.map_set]
section
variable {W x x' : World} {E g c : Nat} {xs : List (Rw × Value)} {lv : List ByteArray} {now : Int} {v2 : Value}
theorem LgC.rowv (h : LgC W E xs lv now (.slice (some ⟨g, 0, none⟩) xs.length c) v2 x) (I : Nat) (hI : I < xs.length) : ∃ q0 c0, xs[I].2 = .slice q0 xs[I].1.fs.length c0 ∧ xs[I].1.fs.length ≤ c0 := by
  obtain ⟨q', c', hq, hcc, hf⟩ := ownF_form (h.lg.rws.fld _ (List.getElem_mem hI))
  exact ⟨q', c', hq, hcc⟩
theorem LgC.row (h : LgC W E xs lv now (.slice (some ⟨g, 0, none⟩) xs.length c) v2 x) (I : Nat) (hI : I < xs.length) {q0 : Option Addr} {c0 : Nat} {X : Rw} (hX : xs[I].1 = X) (hv : xs[I].2 = .slice q0 X.fs.length c0) : (x.cell? ⟨g, I * 3, none⟩ = some (.string X.k) ∧ x.cell? ⟨g, I * 3 + 1, none⟩ = some (.int .i64 X.a) ∧ x.cell? ⟨g, I * 3 + 2, none⟩ = some (.slice q0 X.fs.length c0)) ∧ x.frozen? ⟨g, I * 3, none⟩ = false ∧ x.frozen? ⟨g, I * 3 + 1, none⟩ = false ∧ x.frozen? ⟨g, I * 3 + 2, none⟩ = false ∧ FldAt x q0 X.fs := by
  subst hX
  have own := h.lg.rws.own
  have hl := rcV_len xs
  have hr := rcRow_at (xs.map rcV) I (by simpa using hI)
  rw [← own.cellAt (I * 3) (by omega), ← own.cellAt (I * 3 + 1) (by omega), ← own.cellAt (I * 3 + 2) (by omega)] at hr
  have ev : (xs.map rcV)[I]'(by simpa using hI) = ⟨xs[I].1.k, xs[I].1.a, .slice q0 xs[I].1.fs.length c0⟩ := by rw [List.getElem_map]; unfold rcV; rw [hv]
  rw [ev] at hr
  obtain ⟨q', c', hq, hcc, hf⟩ := ownF_form (h.lg.rws.fld _ (List.getElem_mem hI))
  rw [hv] at hq
  cases hq
  exact ⟨hr, own.frozenAt _, own.frozenAt _, own.frozenAt _, hf⟩
/-- A row of it is written: its fields came later than all that is there. -/
theorem LgC.setRow (h : LgC W E xs lv now (.slice (some ⟨g, 0, none⟩) xs.length c) v2 x) (hx : Below x.heap.size x x') (I : Nat) (hI : I < xs.length) (r : Rw) (q : Option Addr) (d : Nat) (hf : x'.ownsRow x.heap.size 122 5 (.slice q r.fs.length d) r.fs.length (fldRow r.fs)) : LgC W E (xs.set I (r, .slice q r.fs.length d)) lv now (.slice (some ⟨g, 0, none⟩) xs.length c) v2 (set3 x' g (I * 3) ⟨r.k, r.a, .slice q r.fs.length d⟩) := by
  have H := h.below hx
  have hg := (H.lg.rws.own.lt g rfl).1
  have gr := set3_grw x' g (I * 3) ⟨r.k, r.a, .slice q r.fs.length d⟩
  have own2 := own_set3 H.lg.rws.own I ⟨r.k, r.a, .slice q r.fs.length d⟩
  have e0 : (xs.map rcV).set I ⟨r.k, r.a, .slice q r.fs.length d⟩ = (xs.set I (r, .slice q r.fs.length d)).map rcV := by rw [List.map_set]; rfl
  rw [e0] at own2
  have hW := h.bel.size
  have hxz := hx.size
  have old : ∀ z ∈ xs, ∀ j, z.2.ownBlock = some j → j < x.heap.size := fun z hz j hj => ((h.lg.rws.lt.2 z hz) j hj).2
  have new : ∀ j, (Value.slice q r.fs.length d).ownBlock = some j → x.heap.size ≤ j := fun j hj => (hf.lt j hj).1
  refine ⟨set3_other H.box (fun e => own_box H.lg.rws.own H.box (by decide) (by rw [e]; rfl)) _, ⟨⟨by rw [List.length_set]; exact own2, fun z hz => ?_, ?_⟩, H.lg.lvs.kept gr (own_apart H.lg.lvs H.lg.rws.own (by decide))⟩, h.eb, set3_below H.bel hg _ _⟩
  · rcases List.mem_or_eq_of_mem_set hz with hz | rfl
    · exact (H.lg.rws.fld z hz).kept gr (own_apart (H.lg.rws.fld z hz) H.lg.rws.own (by decide))
    · exact (own_low hf hW).kept gr (own_apart hf H.lg.rws.own (by decide))
  · rw [List.pairwise_iff_getElem]
    intro i j hi hj hij
    rw [List.length_set] at hi hj
    have hp := List.pairwise_iff_getElem.1 H.lg.rws.ne i j hi hj hij
    rw [List.getElem_set, List.getElem_set]
    split
    · rename_i h1
      rw [if_neg (by omega)]
      cases hb : (Value.slice q r.fs.length d).ownBlock with
      | none => exact .inl rfl
      | some b =>
        refine .inr (fun e => ?_)
        have := new b hb
        have := old _ (List.getElem_mem hj) b e.symm
        omega
    · split
      · rename_i h1 h2
        cases hb : (xs[i]).2.ownBlock with
        | none => exact .inl rfl
        | some b =>
          refine .inr (fun e => ?_)
          have := old _ (List.getElem_mem hi) b hb
          have := new b e.symm
          omega
      · exact hp
end
end Go.Proofs.YtonleickhincgaaGreatDoor
/-
  What LogAdd answers (plain); a leaf more in a log of its own; is a row fresh.
-/
namespace Go.Proofs.YtonleickhincgaaGreatDoor
open Go.RowKit Go.Lib
set_option linter.unusedVariables false
set_option maxRecDepth 20000

/-- Nothing of it is gone. -/
def frsB (fs : List Fld) : Bool := fs.all fun f => !f.g
theorem frs_true {fs : List Fld} (h : ∀ j (h : j < fs.length), fs[j].g = false) : frsB fs = true := by
  unfold frsB
  rw [List.all_eq_true]
  intro x hx
  obtain ⟨j, hj, rfl⟩ := List.getElem_of_mem hx
  rw [h j hj]; rfl
theorem frs_false {fs : List Fld} {k : Nat} (hk : k < fs.length) (h : fs[k].g = true) : frsB fs = false := by
  unfold frsB
  rw [List.all_eq_false]
  exact ⟨_, List.getElem_mem hk, by rw [h]; simp⟩
def laK (rs : List Rw) (lv : List ByteArray) (now : Int) (r : Rw) : Bool := lgB rs lv now && (rwB r.k r.a r.fs && (frsB r.fs && (r.a == now)))
def laC (rs : List Rw) (lv : List ByteArray) (now : Int) (r : Rw) : Int := if laK rs lv now r = true then (if rs.length = 6 then 9 else 0) else 1
def laR (rs : List Rw) (lv : List ByteArray) (now : Int) (r : Rw) : List Rw := if laC rs lv now r = 0 then rs ++ [r] else []
def laL (rs : List Rw) (lv : List ByteArray) (now : Int) (r : Rw) : List ByteArray := if laC rs lv now r = 0 then lv ++ [lfB r.k r.a r.fs] else []
def laN (rs : List Rw) (lv : List ByteArray) (now : Int) (r : Rw) : Int := if laC rs lv now r = 0 then now else 0
theorem la_bad {rs : List Rw} {lv : List ByteArray} {now : Int} {r : Rw} {C : Int} (h : laC rs lv now r = C) (hC : C ≠ 0) : laR rs lv now r = [] ∧ laL rs lv now r = [] ∧ laN rs lv now r = 0 := by
  unfold laR laL laN
  rw [h]
  exact ⟨if_neg hC, if_neg hC, if_neg hC⟩
theorem la_good {rs : List Rw} {lv : List ByteArray} {now : Int} {r : Rw} (h : laC rs lv now r = 0) : laR rs lv now r = rs ++ [r] ∧ laL rs lv now r = lv ++ [lfB r.k r.a r.fs] ∧ laN rs lv now r = now := by
  unfold laR laL laN
  rw [h]
  exact ⟨if_pos rfl, if_pos rfl, if_pos rfl⟩
/-- One more leaf. -/
theorem LgC.leaf {W : World} {E : Nat} {xs : List (Rw × Value)} {lv : List ByteArray} {now : Int} {v1 v2 : Value} {x : World} (h : LgC W E xs lv now v1 v2 x) (t : ByteArray) (hl : lv.length + 1 ≤ 1048576) :
    ∃ g c y, (Builtin.append_ #[25, 25] 25 #[v2, .slice (some ⟨x.heap.size, 0, none⟩) 1 1]).run Tryz.prog (x.alloc (.cells #[.string t] 9)) = .ok (.slice (some ⟨g, 0, none⟩) (lv.length + 1) c) y ∧ LgC W E xs (lv ++ [t]) now v1 (.slice (some ⟨g, 0, none⟩) (lv.length + 1) c) (y.setCell ⟨E, 1, none⟩ (.slice (some ⟨g, 0, none⟩) (lv.length + 1) c)) ∧ Below W.heap.size W y ∧ y.cell? ⟨E, 1, none⟩ = some v2 ∧ y.frozen? ⟨E, 1, none⟩ = false ∧ (x.alloc (.cells #[.string t] 9)).grownBy y v2.ownBlock := by
  have hal := (Below.refl x.heap.size x).alloc (Nat.le_refl _) (.cells #[.string t] 9)
  have H := h.below hal
  obtain ⟨g, c, y, h1, h2, h3, h4⟩ := app_str x W.heap.size v2 lv h.lg.lvs t hl h.bel.size
  have kb : Bxs y E 41 #[v1, v2, .int .i64 now] := H.box.grown h3 (fun e => own_box H.lg.lvs H.box (by decide) e.symm)
  have hr : RwsO W.heap.size xs v1 y := H.lg.rws.kept h3 (own_apart H.lg.rws.own H.lg.lvs (by decide)) (fun z hz => own_apart (H.lg.rws.fld z hz) H.lg.lvs (by decide))
  have hby : Below W.heap.size W y := H.bel.grown h3 H.bel.size (fun j hj => (H.lg.lvs.lt j hj).1)
  have ho : LgO W.heap.size xs (lv ++ [t]) v1 (.slice (some ⟨g, 0, none⟩) (lv.length + 1) c) y := ⟨hr, by simpa using h2⟩
  exact ⟨g, c, y, h1, ⟨kb.set 1 _, ho.box kb (by decide) (by decide) (by decide) (set_grw y E 1 _), h.eb, below_cel hby h.eb 1 _⟩, hby, kb.cell 1, kb.fr 1, h3⟩
set_option maxHeartbeats 1000000 in
theorem l09Fresh_any (k : ByteArray) (a : Int) (q : Option Addr) (c : Nat) (fs : List Fld) (w : World) (hf : FldAt w q fs) (hn : fs.length ≤ 1048576) (hc : fs.length ≤ c) :
    Calls Tryz.prog 134 #[.agg #[.string k, .int .i64 a, .slice q fs.length c]] w fun e w' => e = .returned (.bool (frsB fs)) ∧ Below w.heap.size w w' := by
  obtain ⟨W1, hW1⟩ : ∃ W1, W1 = w.alloc (.cells #[.string k, .int .i64 a, .slice q fs.length c] 100) := ⟨_, rfl⟩
  have HW1 : Hid (W1 = w.alloc (.cells #[.string k, .int .i64 a, .slice q fs.length c] 100)) := hW1
  have B1 : Hid (Below w.heap.size w W1) := by rw [hW1]; exact (Below.refl _ _).alloc (Nat.le_refl _) _
  have K1 : Bxs W1 w.heap.size 100 #[.string k, .int .i64 a, .slice q fs.length c] := by rw [hW1]; exact Bxs.new _ _ _
  have t2 : W1.cell? ⟨w.heap.size, 2, none⟩ = some (.slice q fs.length c) := K1.cell 2
  have HF : Hid (FldAt W1 q fs) := hf.below B1.out
  clear hW1 K1 hf
  go_enter Tryz.func134, Tryz.ntmps134
  go_upto_region 1 with fail
  rw [← HW1.out]
  go_wp2_with fail
  go_loop [3] (fun i => ∃ k : Nat, k ≤ fs.length ∧ i = .int .i64 k ∧ Hid (∀ j (h : j < fs.length), j < k → fs[j].g = false)) (fun i => fs.length - (Go.RowKit.intOf i).toNat)
  case atStart => exact ⟨0, Nat.zero_le _, rfl, fun j h hk => by omega⟩
  case round =>
    obtain ⟨k, hk, rfl, HK⟩ := hrel
    by_cases hlt : k < fs.length
    · have i1 : (k : Int) < fs.length := by omega
      obtain ⟨b, off, rfl, hb, c0, c1, c2, c3, c4⟩ := HF.out k hlt
      cases hg : fs[k].g with
      | true =>
        have HR : Hid (frsB fs = false) := frs_false hlt hg
        rw [hg] at c4
        go_wp2_with fail
        go_ret
        exact ⟨ret_bool (by rw [HR.out]), B1.out⟩
      | false =>
        rw [hg] at c4
        have HK2 : Hid (∀ j (h : j < fs.length), j < k + 1 → fs[j].g = false) := fun j h hj => if he : j = k then by subst he; exact hg else HK.out j h (by omega)
        clear hg
        go_wp2_with fail
        go_round
        case rel => exact ⟨k + 1, by omega, by go_num, HK2⟩
        case measure => simp [Go.RowKit.intOf]; omega
    · obtain rfl : k = fs.length := by omega
      have HR : Hid (frsB fs = true) := frs_true (fun j h => HK.out j h h)
      go_wp2_with fail
      go_ret
      exact ⟨ret_bool (by rw [HR.out]), B1.out⟩
end Go.Proofs.YtonleickhincgaaGreatDoor
