/-
  Parts of one proof, laid as one text: RwBlk, LawFR, LawLg; what each says stands at its head.
-/
import Derived.Test.YthkmeneepkaedaaGreatDoorRows
import Derived.Test.YthkmeneepkaedaaGreatDoorBytesDigMath
import Derived.Test.YthkmeneepkaedaaGreatDoorTreeMathSlASlBBxKOwnS
import Derived.Test.YthkmeneepkaedaaGreatDoorTimeBPutMathPutNumJoinedPutTextFldMath
import Derived.Test.YthkmeneepkaedaaGreatDoorLawSXOneKFldBlkLawFLawFM
import Derived.Test.YthkmeneepkaedaaGreatDoorGetValGetTxtNumMathFldRdNumFromTmbMathLgMath
import Derived.Handy
import Derived.OwnWalk
import Derived.Test.YthkmeneepkaedaaGreatDoorFldGShwKFldHTakesAudMathLawAuOpAuFldRiseScanMath
import Derived.WalkSpells
import Derived.Test.YthkmeneepkaedaaGreatDoorLgAtKLgAnsLawSLawMLawMGLawPfLawSG
import Derived.Deep.RegionHeld3
import Derived.Deep.Cut
/-
  Blocks of rows: their cells, a row stored, a new one of rows that say nothing; rows with blocks of fields of their own.
-/
namespace Go.Proofs.YthkmeneepkaedaaGreatDoor
open Go.RowKit Go.Lib
set_option linter.unusedVariables false
set_option maxRecDepth 20000

/-- A row as its three cells. -/
structure Rc where
  k : ByteArray
  a : Int
  v : Value
def rcCells (x : Rc) : List Value := [.string x.k, .int .i64 x.a, x.v]
def rcRow (l : List Rc) : List Value := l.flatMap rcCells
def rcE : Rc := ⟨⟨#[]⟩, 0, .slice none 0 0⟩
theorem rcRow_len (l : List Rc) : (rcRow l).length = l.length * 3 := by
  induction l with
  | nil => rfl
  | cons f l ih => unfold rcRow at *; rw [List.flatMap_cons, List.length_append, ih]; simp [rcCells]; omega
theorem rcRow_append (l m : List Rc) : rcRow (l ++ m) = rcRow l ++ rcRow m := by simp [rcRow]
theorem rcRow_at (l : List Rc) : ∀ (i : Nat) (h : i < l.length), (rcRow l)[i * 3]? = some (.string l[i].k) ∧ (rcRow l)[i * 3 + 1]? = some (.int .i64 l[i].a) ∧ (rcRow l)[i * 3 + 2]? = some l[i].v := by
  induction l with
  | nil => intro i h; simp at h
  | cons f l ih =>
    intro i h
    match i with
    | 0 => exact ⟨rfl, rfl, rfl⟩
    | i + 1 =>
      have := ih i (by simpa using h)
      rw [show (i + 1) * 3 = i * 3 + 3 by omega]
      exact this
theorem rcRow_set : ∀ (l : List Rc) (i : Nat) (x : Rc), (((rcRow l).set (i * 3) (.string x.k)).set (i * 3 + 1) (.int .i64 x.a)).set (i * 3 + 2) x.v = rcRow (l.set i x)
  | [], i, x => by simp [rcRow]
  | f :: l, 0, x => rfl
  | f :: l, i + 1, x => by
    have ih := rcRow_set l i x
    have e : rcRow (f :: l) = .string f.k :: .int .i64 f.a :: f.v :: rcRow l := rfl
    have e2 : rcRow ((f :: l).set (i + 1) x) = .string f.k :: .int .i64 f.a :: f.v :: rcRow (l.set i x) := rfl
    rw [e, e2, ← ih, show (i + 1) * 3 = i * 3 + 3 by omega]
    rfl
def BlkR (w : World) (g : Nat) (l : List Rc) : Prop := Bxs w g 64 (rcRow l).toArray
theorem BlkR.cells {w : World} {g : Nat} {l : List Rc} (h : BlkR w g l) (i : Nat) (hi : i < l.length) : (w.cell? ⟨g, i * 3, none⟩ = some (.string l[i].k) ∧ w.cell? ⟨g, i * 3 + 1, none⟩ = some (.int .i64 l[i].a) ∧ w.cell? ⟨g, i * 3 + 2, none⟩ = some l[i].v) ∧ w.frozen? ⟨g, i * 3, none⟩ = false ∧ w.frozen? ⟨g, i * 3 + 1, none⟩ = false ∧ w.frozen? ⟨g, i * 3 + 2, none⟩ = false := by
  have hr := rcRow_at l i hi
  have hc : ∀ j, w.cell? ⟨g, j, none⟩ = (rcRow l)[j]? := fun j => by rw [Bxs.cell h j]; simp
  rw [← hc, ← hc, ← hc] at hr
  exact ⟨hr, Bxs.fr h _, Bxs.fr h _, Bxs.fr h _⟩
def set3 (w : World) (g o : Nat) (x : Rc) : World := ((w.setCell ⟨g, o, none⟩ (.string x.k)).setCell ⟨g, o + 1, none⟩ (.int .i64 x.a)).setCell ⟨g, o + 2, none⟩ x.v
theorem bxs_set1 {w : World} {g : Nat} {T : TypeId} {l : List Value} (h : Bxs w g T l.toArray) (j : Nat) (v : Value) : Bxs (w.setCell ⟨g, j, none⟩ v) g T (l.set j v).toArray := by
  have h1 := h.set j v
  rwa [List.setIfInBounds_toArray] at h1
theorem BlkR.set3 {w : World} {g : Nat} {l : List Rc} (h : BlkR w g l) (i : Nat) (x : Rc) : BlkR (set3 w g (i * 3) x) g (l.set i x) := by
  unfold BlkR
  rw [← rcRow_set]
  exact bxs_set1 (bxs_set1 (bxs_set1 h _ _) _ _) _ _
theorem set3_other {w : World} {g b o : Nat} {T : TypeId} {cs : Array Value} (h : Bxs w g T cs) (hne : b ≠ g) (x : Rc) : Bxs (set3 w b o x) g T cs := ((h.other b _ hne _).other b _ hne _).other b _ hne _
theorem set3_below {B : Nat} {a w : World} (h : Below B a w) {g : Nat} (hg : B ≤ g) (o : Nat) (x : Rc) : Below B a (set3 w g o x) := ((h.setCell hg _).setCell hg _).setCell hg _
theorem infoRow : (Tryz.prog.info? 64).map (fun i => (i.zero, i.size, i.bytes)) = some (some (.agg #[.string ByteArray.empty, .int .i64 0, .slice none 0 0]), 3, 48) := by kernel_rfl
theorem made_rc (n : Nat) : madeCells #[.string ByteArray.empty, .int .i64 0, .slice none 0 0] (n * 3) = (rcRow (List.replicate n rcE)).toArray := by
  unfold madeCells
  apply Array.ext
  · simp [rcRow_len]
  · intro i h0 h2
    have h1 : i < n * 3 := by simpa using h0
    have hr := rcRow_at (List.replicate n rcE) (i / 3) (by rw [List.length_replicate]; omega)
    simp only [List.getElem_replicate] at hr
    have hm : i % 3 < 3 := Nat.mod_lt _ (by omega)
    have hd : i = i / 3 * 3 + i % 3 := by omega
    have hl : i < (rcRow (List.replicate n rcE)).length := by simpa using h2
    have hg : ∀ v, (rcRow (List.replicate n rcE))[i]? = some v → (rcRow (List.replicate n rcE)).toArray[i] = v := fun v hv => by
      rw [List.getElem?_eq_getElem hl] at hv
      have := Option.some.inj hv
      simpa using this
    simp only [Array.getElem_map, Array.getElem_range]
    match hq : i % 3, hm with
    | 0, _ => rw [hq] at hd; rw [hg _ (by rw [hd]; exact hr.1)]; simp [rcE]; rfl
    | 1, _ => rw [hq] at hd; rw [hg _ (by rw [hd]; exact hr.2.1)]; simp [rcE]
    | 2, _ => rw [hq] at hd; rw [hg _ (by rw [hd]; exact hr.2.2)]; simp [rcE]
theorem run_make_rc (n : Nat) (hn : n ≤ 1048576) (w : World) :
    (Instr.makeSlice 28 (.int .i64 (n : Int)) (.int .i64 (n : Int))).run Tryz.prog w = .ok (.slice (some ⟨w.heap.size, 0, none⟩) n n) (w.alloc (.cells (rcRow (List.replicate n rcE)).toArray 64)) := by
  obtain ⟨i0, hi, hz0, hz1, hz2⟩ := info_parts infoRow
  have := run_make (P := Tryz.prog) w 28 64 i0 _ Tryz.underlying28 hi hz0 .i64 .i64 (n : Int) (n : Int) (by omega) (by omega) (by rw [hz2]; omega) (by omega)
  rw [this, hz1]
  simp only [Int.toNat_natCast]
  rw [← made_rc]; rfl
theorem alloc_rc (w : World) (l : List Rc) : BlkR (w.alloc (.cells (rcRow l).toArray 64)) w.heap.size l := (MapKept.heap_alloc w _).1
/-! ### Rows with blocks of fields of their own -/
def rcOf (x : Rw × Nat) : Rc := ⟨x.1.k, x.1.a, .slice (some ⟨x.2, 0, none⟩) x.1.fs.length x.1.fs.length⟩
/-- The block g holds rows, the fields of each lie in a block of their own behind it. -/
structure RwsB (w : World) (g : Nat) (xs : List (Rw × Nat)) : Prop where
  blk : BlkR w g (xs.map rcOf)
  fld : ∀ x ∈ xs, BlkF w x.2 x.1.fs
  up : ∀ x ∈ xs, g < x.2
  apart : xs.Pairwise (fun x y => x.2 < y.2)
theorem RwsB.below {w w' : World} {g : Nat} {xs : List (Rw × Nat)} (h : RwsB w g xs) (hb : Below w.heap.size w w') : RwsB w' g xs := ⟨Bxs.below h.blk hb, fun x hx => (h.fld x hx).below hb, h.up, h.apart⟩
theorem RwsB.lt {w : World} {g : Nat} {xs : List (Rw × Nat)} (h : RwsB w g xs) : g < w.heap.size := Bxs.lt h.blk
theorem RwsB.at {w : World} {g : Nat} {xs : List (Rw × Nat)} (h : RwsB w g xs) : RwAt w (some ⟨g, 0, none⟩) (xs.map (·.1)) := by
  intro i hi
  have hi2 : i < xs.length := by simpa using hi
  obtain ⟨⟨c0, c1, c2⟩, -⟩ := h.blk.cells i (by simpa using hi2)
  rw [List.getElem_map] at c0 c1 c2
  have e : (xs.map (·.1))[i] = xs[i].1 := by simp
  refine ⟨g, 0, some ⟨xs[i].2, 0, none⟩, xs[i].1.fs.length, rfl, h.lt, ?_, ?_, ?_, ?_, ?_⟩
  · rw [Nat.zero_add, e]; exact c0
  · rw [Nat.zero_add, e]; exact c1
  · rw [Nat.zero_add, e]; exact c2
  · rw [e]; exact Nat.le_refl _
  · rw [e]; exact (h.fld _ (List.getElem_mem hi2)).at
end Go.Proofs.YthkmeneepkaedaaGreatDoor
/-
  What the laws' own helpers answer for rows: szRow, toRow, eqRow, eqRowOut (of two that are alike).
  Conditions: the slices' cells hold the fields.
-/
namespace Go.Proofs.YthkmeneepkaedaaGreatDoor
open Go.RowKit Go.Lib
set_option linter.unusedVariables false
set_option maxRecDepth 20000

set_option maxHeartbeats 1000000 in
theorem szRow_any (kd : ByteArray) (at_ : Int) (p : Option Addr) (c : Nat) (fs : List Fld) (w : World) (h1 : FldAt w p fs) (n1 : fs.length ≤ 9223372036854775807) (m1 : fs.length ≤ c) (s1 : FldsBig fs) (s0 : kd.size ≤ 9223372036854775807) :
    Calls Tryz.prog 63 #[.agg #[.string kd, .int .i64 at_, .slice p fs.length c], .int .i64 1048576] w fun e w' => (∃ r : Int, e = .returned (.int .i64 r) ∧ (r = -1 ∨ (0 ≤ r ∧ r ≤ 1048576 ∧ fs.length ≤ 1048576))) ∧ Below w.heap.size w w' := by
  obtain ⟨W1, hW1⟩ : ∃ W1, W1 = w.alloc (.cells #[.string kd, .int .i64 at_, .slice p fs.length c] 114) := ⟨_, rfl⟩
  have HW1 : Hid (W1 = w.alloc (.cells #[.string kd, .int .i64 at_, .slice p fs.length c] 114)) := hW1
  have B1 : Hid (Below w.heap.size w W1) := by rw [hW1]; exact (Below.refl _ _).alloc (Nat.le_refl _) _
  have H2 : Hid (∀ (l0 : Int), 0 ≤ l0 → l0 ≤ 1048576 → Calls Tryz.prog 96 #[.slice p fs.length c, .int .i64 l0] W1 fun e w' => (∃ r : Int, e = .returned (.int .i64 r) ∧ (r = -1 ∨ (0 ≤ r ∧ r ≤ l0 ∧ fs.length ≤ 1048576))) ∧ Below W1.heap.size W1 w') := fun l0 a b => szF_any l0 a b p c fs W1 (h1.below B1.out) n1 m1 s1
  clear h1 s1 hW1
  by_cases hk : (kd.size : Int) ≤ 1048576
  · have H3 := H2.out (1048576 - kd.size) (by omega) (by omega)
    clear H2
    go_enter Tryz.func63, Tryz.ntmps63
    go_wp2_with fail
    rw [← HW1.out]
    refine H3.mono ?_
    rintro e w2 ⟨⟨r', rfl, hr'⟩, b2⟩
    have b2 := chainB B1.out b2
    clear H3
    rcases hr' with rfl | ⟨r4, r5, r6⟩
    · go_wp2_with fail
      go_ret
      exact ⟨⟨_, rfl, .inl rfl⟩, b2⟩
    · have dr : decide (r' < 0) = false := decide_eq_false (by omega)
      go_wp2_with fail
      go_ret
      exact ⟨⟨_, rfl, .inr ⟨r4, by omega, r6⟩⟩, b2⟩
  · clear H2
    go_enter Tryz.func63, Tryz.ntmps63
    go_wp2_with fail
    rw [← HW1.out]
    go_ret
    exact ⟨⟨_, rfl, .inl rfl⟩, B1.out⟩

set_option maxHeartbeats 2000000 in
theorem toRow_any (kd : ByteArray) (at_ : Int) (p : Option Addr) (c : Nat) (fs : List Fld) (w : World) (h1 : FldAt w p fs) (n1 : fs.length ≤ 1048576) (m1 : fs.length ≤ c) :
    Calls Tryz.prog 69 #[.agg #[.string kd, .int .i64 at_, .slice p fs.length c]] w fun e w' => ∃ g, w.heap.size ≤ g ∧ e = .returned (.agg #[.string kd, .int .i64 at_, .slice (some ⟨g, 0, none⟩) fs.length fs.length]) ∧ BlkF w' g fs ∧ Below w.heap.size w w' := by
  obtain ⟨W1, hW1⟩ : ∃ W1, W1 = w.alloc (.cells #[.string kd, .int .i64 at_, .slice p fs.length c] 114) := ⟨_, rfl⟩
  obtain ⟨W2, hW2⟩ : ∃ W2, W2 = W1.alloc (.cells #[.string ⟨#[]⟩, .int .i64 0, .slice none 0 0] 64) := ⟨_, rfl⟩
  obtain ⟨W3, hW3⟩ : ∃ W3, W3 = W2.alloc (.cells #[.string kd, .int .i64 at_, .slice none 0 0] 64) := ⟨_, rfl⟩
  have z1 : W1.heap.size = w.heap.size + 1 := by rw [hW1]; simp
  have z2 : W2.heap.size = w.heap.size + 1 + 1 := by rw [hW2]; simp [z1]
  have z3 : W3.heap.size = w.heap.size + 3 := by rw [hW3]; simp [z2]
  have b1 : Below w.heap.size w W1 := by rw [hW1]; exact (Below.refl _ _).alloc (Nat.le_refl _) _
  have b2 : Below w.heap.size w W2 := by rw [hW2]; exact alB b1 _
  have B0 : Hid (Below w.heap.size w W3) := by rw [hW3]; exact alB b2 _
  have XR : Hid (Bxs W3 (w.heap.size + 1) 64 #[.string ⟨#[]⟩, .int .i64 0, .slice none 0 0]) := by rw [hW3]; refine Bxs.alloc ?_ _; rw [hW2, ← z1]; exact Bxs.new _ _ _
  have XO : Hid (Bxs W3 (w.heap.size + 1 + 1) 64 #[.string kd, .int .i64 at_, .slice none 0 0]) := by rw [hW3, ← z2]; exact Bxs.new _ _ _
  have HW3 : Hid (W3 = ((w.alloc (.cells #[.string kd, .int .i64 at_, .slice p fs.length c] 114)).alloc (.cells #[.string ⟨#[]⟩, .int .i64 0, .slice none 0 0] 64)).alloc (.cells #[.string kd, .int .i64 at_, .slice none 0 0] 64)) := by rw [hW3, hW2, hW1]; exact rfl
  have HC := toF_any p c fs W3 (h1.below B0.out) n1 m1
  have HZ3 : Hid (W3.heap.size = w.heap.size + 3) := z3
  clear hW1 hW2 hW3 z1 z2 z3 b1 b2 h1
  go_enter Tryz.func69, Tryz.ntmps69
  go_wp2_with fail
  rw [← HW3.out]
  refine HC.mono ?_
  rintro e w4 ⟨rfl, hB4, b4⟩
  rw [HZ3.out] at hB4 ⊢
  have xo := XO.out.below b4
  have xr := XR.out.below b4
  have o0 : w4.cell? ⟨w.heap.size + 1 + 1, 0, none⟩ = some (.string kd) := xo.cell 0
  have o1 : w4.cell? ⟨w.heap.size + 1 + 1, 1, none⟩ = some (.int .i64 at_) := xo.cell 1
  have o2 : w4.cell? ⟨w.heap.size + 1 + 1, 2, none⟩ = some (.slice none 0 0) := xo.cell 2
  have fo := xo.fr 2
  have r0 : w4.cell? ⟨w.heap.size + 1, 0, none⟩ = some (.string ⟨#[]⟩) := xr.cell 0
  have r1 : w4.cell? ⟨w.heap.size + 1, 1, none⟩ = some (.int .i64 0) := xr.cell 1
  have r2 : w4.cell? ⟨w.heap.size + 1, 2, none⟩ = some (.slice none 0 0) := xr.cell 2
  have e0 := xr.fr 0
  have e1 := xr.fr 1
  have e2 := xr.fr 2
  have HEnd : Hid (∀ v0 v1 v2 v3 : Value, BlkF ((((w4.setCell ⟨w.heap.size + 1 + 1, 2, none⟩ v0).setCell ⟨w.heap.size + 1, 0, none⟩ v1).setCell ⟨w.heap.size + 1, 1, none⟩ v2).setCell ⟨w.heap.size + 1, 2, none⟩ v3) (w.heap.size + 3) fs ∧ Below w.heap.size w ((((w4.setCell ⟨w.heap.size + 1 + 1, 2, none⟩ v0).setCell ⟨w.heap.size + 1, 0, none⟩ v1).setCell ⟨w.heap.size + 1, 1, none⟩ v2).setCell ⟨w.heap.size + 1, 2, none⟩ v3)) := by
    intro v0 v1 v2 v3
    have hb := chainB B0.out b4
    exact ⟨Bxs.other (Bxs.other (Bxs.other (Bxs.other hB4 _ _ (by omega) _) _ _ (by omega) _) _ _ (by omega) _) _ _ (by omega) _, (((hb.setCell (by show w.heap.size ≤ w.heap.size + 1 + 1; omega) _).setCell (by show w.heap.size ≤ w.heap.size + 1; omega) _).setCell (by show w.heap.size ≤ w.heap.size + 1; omega) _).setCell (by show w.heap.size ≤ w.heap.size + 1; omega) _⟩
  clear hB4 b4 xo xr HC XR XO B0 HW3
  go_wp2_with fail
  refine bodyPost_ret (v := .agg #[.string kd, .int .i64 at_, .slice (some ⟨w.heap.size + 3, 0, none⟩) fs.length fs.length]) (by simp [results, Tryz.results69, go_sem, r0, r1, r2]) rfl ?_
  exact ⟨w.heap.size + 3, by omega, rfl, HEnd.out _ _ _ _⟩

set_option maxHeartbeats 1000000 in
theorem eqRow_any (kd : ByteArray) (at_ : Int) (p q : Option Addr) (c d : Nat) (fs : List Fld) (w : World) (h1 : FldAt w p fs) (g1 : FldAt w q fs) (n1 : fs.length ≤ 1048576) (m1 : fs.length ≤ c) (m2 : fs.length ≤ d) :
    Calls Tryz.prog 73 #[.agg #[.string kd, .int .i64 at_, .slice p fs.length c], .agg #[.string kd, .int .i64 at_, .slice q fs.length d]] w fun e w' => e = .returned (.bool true) ∧ Below w.heap.size w w' := by
  obtain ⟨W0, hW0⟩ : ∃ W0, W0 = w.alloc (.cells #[.string kd, .int .i64 at_, .slice p fs.length c] 64) := ⟨_, rfl⟩
  obtain ⟨W1, hW1⟩ : ∃ W1, W1 = W0.alloc (.cells #[.string kd, .int .i64 at_, .slice q fs.length d] 64) := ⟨_, rfl⟩
  have HW1 : Hid (W1 = (w.alloc (.cells #[.string kd, .int .i64 at_, .slice p fs.length c] 64)).alloc (.cells #[.string kd, .int .i64 at_, .slice q fs.length d] 64)) := by rw [hW1, hW0]; exact rfl
  have hB0 : Below w.heap.size w W0 := by rw [hW0]; exact (Below.refl _ _).alloc (Nat.le_refl _) _
  have B1 : Hid (Below w.heap.size w W1) := by rw [hW1]; exact alB hB0 _
  have hE := eqF_any p q c d fs W1 (h1.below B1.out) (g1.below B1.out) n1 m1 m2
  clear hW1 hW0 h1 g1 hB0
  go_enter Tryz.func73, Tryz.ntmps73
  go_wp2_with fail
  rw [← HW1.out]
  refine hE.mono ?_
  rintro e w1 ⟨rfl, b1⟩
  have b1 := chainB B1.out b1
  clear hE
  go_wp2_with fail
  go_ret
  exact ⟨rfl, b1⟩

end Go.Proofs.YthkmeneepkaedaaGreatDoor
/-
  What the laws' own helpers answer for rows and logs: szRowS, szLog (of few and small ones a number that is not below 0, else -1), toRowS, toLog (a copy in new memory), eqRowS, eqLog (of what is alike true).
-/
namespace Go.Proofs.YthkmeneepkaedaaGreatDoor
open Go.RowKit Go.Lib
set_option linter.unusedVariables false
set_option maxRecDepth 20000

set_option maxHeartbeats 1000000 in
theorem szRowL_any (l0 : Int) (l00 : 0 ≤ l0) (l01 : l0 ≤ 1048576) (kd : ByteArray) (at_ : Int) (p : Option Addr) (c : Nat) (fs : List Fld) (w : World) (h1 : FldAt w p fs) (n1 : fs.length ≤ 9223372036854775807) (m1 : fs.length ≤ c) (s1 : FldsBig fs) (s0 : kd.size ≤ 9223372036854775807) :
    Calls Tryz.prog 63 #[.agg #[.string kd, .int .i64 at_, .slice p fs.length c], .int .i64 l0] w fun e w' => (∃ r : Int, e = .returned (.int .i64 r) ∧ (r = -1 ∨ (0 ≤ r ∧ r ≤ l0 ∧ fs.length ≤ 1048576))) ∧ Below w.heap.size w w' := by
  obtain ⟨W1, hW1⟩ : ∃ W1, W1 = w.alloc (.cells #[.string kd, .int .i64 at_, .slice p fs.length c] 114) := ⟨_, rfl⟩
  have HW1 : Hid (W1 = w.alloc (.cells #[.string kd, .int .i64 at_, .slice p fs.length c] 114)) := hW1
  have B1 : Hid (Below w.heap.size w W1) := by rw [hW1]; exact (Below.refl _ _).alloc (Nat.le_refl _) _
  have H2 : Hid (∀ (l0 : Int), 0 ≤ l0 → l0 ≤ 1048576 → Calls Tryz.prog 96 #[.slice p fs.length c, .int .i64 l0] W1 fun e w' => (∃ r : Int, e = .returned (.int .i64 r) ∧ (r = -1 ∨ (0 ≤ r ∧ r ≤ l0 ∧ fs.length ≤ 1048576))) ∧ Below W1.heap.size W1 w') := fun l0 a b => szF_any l0 a b p c fs W1 (h1.below B1.out) n1 m1 s1
  clear h1 s1 hW1
  by_cases hk : (kd.size : Int) ≤ l0
  · have H3 := H2.out (l0 - kd.size) (by omega) (by omega)
    have d0 : decide (l0 - (kd.size : Int) < 0) = false := decide_eq_false (by omega)
    clear H2
    go_enter Tryz.func63, Tryz.ntmps63
    go_wp2_with fail
    rw [← HW1.out]
    refine H3.mono ?_
    rintro e w2 ⟨⟨r', rfl, hr'⟩, b2⟩
    have b2 := chainB B1.out b2
    clear H3
    rcases hr' with rfl | ⟨r4, r5, r6⟩
    · go_wp2_with fail
      go_ret
      exact ⟨⟨_, rfl, .inl rfl⟩, b2⟩
    · have dr : decide (r' < 0) = false := decide_eq_false (by omega)
      go_wp2_with fail
      go_ret
      exact ⟨⟨_, rfl, .inr ⟨r4, by omega, r6⟩⟩, b2⟩
  · have d0 : decide (l0 - (kd.size : Int) < 0) = true := decide_eq_true (by omega)
    clear H2
    go_enter Tryz.func63, Tryz.ntmps63
    go_wp2_with fail
    rw [← HW1.out]
    go_ret
    exact ⟨⟨_, rfl, .inl rfl⟩, B1.out⟩
def RwsBig (rs : List Rw) : Prop := ∀ r ∈ rs, r.fs.length ≤ 9223372036854775807 ∧ r.k.size ≤ 9223372036854775807 ∧ FldsBig r.fs
set_option maxHeartbeats 2000000 in
theorem szRowS_any (p : Option Addr) (cap : Nat) (rs : List Rw) (w : World) (hp : RwAt w p rs) (hn : rs.length ≤ 9223372036854775807) (hcap : rs.length ≤ cap) (hs : RwsBig rs) :
    Calls Tryz.prog 23 #[.slice p rs.length cap, .int .i64 1048576] w fun e w' => (∃ r : Int, e = .returned (.int .i64 r) ∧ (r = -1 ∨ (0 ≤ r ∧ r ≤ 1048576 ∧ rs.length ≤ 1048576 ∧ ∀ x ∈ rs, x.fs.length ≤ 1048576))) ∧ Below w.heap.size w w' := by
  have HP : Hid (RwAt w p rs) := hp
  have HS : Hid (RwsBig rs) := hs
  clear hp hs
  by_cases hl : (rs.length : Int) ≤ 1048576
  · have d0 : decide ((1048576 : Int) - (rs.length : Int) < 0) = false := decide_eq_false (by omega)
    go_enter Tryz.func23, Tryz.ntmps23
    go_wp2_with fail
    go_loopw [5, 1] (fun i x wr => ∃ (k : Nat) (l : Int), k ≤ rs.length ∧ i = .int .i64 k ∧ x = .int .i64 l ∧ 0 ≤ l ∧ l ≤ 1048576 ∧ Hid (Below w.heap.size w wr) ∧ Hid (∀ j (h : j < rs.length), j < k → rs[j].fs.length ≤ 1048576)) (fun i _ _ => rs.length - (intOf i).toNat)
    case atStart => exact ⟨0, _, Nat.zero_le _, rfl, rfl, by omega, by omega, Below.refl _ _, fun j h hk => by omega⟩
    case round =>
      obtain ⟨k, l, hk, rfl, rfl, l0, l1, HB, HF⟩ := hrel
      by_cases hlt : k < rs.length
      · have i1 : (k : Int) < rs.length := by omega
        obtain ⟨b, off, rq, rc, rfl, hb0, c0, c1, c2, c3, c4⟩ := (HP.out.below HB.out) k hlt
        have hbb := HS.out _ (List.getElem_mem hlt)
        have hZ := szRowL_any l l0 l1 rs[k].k rs[k].a rq rc rs[k].fs wr c4 hbb.1 c3 hbb.2.2 hbb.2.1
        have HF1 : Hid (rs[k].fs.length ≤ 1048576 → ∀ j (h : j < rs.length), j < k + 1 → rs[j].fs.length ≤ 1048576) := fun h0 j h hj => if he : j = k then by subst he; exact h0 else HF.out j h (by omega)
        clear HF hbb hb0 c3 c4
        generalize rs[k].k = rk at *
        generalize rs[k].a = ra at *
        generalize rs[k].fs.length = fl at *
        go_wp2_with fail
        refine hZ.mono ?_
        rintro e y ⟨⟨r', rfl, hr'⟩, b2⟩
        clear hZ c0 c1 c2
        have HB2 : Hid (Below w.heap.size w y) := chainB HB.out b2
        rcases hr' with rfl | ⟨r4, r5, r6⟩
        · go_wp2_with fail
          go_ret
          exact ⟨⟨_, rfl, .inl rfl⟩, HB2.out⟩
        · have dr : decide (r' < 0) = false := decide_eq_false (by omega)
          have HF2 : Hid (∀ j (h : j < rs.length), j < k + 1 → rs[j].fs.length ≤ 1048576) := HF1.out r6
          clear HF1
          go_wp2_with fail
          go_roundw
          case rel => exact ⟨k + 1, r', by omega, by simp, rfl, r4, by omega, HB2.out, HF2.out⟩
          case measure => simp [intOf]; omega
      · obtain rfl : k = rs.length := by omega
        go_wp2_with fail
        go_ret
        exact ⟨⟨_, rfl, .inr ⟨l0, l1, by omega, fun x hx => by obtain ⟨j, hj, rfl⟩ := List.getElem_of_mem hx; exact HF.out j hj hj⟩⟩, HB.out⟩
  · have d0 : decide ((1048576 : Int) - (rs.length : Int) < 0) = true := decide_eq_true (by omega)
    go_enter Tryz.func23, Tryz.ntmps23
    go_wp2_with fail
    go_ret
    exact ⟨⟨_, rfl, .inl rfl⟩, Below.refl _ _⟩
set_option maxHeartbeats 2000000 in
theorem szLog_any (q : Option Addr) (cq : Nat) (rs : List Rw) (p : Option Addr) (cp : Nat) (lv : List ByteArray) (now : Int) (w : World) (hq : RwAt w q rs) (hn : rs.length ≤ 9223372036854775807) (hcq : rs.length ≤ cq) (hs : RwsBig rs) (hp : TxtAt w p lv) (hl : lv.length ≤ 9223372036854775807) (hcp : lv.length ≤ cp) (hz : ∀ x ∈ lv, x.size ≤ 9223372036854775807) :
    Calls Tryz.prog 6 #[.agg #[.slice q rs.length cq, .slice p lv.length cp, .int .i64 now], .int .i64 1048576] w fun e w' => (∃ r : Int, e = .returned (.int .i64 r) ∧ (r = -1 ∨ (0 ≤ r ∧ r ≤ 1048576 ∧ (rs.length ≤ 1048576 ∧ ∀ x ∈ rs, x.fs.length ≤ 1048576) ∧ lv.length ≤ 1048576))) ∧ Below w.heap.size w w' := by
  obtain ⟨W1, hW1⟩ : ∃ W1, W1 = w.alloc (.cells #[.slice q rs.length cq, .slice p lv.length cp, .int .i64 now] 25) := ⟨_, rfl⟩
  have HW1 : Hid (W1 = w.alloc (.cells #[.slice q rs.length cq, .slice p lv.length cp, .int .i64 now] 25)) := hW1
  have B1 : Hid (Below w.heap.size w W1) := by rw [hW1]; exact (Below.refl _ _).alloc (Nat.le_refl _) _
  have K1 : Hid (Bxs W1 w.heap.size 25 #[.slice q rs.length cq, .slice p lv.length cp, .int .i64 now]) := by rw [hW1]; exact Bxs.new _ _ _
  have hR := szRowS_any q cq rs W1 (hq.below B1.out) hn hcq hs
  have HT : Hid (∀ (l0 : Int), 0 ≤ l0 → l0 ≤ 1048576 → ∀ x, Below W1.heap.size W1 x → Calls Tryz.prog 24 #[.slice p lv.length cp, .int .i64 l0] x fun e w' => (∃ r : Int, e = .returned (.int .i64 r) ∧ SzTo r l0 lv) ∧ w' = x) := fun l0 a b x hb => szG_any l0 a b p cp lv x ((hp.below B1.out).below hb) hl hcp hz
  clear hW1 hq hp hs hz
  go_enter Tryz.func6, Tryz.ntmps6
  go_wp2_with fail
  rw [← HW1.out]
  refine hR.mono ?_
  rintro e y ⟨⟨r, rfl, hr⟩, by_⟩
  clear hR
  have x1 := (K1.out.below by_).cell 1
  rcases hr with rfl | ⟨r0, r1, r2, r3⟩
  · go_wp2_with fail
    go_ret
    exact ⟨⟨_, rfl, .inl rfl⟩, chainB B1.out by_⟩
  · have dr : decide (r < 0) = false := decide_eq_false (by omega)
    have hT := HT.out r r0 r1 y by_
    go_wp2_with fail
    refine hT.mono ?_
    rintro e y2 ⟨⟨r', rfl, hr'⟩, rfl⟩
    clear hT HT
    rcases hr' with rfl | ⟨r4, r5, r6, r7⟩
    · go_wp2_with fail
      go_ret
      exact ⟨⟨_, rfl, .inl rfl⟩, chainB B1.out by_⟩
    · have dr' : decide (r' < 0) = false := decide_eq_false (by omega)
      go_wp2_with fail
      go_ret
      exact ⟨⟨_, rfl, .inr ⟨r4, by omega, ⟨r2, r3⟩, r6⟩⟩, chainB B1.out by_⟩
/-! ### A copy in new memory -/
def cutR (rs : List Rw) (xs : List (Rw × Nat)) : List Rc := xs.map rcOf ++ List.replicate (rs.length - xs.length) rcE
/-- k rows are copied. -/
structure CpR (w : World) (rs : List Rw) (k : Nat) (W : World) : Prop where
  ex : ∃ xs : List (Rw × Nat), xs.map (·.1) = rs.take k ∧ BlkR W w.heap.size (cutR rs xs) ∧ (∀ x ∈ xs, BlkF W x.2 x.1.fs) ∧ (∀ x ∈ xs, w.heap.size < x.2) ∧ xs.Pairwise (fun x y => x.2 < y.2)
  bel : Below w.heap.size w W
theorem cutR_set (rs : List Rw) (xs : List (Rw × Nat)) (x : Rw × Nat) (h : xs.length < rs.length) : (cutR rs xs).set xs.length (rcOf x) = cutR rs (xs ++ [x]) := by
  unfold cutR
  rw [List.set_append_right _ _ (by simp)]
  simp only [List.length_map, Nat.sub_self, List.map_append, List.map_cons, List.map_nil, List.append_assoc, List.length_append, List.length_cons, List.length_nil]
  congr 1
  obtain ⟨m, hm⟩ : ∃ m, rs.length - xs.length = m + 1 := ⟨rs.length - xs.length - 1, by omega⟩
  rw [hm, show rs.length - (xs.length + (0 + 1)) = m by omega, List.replicate_succ]
  rfl
theorem CpR.put {w : World} {rs : List Rw} {k : Nat} {W y : World} (h : CpR w rs k W) (hk : k < rs.length) {g : Nat} (hb : Below W.heap.size W y) (hg : W.heap.size ≤ g) (hf : BlkF y g rs[k].fs) : CpR w rs (k + 1) (set3 y w.heap.size (k * 3) (rcOf (rs[k], g))) := by
  obtain ⟨xs, h1, h2, h3, h4, h5⟩ := h.ex
  have hl : xs.length = k := by have := congrArg List.length h1; simp at this; omega
  have hlt : w.heap.size < W.heap.size := Bxs.lt h2
  refine ⟨⟨xs ++ [(rs[k], g)], ?_, ?_, ?_, ?_, ?_⟩, set3_below (chainB h.bel hb) (Nat.le_refl _) _ _⟩
  · rw [List.map_append, h1, List.take_succ_eq_append_getElem hk]; rfl
  · rw [← cutR_set rs xs _ (by omega), hl]
    exact BlkR.set3 (Bxs.below h2 hb) k _
  · intro x hx
    rcases List.mem_append.1 hx with hx | hx
    · have hx2 := h4 x hx
      exact set3_other (Bxs.below (h3 x hx) hb) (by omega) _
    · rw [List.mem_singleton] at hx
      subst hx
      exact set3_other hf (by simp; omega) _
  · intro x hx
    rcases List.mem_append.1 hx with hx | hx
    · exact h4 x hx
    · rw [List.mem_singleton] at hx
      subst hx
      simp; omega
  · rw [List.pairwise_append]
    refine ⟨h5, List.pairwise_singleton _ _, fun a ha b hb' => ?_⟩
    rw [List.mem_singleton] at hb'
    subst hb'
    have := Bxs.lt (h3 a ha)
    simp; omega
theorem CpR.slot {w : World} {rs : List Rw} {k : Nat} {W : World} (h : CpR w rs k W) (hk : k < rs.length) : (∃ x1 x2 x3, W.cell? ⟨w.heap.size, k * 3, none⟩ = some x1 ∧ W.cell? ⟨w.heap.size, k * 3 + 1, none⟩ = some x2 ∧ W.cell? ⟨w.heap.size, k * 3 + 2, none⟩ = some x3) ∧ W.frozen? ⟨w.heap.size, k * 3, none⟩ = false ∧ W.frozen? ⟨w.heap.size, k * 3 + 1, none⟩ = false ∧ W.frozen? ⟨w.heap.size, k * 3 + 2, none⟩ = false := by
  obtain ⟨xs, h1, h2, -⟩ := h.ex
  have hl : xs.length = k := by have := congrArg List.length h1; simp at this; omega
  obtain ⟨g1, g2⟩ := h2.cells k (by unfold cutR; simp; omega)
  exact ⟨⟨_, _, _, g1⟩, g2⟩
theorem CpR.below {w : World} {rs : List Rw} {k : Nat} {W y : World} (h : CpR w rs k W) (hb : Below W.heap.size W y) : CpR w rs k y := by
  obtain ⟨xs, h1, h2, h3, h4, h5⟩ := h.ex
  exact ⟨⟨xs, h1, Bxs.below h2 hb, fun x hx => (h3 x hx).below hb, h4, h5⟩, chainB h.bel hb⟩
set_option maxHeartbeats 4000000 in
theorem toRowS_any (p : Option Addr) (cap : Nat) (rs : List Rw) (w : World) (hp : RwAt w p rs) (hn : rs.length ≤ 1048576) (hcap : rs.length ≤ cap) (hf : ∀ x ∈ rs, x.fs.length ≤ 1048576) :
    Calls Tryz.prog 29 #[.slice p rs.length cap] w fun e w' => e = .returned (.slice (some ⟨w.heap.size, 0, none⟩) rs.length rs.length) ∧ (∃ xs : List (Rw × Nat), xs.map (·.1) = rs ∧ RwsB w' w.heap.size xs) ∧ Below w.heap.size w w' := by
  have HP : Hid (RwAt w p rs) := hp
  have HF : Hid (∀ x ∈ rs, x.fs.length ≤ 1048576) := hf
  clear hp hf
  obtain ⟨W1, hW1⟩ : ∃ W1, W1 = w.alloc (.cells (rcRow (List.replicate rs.length rcE)).toArray 64) := ⟨_, rfl⟩
  have hmk := run_make_rc rs.length hn w
  rw [← hW1] at hmk
  have H0 : Hid (CpR w rs 0 W1) := by
    refine ⟨⟨[], by simp, ?_, by simp, by simp, List.Pairwise.nil⟩, ?_⟩
    · rw [hW1]; unfold cutR; simp only [List.map_nil, List.nil_append, List.length_nil, Nat.sub_zero]; exact alloc_rc _ _
    · rw [hW1]; exact (Below.refl _ _).alloc (Nat.le_refl _) _
  clear hW1
  go_enter Tryz.func29, Tryz.ntmps29
  go_wp2_with fail
  go_loopw [4] (fun i wr => ∃ k : Nat, k ≤ rs.length ∧ i = .int .i64 k ∧ Hid (CpR w rs k wr)) (fun i _ => rs.length - (intOf i).toNat)
  case atStart => exact ⟨0, Nat.zero_le _, rfl, H0⟩
  case round =>
    clear H0 hmk
    obtain ⟨k, hk, rfl, HC⟩ := hrel
    by_cases hlt : k < rs.length
    · have i1 : (k : Int) < rs.length := by omega
      obtain ⟨b, off, rq, rc, rfl, hb0, c0, c1, c2, c3, c4⟩ := (HP.out.below HC.out.bel) k hlt
      have hT := toRow_any rs[k].k rs[k].a rq rc rs[k].fs wr c4 (HF.out _ (List.getElem_mem hlt)) c3
      have HS : Hid (∀ y g, Below wr.heap.size wr y → wr.heap.size ≤ g → BlkF y g rs[k].fs → CpR w rs (k + 1) (((y.setCell ⟨w.heap.size, k * 3, none⟩ (.string rs[k].k)).setCell ⟨w.heap.size, k * 3 + 1, none⟩ (.int .i64 rs[k].a)).setCell ⟨w.heap.size, k * 3 + 2, none⟩ (.slice (some ⟨g, 0, none⟩) rs[k].fs.length rs[k].fs.length))) := fun y g hb hg hf => HC.out.put hlt hb hg hf
      have HL : Hid (∀ y, Below wr.heap.size wr y → _) := fun y hb => (HC.out.below hb).slot hlt
      clear hb0 c3 c4 HC
      generalize rs[k].k = rk at *
      generalize rs[k].a = ra at *
      generalize rs[k].fs = fs at *
      go_wp2_with fail
      refine hT.mono ?_
      rintro e y ⟨g, hg, rfl, hBf, by_⟩
      obtain ⟨⟨x1, x2, x3, s1, s2, s3⟩, f1, f2, f3⟩ := HL.out y by_
      have HE : Hid (CpR w rs (k + 1) (((y.setCell ⟨w.heap.size, k * 3, none⟩ (.string rk)).setCell ⟨w.heap.size, k * 3 + 1, none⟩ (.int .i64 ra)).setCell ⟨w.heap.size, k * 3 + 2, none⟩ (.slice (some ⟨g, 0, none⟩) fs.length fs.length))) := HS.out y g by_ hg hBf
      clear HS HL hT by_ hg hBf c0 c1 c2
      go_wp2_with fail
      go_roundw
      case rel => exact ⟨k + 1, by omega, by go_num, HE⟩
      case measure => simp [intOf]; omega
    · have hkk : k = rs.length := by omega
      subst hkk
      have HR : Hid (∃ xs : List (Rw × Nat), xs.map (·.1) = rs ∧ RwsB wr w.heap.size xs) := by
        obtain ⟨xs, h1, h2, h3, h4, h5⟩ := HC.out.ex
        rw [List.take_length] at h1
        have hl : xs.length = rs.length := by rw [← h1]; simp
        refine ⟨xs, h1, ?_, h3, h4, h5⟩
        unfold cutR at h2
        rwa [hl, Nat.sub_self, List.replicate_zero, List.append_nil] at h2
      go_wp2_with fail
      go_ret
      exact ⟨rfl, HR.out, HC.out.bel⟩
end Go.Proofs.YthkmeneepkaedaaGreatDoor
