/-
  What the program's readShown and ShownRead answer.
  Conditions: the two tables of the digest lie as laid.
-/
import Derived.Test.YtnomkcbcjaagmabGreatDoorRows
import Derived.Test.YtnomkcbcjaagmabGreatDoorBytesDigMath
import Derived.Test.YtnomkcbcjaagmabGreatDoorSlASlBOwnS
import Derived.Test.YtnomkcbcjaagmabGreatDoorAppSImplFT
import Derived.Test.YtnomkcbcjaagmabGreatDoorFldHStepAppTakesLOwnBTurn2
import Derived.Test.YtnomkcbcjaagmabGreatDoorBxKGrKTakesSrc
import Derived.Test.YtnomkcbcjaagmabGreatDoorFldRiseFldGShwK
import Derived.Test.YtnomkcbcjaagmabGreatDoorJoinedPutTextFldMath
import Derived.Test.YtnomkcbcjaagmabGreatDoorSpecGTTillTwoFldRd
import Derived.Test.YtnomkcbcjaagmabGreatDoorFldV
import Derived.Test.YtnomkcbcjaagmabGreatDoorFldB
import Derived.Test.YtnomkcbcjaagmabGreatDoorFldP
import Derived.Test.YtnomkcbcjaagmabGreatDoorNumMathNumFromFldK
import Derived.Test.YtnomkcbcjaagmabGreatDoorFldQScopes
import Derived.Test.YtnomkcbcjaagmabGreatDoorImplFC
import Derived.Test.YtnomkcbcjaagmabGreatDoorImplOn
import Derived.Test.YtnomkcbcjaagmabGreatDoorImplSh
import Derived.Test.YtnomkcbcjaagmabGreatDoorRdNumIRdTextIImplBr
import Derived.Handy
import Derived.WalkSpells
import Derived.OwnWalk
import Derived.Deep.AppendLies
import Derived.Deep.RegionHeld3
import Derived.Deep.Cut
import Derived.Deep.CutRange
namespace Go.Proofs.YtnomkcbcjaagmabGreatDoor
open Go.RowKit Go.Lib
set_option linter.unusedVariables false
set_option maxRecDepth 20000

def set7 (w : World) (g : Nat) (x0 x1 x2 x3 x4 x5 x6 : Value) : World := ((((((w.setCell ⟨g, 0, none⟩ x0).setCell ⟨g, 1, none⟩ x1).setCell ⟨g, 2, none⟩ x2).setCell ⟨g, 3, none⟩ x3).setCell ⟨g, 4, none⟩ x4).setCell ⟨g, 5, none⟩ x5).setCell ⟨g, 6, none⟩ x6
theorem below_set7 {B : Nat} {a w : World} (h : Below B a w) {g : Nat} (hg : B ≤ g) (x0 x1 x2 x3 x4 x5 x6 : Value) : Below B a (set7 w g x0 x1 x2 x3 x4 x5 x6) := ((((((h.setCell hg _).setCell hg _).setCell hg _).setCell hg _).setCell hg _).setCell hg _).setCell hg _
theorem own_set7 {w : World} {base g : Nat} {e : TypeId} {s : Nat} {v : Value} {n : Nat} {xs : List Value} (h : w.ownsRow base e s v n xs) (hg : g < base) (x0 x1 x2 x3 x4 x5 x6 : Value) : (set7 w g x0 x1 x2 x3 x4 x5 x6).ownsRow base e s v n xs :=
  ownsRow_setCell_below (ownsRow_setCell_below (ownsRow_setCell_below (ownsRow_setCell_below (ownsRow_setCell_below (ownsRow_setCell_below (ownsRow_setCell_below h hg _) hg _) hg _) hg _) hg _) hg _) hg _
/-- The box of what is shown, its two rows, and the reader's box. -/
structure PrS (W : World) (P Z : Nat) (t : ByteArray) (a : Int) (bd : Bool) (cs : Array Value) (v1 v2 : Value) (A B : List ByteArray) (x : World) : Prop where
  two : Two W Z 48 cs v1 v2 A B x
  rd : Rdr x P t a bd
  hP : W.heap.size ≤ P
  ne : P ≠ Z
section
variable {W : World} {P Z : Nat} {t : ByteArray} {a : Int} {bd : Bool} {cs : Array Value} {v1 v2 : Value} {A B : List ByteArray} {x y : World}
theorem PrS.below (h : PrS W P Z t a bd cs v1 v2 A B x) (hb : Below x.heap.size x y) : PrS W P Z t a bd cs v1 v2 A B y := ⟨h.two.below hb, h.rd.below hb, h.hP, h.ne⟩
theorem PrS.swap (h : PrS W P Z t a bd cs v1 v2 A B x) : PrS W P Z t a bd cs v2 v1 B A x := ⟨h.two.swap, h.rd, h.hP, h.ne⟩
theorem PrS.put (h : PrS W P Z t a bd cs v1 v2 A B x) (j : Nat) (u : Value) : PrS W P Z t a bd (cs.setIfInBounds j u) v1 v2 A B (x.setCell ⟨Z, j, none⟩ u) := ⟨h.two.put j u, h.rd.other _ _ (Ne.symm h.ne) _, h.hP, h.ne⟩
theorem PrS.call {a' : Int} {bd' : Bool} (h : PrS W P Z t a bd cs v1 v2 A B x) (hr : Rdr y P t a' bd') (hg : x.grownBy y (some P)) : PrS W P Z t a' bd' cs v1 v2 A B y := by
  obtain ⟨a0, ev, hb, -, -⟩ := h.rd
  have n1 := ownR_ne h.two.own1 hb (by decide)
  have n2 := ownR_ne h.two.own2 hb (by decide)
  refine ⟨⟨h.two.bel.grown hg h.two.bel.size (fun j hj => by cases hj; exact h.hP), h.two.hZ, h.two.hT, h.two.box.grown hg (fun e => h.ne (by cases e; rfl)), ownR_grown h.two.own1 hg (fun g h1 h2 => n1 (by rw [h1, h2])), ownR_grown h.two.own2 hg (fun g h1 h2 => n2 (by rw [h1, h2])), h.two.ap⟩, hr, h.hP, h.ne⟩
theorem PrS.app (h : PrS W P Z t a bd cs v1 v2 A B x) (j : Nat) (s : ByteArray) (hj : cs[j]? = some v1) (hl : A.length + 1 ≤ 1048576) :
    ∃ g c y, (Builtin.append_ #[23, 23] 23 #[v1, .slice (some ⟨x.heap.size, 0, none⟩) 1 1]).run Tryz.prog (x.alloc (.cells #[.string s] 9)) = .ok (.slice (some ⟨g, 0, none⟩) (A.length + 1) c) y ∧
      PrS W P Z t a bd (cs.setIfInBounds j (.slice (some ⟨g, 0, none⟩) (A.length + 1) c)) (.slice (some ⟨g, 0, none⟩) (A.length + 1) c) v2 (A ++ [s]) B (y.setCell ⟨Z, j, none⟩ (.slice (some ⟨g, 0, none⟩) (A.length + 1) c)) ∧ y.cell? ⟨Z, j, none⟩ = some v1 ∧ y.frozen? ⟨Z, j, none⟩ = false := by
  obtain ⟨g, c, y, h1, h2, h3, h4, -, h6⟩ := h.two.app2 j s hj hl
  obtain ⟨a0, ev, hb, q1, q2⟩ := h.rd
  exact ⟨g, c, y, h1, ⟨h2, ⟨a0, ev, (h6 P _ _ (by decide) h.ne hb).2, q1, q2⟩, h.hP, h.ne⟩, h3, h4⟩
end
/-- What readShown hands back. -/
def RrP (w : World) (t : ByteArray) (e : Ending) (w' : World) : Prop := ∃ v1 v2 ev, e = .returned (.tuple #[.agg #[.string (prP t).k, .int .i64 (prP t).at_, v1, v2, .int .i64 (prP t).ix, .string (prP t).s, .string (prP t).v], ev]) ∧ (srBd t (prL t) = false → ev = .nilIface) ∧ (srBd t (prL t) = true → ∃ c, ev = .iface 170 (.agg #[.int .i64 c])) ∧ ShwO w.heap.size (prP t) v1 v2 w' ∧ Below w.heap.size w w'
theorem RrP.drew {w : World} {t : ByteArray} {e : Ending} {w' : World} (h : RrP w t e w') : RrP w t e w'.drew := by
  obtain ⟨v1, v2, ev, h1, h2, h3, h4, h5⟩ := h
  exact ⟨v1, v2, ev, h1, h2, h3, h4, h5.drew⟩
theorem place_le {t : ByteArray} (ht : t.size ≤ 8000) : (∀ (a : Int) (bd : Bool), 0 ≤ a → a ≤ 8000 → 0 ≤ rnA t a bd ∧ rnA t a bd ≤ 8000) ∧ (∀ (a : Int) (bd : Bool), 0 ≤ a → a ≤ 8000 → 0 ≤ rtA t a bd ∧ rtA t a bd ≤ 8000) := ⟨fun a bd h0 h1 => rnA_le ht h0 h1, fun a bd h0 h1 => rtA_le ht h0 h1⟩
theorem rdIt_le {t : ByteArray} (ht : t.size ≤ 8000) : ∀ (k : Nat) (s : RdT), 0 ≤ s.a ∧ s.a ≤ 8000 → (0 ≤ (rdIt t k s).a ∧ (rdIt t k s).a ≤ 8000) ∧ (rdIt t k s).ns.length = s.ns.length + k ∧ (rdIt t k s).cs.length = s.cs.length + k
  | 0, s, h => ⟨h, rfl, rfl⟩
  | k + 1, s, h => by
    have h1 := (place_le ht).2 s.a s.bd h.1 h.2
    have h2 := (place_le ht).2 (rtA t s.a s.bd) (rtB t s.a s.bd) h1.1 h1.2
    obtain ⟨i1, i2, i3⟩ := rdIt_le ht k (rdStep t s) h2
    refine ⟨i1, ?_, ?_⟩
    · show (rdIt t k (rdStep t s)).ns.length = _; rw [i2]; show (s.ns ++ [_]).length + k = _; simp; omega
    · show (rdIt t k (rdStep t s)).cs.length = _; rw [i3]; show (s.cs ++ [_]).length + k = _; simp; omega
theorem rdIt_sz (t : ByteArray) : ∀ (k : Nat) (s : RdT), (∀ x ∈ s.ns, x.size ≤ t.size) → (∀ x ∈ s.cs, x.size ≤ t.size) → (∀ x ∈ (rdIt t k s).ns, x.size ≤ t.size) ∧ (∀ x ∈ (rdIt t k s).cs, x.size ≤ t.size)
  | 0, s, h1, h2 => ⟨h1, h2⟩
  | k + 1, s, h1, h2 => rdIt_sz t k (rdStep t s) (fun x hx => by
      rcases List.mem_append.1 hx with hx | hx
      · exact h1 x hx
      · simp at hx; rw [hx]; exact rtT_le t _ _) (fun x hx => by
      rcases List.mem_append.1 hx with hx | hx
      · exact h2 x hx
      · simp at hx; rw [hx]; exact rtT_le t _ _)
theorem pr0_le {t : ByteArray} (ht : t.size ≤ 8000) : 0 ≤ (pr0 t).a ∧ (pr0 t).a ≤ 8000 := by
  have h0 := (place_le ht).2 0 false (by omega) (by omega)
  have h1 := (place_le ht).1 _ (rtB t 0 false) h0.1 h0.2
  exact (place_le ht).1 _ (pb1 t) h1.1 h1.2
theorem prM_le (t : ByteArray) : (prM t).toNat ≤ 3 := by unfold prM; split <;> omega
set_option maxHeartbeats 8000000 in
theorem readShown_any (t : ByteArray) (w : World) (ht8 : t.size ≤ 8000) : Calls Tryz.prog 76 #[.string t] w fun e w' => RrP w t e w' := by
  obtain ⟨W1, hW1⟩ : ∃ W1, W1 = w.alloc (.cells #[.string ⟨#[]⟩, .int .i64 0, .slice none 0 0, .slice none 0 0, .int .i64 0, .string ⟨#[]⟩, .string ⟨#[]⟩] 48) := ⟨_, rfl⟩
  obtain ⟨W2, hW2⟩ : ∃ W2, W2 = W1.alloc (.cells #[.string t, .int .i64 0, .nilIface] 163) := ⟨_, rfl⟩
  obtain ⟨W3, hW3⟩ : ∃ W3, W3 = W2.alloc (.cells #[.string ⟨#[]⟩, .int .i64 0, .slice none 0 0, .slice none 0 0, .int .i64 0, .string ⟨#[]⟩, .string ⟨#[]⟩] 48) := ⟨_, rfl⟩
  have HW3 : Hid (W3 = ((w.alloc (.cells #[.string ⟨#[]⟩, .int .i64 0, .slice none 0 0, .slice none 0 0, .int .i64 0, .string ⟨#[]⟩, .string ⟨#[]⟩] 48)).alloc (.cells #[.string t, .int .i64 0, .nilIface] 163)).alloc (.cells #[.string ⟨#[]⟩, .int .i64 0, .slice none 0 0, .slice none 0 0, .int .i64 0, .string ⟨#[]⟩, .string ⟨#[]⟩] 48)) := by rw [hW3, hW2, hW1]; exact (rfl : _ = _)
  have HS1 : Hid (W1.heap.size = w.heap.size + 1) := by rw [hW1]; exact szA _ _
  have HS2 : Hid (W2.heap.size = w.heap.size + 2) := by rw [hW2]; exact (szA _ _).trans (by rw [HS1.out])
  have B1 : Hid (Below w.heap.size w W1) := by rw [hW1]; exact (Below.refl _ _).alloc (Nat.le_refl _) _
  have K1 : Hid (Bxs W1 w.heap.size 48 #[.string ByteArray.empty, .int .i64 0, .slice none 0 0, .slice none 0 0, .int .i64 0, .string ByteArray.empty, .string ByteArray.empty]) := by rw [hW1]; exact Bxs.new _ _ _
  obtain ⟨P, hP⟩ : ∃ P, P = w.heap.size + 1 := ⟨_, rfl⟩
  obtain ⟨Z, hZ⟩ : ∃ Z, Z = w.heap.size + 2 := ⟨_, rfl⟩
  have S3 : Hid (PrS W1 P Z t 0 false #[.string ByteArray.empty, .int .i64 0, .slice none 0 0, .slice none 0 0, .int .i64 0, .string ByteArray.empty, .string ByteArray.empty] (.slice none 0 0) (.slice none 0 0) [] [] W3) := by
    have e1 : P = W1.heap.size := by rw [hP, HS1.out]
    have e2 : Z = W2.heap.size := by rw [hZ, HS2.out]
    have b2 : Below W1.heap.size W1 W2 := by rw [hW2]; exact (Below.refl _ _).alloc (Nat.le_refl _) _
    have k2 : Bxs W2 P 163 #[.string t, .int .i64 0, .nilIface] := by rw [hW2, e1]; exact Bxs.new _ _ _
    rw [hW3]
    refine ⟨⟨alB b2 _, by rw [e2]; exact b2.size, by decide, by rw [e2]; exact Bxs.new _ _ _, World.ownsRow_nil _ _ _ _, World.ownsRow_nil _ _ _ _, fun g hg => by cases hg⟩, ⟨0, .nilIface, k2.alloc _, fun _ => ⟨rfl, rfl⟩, fun h => by cases h⟩, by rw [e1]; exact Nat.le_refl _, by rw [hP, hZ]; omega⟩
  have HP : Hid (P = w.heap.size + 1) := hP
  have HZ : Hid (Z = w.heap.size + 2) := hZ
  have hl0 := (place_le ht8).2 0 false (by omega) (by omega)
  have hl1 := (place_le ht8).1 _ (rtB t 0 false) hl0.1 hl0.2
  have hl1 : 0 ≤ pa1 t ∧ pa1 t ≤ 8000 := hl1
  have hl2 := pr0_le ht8
  have HEnd : Hid (∀ (y : World) (v1 v2 ev : Value) (x0 x1 x2 x3 x4 x5 x6 : Value), PrS W1 P Z t (rtA t (rtA t (rnA t (prL t).a (prL t).bd) (rnB t (prL t).a (prL t).bd)) (rtB t (rnA t (prL t).a (prL t).bd) (rnB t (prL t).a (prL t).bd))) (srBd t (prL t)) #[.string (srK t), .int .i64 (srAt t), v1, v2, .int .i64 (srIx t (prL t)), .string (srS t (prL t)), .string (srV t (prL t))] v1 v2 (prL t).ns (prL t).cs y → y.cell? ⟨P, 2, none⟩ = some ev → RrP w t (.returned (.tuple #[.agg #[.string (srK t), .int .i64 (srAt t), v1, v2, .int .i64 (srIx t (prL t)), .string (srS t (prL t)), .string (srV t (prL t))], ev])) (set7 y w.heap.size x0 x1 x2 x3 x4 x5 x6)) := by
    intro y v1 v2 ev x0 x1 x2 x3 x4 x5 x6 hS hev
    obtain ⟨a0, ev0, hb, q1, q2⟩ := hS.rd
    have e0 : ev0 = ev := by
      have h := hb.cell 2
      rw [hev] at h
      exact (Option.some.inj h).symm
    rw [e0] at q1 q2
    have hs := HS1.out
    have hlt : w.heap.size < W1.heap.size := by omega
    exact ⟨v1, v2, ev, rfl, fun h => (q1 h).2, q2, ⟨ownS_mono (own_set7 hS.two.own1 hlt _ _ _ _ _ _ _) (by omega), ownS_mono (own_set7 hS.two.own2 hlt _ _ _ _ _ _ _) (by omega), hS.two.ap⟩, below_set7 (chainB B1.out hS.two.bel) (Nat.le_refl _) _ _ _ _ _ _ _⟩
  clear hW1 hW2 hW3 hP hZ
  go_enter Tryz.func76, Tryz.ntmps76
  go_upto_region 3 with fail
  rw [← HW3.out, ← HZ.out, ← HP.out]
  go_wp2_with fail
  refine (brText_any P t 0 false W3 S3.out.rd ht8 (by omega)).mono ?_
  rintro e y ⟨rfl, hr, hg⟩
  have hS := S3.out.call hr hg
  have z0 : y.cell? ⟨Z, 0, none⟩ = some (.string ByteArray.empty) := hS.two.box.cell 0
  have zf := hS.two.box.fr 0
  have S4 : Hid (PrS W1 P Z t (rtA t 0 false) (rtB t 0 false) #[.string (srK t), .int .i64 0, (.slice none 0 0), (.slice none 0 0), .int .i64 0, .string ByteArray.empty, .string ByteArray.empty] (.slice none 0 0) (.slice none 0 0) [] [] (y.setCell ⟨Z, 0, none⟩ (.string (srK t)))) := hS.put 0 _
  rw [show rtT t 0 false = srK t from rfl]
  clear hr hg hS S3 HW3
  generalize srK t = kk at *
  go_upto_region 4 with fail
  generalize y.setCell ⟨Z, 0, none⟩ (.string kk) = y4 at *
  clear z0 zf
  go_wp2_with fail
  refine (brNum_any P t (rtA t 0 false) (rtB t 0 false) y4 S4.out.rd ht8 (by omega)).mono ?_
  rintro e y' ⟨rfl, hr, hg⟩
  have hS := S4.out.call hr hg
  have z0 : y'.cell? ⟨Z, 1, none⟩ = some (.int .i64 0) := hS.two.box.cell 1
  have zf := hS.two.box.fr 1
  have S5 : Hid (PrS W1 P Z t (pa1 t) (pb1 t) #[.string kk, .int .i64 (srAt t), (.slice none 0 0), (.slice none 0 0), .int .i64 0, .string ByteArray.empty, .string ByteArray.empty] (.slice none 0 0) (.slice none 0 0) [] [] (y'.setCell ⟨Z, 1, none⟩ (.int .i64 (srAt t)))) := hS.put 1 _
  rw [show rnN t (rtA t 0 false) (rtB t 0 false) = srAt t from rfl]
  clear hr hg hS S4
  generalize srAt t = aa at *
  go_upto_region 5 with fail
  generalize y'.setCell ⟨Z, 1, none⟩ (.int .i64 aa) = y5 at *
  clear z0 zf
  have S5x : Hid (∀ y6, Rdr y6 P t (rnA t (pa1 t) (pb1 t)) (rnB t (pa1 t) (pb1 t)) → y5.grownBy y6 (some P) → PrS W1 P Z t (pr0 t).a (pr0 t).bd #[.string kk, .int .i64 aa, (.slice none 0 0), (.slice none 0 0), .int .i64 0, .string ByteArray.empty, .string ByteArray.empty] (.slice none 0 0) (.slice none 0 0) (pr0 t).ns (pr0 t).cs y6) := fun y6 hr hg => S5.out.call hr hg
  go_cut [13, 14] from 12 to 14 (fun s13 s14 wx => s13 = .int .i64 (prM t) ∧ s14 = .int .i64 0 ∧ Hid (PrS W1 P Z t (pr0 t).a (pr0 t).bd #[.string kk, .int .i64 aa, (.slice none 0 0), (.slice none 0 0), .int .i64 0, .string ByteArray.empty, .string ByteArray.empty] (.slice none 0 0) (.slice none 0 0) (pr0 t).ns (pr0 t).cs wx))
  case first =>
    have hB := brNum_any P t (pa1 t) (pb1 t) y5 S5.out.rd ht8 (by omega)
    rw [show rnN t (pa1 t) (pb1 t) = prN t from rfl] at hB
    by_cases h3 : prN t ≤ 3
    · have HMd : Hid (prM t = prN t) := by show _ = _; unfold prM; split <;> omega
      have d2 : decide (3 < prN t) = false := decide_eq_false (by omega)
      have d3 : decide (prN t ≤ 3) = true := decide_eq_true (by omega)
      go_wp2_with fail
      refine hB.mono ?_
      rintro e y6 ⟨rfl, hr, hg⟩
      have HE : Hid _ := S5x.out y6 hr hg
      clear hr hg hB S5x
      generalize prN t = nn at *
      go_wp2_with fail
      all_goals
        go_meet
        exact ⟨by rw [HMd.out], rfl, HE⟩
    · have HMd : Hid (prM t = 3) := by show _ = _; unfold prM; split <;> omega
      have d1 : decide (prN t < 3) = false := decide_eq_false (by omega)
      have d2 : decide (3 < prN t) = true := decide_eq_true (by omega)
      have d3 : decide (prN t ≤ 3) = false := decide_eq_false (by omega)
      go_wp2_with fail
      refine hB.mono ?_
      rintro e y6 ⟨rfl, hr, hg⟩
      have HE : Hid _ := S5x.out y6 hr hg
      clear hr hg hB S5x
      generalize prN t = nn at *
      go_wp2_with fail
      all_goals
        go_meet
        exact ⟨by rw [HMd.out], rfl, HE⟩
  case rest =>
  obtain ⟨rfl, rfl, S6⟩ := hcut
  clear S5 S5x
  have HM : Hid ((prM t).toNat ≤ 3) := prM_le t
  have HLe : Hid (∀ k, (0 ≤ (rdIt t k (pr0 t)).a ∧ (rdIt t k (pr0 t)).a ≤ 8000) ∧ (rdIt t k (pr0 t)).ns.length = k ∧ (rdIt t k (pr0 t)).cs.length = k) := fun k => by
    have h := rdIt_le ht8 k (pr0 t) hl2
    exact ⟨h.1, by rw [h.2.1]; show 0 + k = k; omega, by rw [h.2.2]; show 0 + k = k; omega⟩
  go_wp2_with fail
  go_loopw [14] (fun i wr => ∃ (k : Nat) (v1 v2 : Value), k ≤ (prM t).toNat ∧ i = .int .i64 k ∧ Hid (PrS W1 P Z t (rdIt t k (pr0 t)).a (rdIt t k (pr0 t)).bd #[.string kk, .int .i64 aa, v1, v2, .int .i64 0, .string ByteArray.empty, .string ByteArray.empty] v1 v2 (rdIt t k (pr0 t)).ns (rdIt t k (pr0 t)).cs wr)) (fun i _ => (prM t).toNat - (intOf i).toNat)
  case atStart => exact ⟨0, _, _, Nat.zero_le _, rfl, S6⟩
  case round =>
    clear S6
    obtain ⟨k, v1, v2, hk, rfl, hS⟩ := hrel
    obtain ⟨⟨ha0, ha8⟩, hln, hlc⟩ := HLe.out k
    by_cases hlt : k < (prM t).toNat
    · have dk : decide ((k : Int) < prM t) = true := decide_eq_true (by omega)
      have k3 : k < 3 := by have := HM.out; omega
      have HStep : Hid (rdIt t (k + 1) (pr0 t) = rdStep t (rdIt t k (pr0 t))) := rdIt_succ t k _
      obtain ⟨s, hs⟩ : ∃ s, s = (rdIt t k (pr0 t)) := ⟨_, rfl⟩
      rw [← hs] at hS ha0 ha8 hln hlc HStep
      clear hs
      obtain ⟨a, bd, A, B⟩ := s
      have ha0 : 0 ≤ a := ha0
      have ha8 : a ≤ 8000 := ha8
      have HLn : Hid (A.length = k ∧ B.length = k ∧ k < 3) := ⟨hln, hlc, k3⟩
      have hS : Hid (PrS W1 P Z t a bd #[.string kk, .int .i64 aa, v1, v2, .int .i64 0, .string ByteArray.empty, .string ByteArray.empty] v1 v2 A B wr) := hS
      have hla := (place_le ht8).2 a bd ha0 ha8
      have BR1 : Hid (Below wr.heap.size wr wr.drew) := (Below.refl _ _).drew
      have HC1 : Hid (Calls Tryz.prog 115 #[.pointer (some ⟨P, 0, none⟩)] wr.drew fun e w' => e = .returned (.string (rtT t a bd)) ∧ Rdr w' P t (rtA t a bd) (rtB t a bd) ∧ wr.drew.grownBy w' (some P)) := brText_any P t a bd wr.drew (hS.out.below BR1.out).rd ht8 (by omega)
      have HNx : Hid (rdStep t ⟨a, bd, A, B⟩ = ⟨rtA t (rtA t a bd) (rtB t a bd), rtB t (rtA t a bd) (rtB t a bd), A ++ [rtT t a bd], B ++ [rtT t (rtA t a bd) (rtB t a bd)]⟩) := rfl
      obtain ⟨s1, hs1⟩ : ∃ s1, s1 = rtT t a bd := ⟨_, rfl⟩
      obtain ⟨s2, hs2⟩ : ∃ s2, s2 = rtT t (rtA t a bd) (rtB t a bd) := ⟨_, rfl⟩
      rw [← hs1] at HC1 HNx
      rw [← hs2] at HNx
      have Hs2 : Hid (s2 = rtT t (rtA t a bd) (rtB t a bd)) := hs2
      clear hs1 hs2 hln hlc
      go_upto_region 7 with fail
      refine region_till (fun w' => w'.cell? ⟨Z, 2, none⟩ = some v1) 6 (by kernel_rfl) ((hS.out.below BR1.out).two.box.cell 2) (fun hHeld => ?_)
      refine till_take 0 (v := ?_) rfl (by kernel_rfl) (by kernel_rfl) (by kernel_rfl) (by kernel_rfl) (fun _ _ _ h => h) hHeld (Or.inl ⟨by rfl, ?_⟩) ?_
      rotate_left
      · (intro w hSw; (try dsimp only at hSw); go_simp; try with_reducible rfl)
      simp only [Act.put, List.setIfInBounds_toArray, List.set_cons_zero, List.set_cons_succ]
      refine till_take 1 (v := ?_) rfl (by kernel_rfl) (by kernel_rfl) (by kernel_rfl) (by kernel_rfl) (fun _ _ _ h => h) hHeld (Or.inl ⟨by rfl, ?_⟩) ?_
      rotate_left
      · (intro w hSw; (try dsimp only at hSw); go_simp; try with_reducible rfl)
      simp only [Act.put, List.setIfInBounds_toArray, List.set_cons_zero, List.set_cons_succ]
      refine till_ready 2 rfl (by kernel_rfl) (fun K hK => ?_)
      go_simp
      (go_at_call 115; with_reducible refine HC1.out.mono ?_; rintro e y1 ⟨rfl, hr, hg⟩)
      have T1 : Hid _ := (hS.out.below BR1.out).call hr hg
      clear hr hg
      refine hK.out _ _ (T1.out.two.box.cell 2) (fun hHeld => ?_)
      clear hK K
      try simp only [Act.put, List.setIfInBounds_toArray, List.set_cons_zero, List.set_cons_succ]
      refine till_ready 3 rfl (by kernel_rfl) (fun K hK => ?_)
      go_simp
      refine hK.out _ _ ((T1.out.two.box.alloc _).cell 2) (fun hHeld => ?_)
      clear hK K
      try simp only [Act.put, List.setIfInBounds_toArray, List.set_cons_zero, List.set_cons_succ]
      refine till_ready 4 rfl (by kernel_rfl) (fun K hK => ?_)
      obtain ⟨g1, cp1, q1, hrun, hT, c7, f7⟩ := T1.out.app 2 s1 rfl (by have := HLn.out; omega)
      refine step_append_run rfl _ _ 23 rfl v1 (.slice (some ⟨y1.heap.size, 0, none⟩) 1 1) _ _ rfl rfl hrun ?_
      refine hK.out _ _ (c7) (fun hHeld => ?_)
      clear hK K
      try simp only [Act.put, List.setIfInBounds_toArray, List.set_cons_zero, List.set_cons_succ]
      refine till_take 5 (v := ?_) rfl (by kernel_rfl) (by kernel_rfl) (by kernel_rfl) (by kernel_rfl) (fun _ _ _ h => h) hHeld (Or.inl ⟨by rfl, ?_⟩) ?_
      rotate_left
      · (intro w hSw; (try dsimp only at hSw); go_simp; try with_reducible rfl)
      simp only [Act.put, List.setIfInBounds_toArray, List.set_cons_zero, List.set_cons_succ]
      refine till_last rfl (by kernel_rfl) (by kernel_rfl) (fun K hK => ?_)
      go_simp
      refine hK.out _ _ ?_
      clear hK K
      have T1b : Hid (PrS W1 P Z t (rtA t a bd) (rtB t a bd) #[.string kk, .int .i64 aa, (.slice (some ⟨g1, 0, none⟩) (A.length + 1) cp1), v2, .int .i64 0, .string ByteArray.empty, .string ByteArray.empty] (.slice (some ⟨g1, 0, none⟩) (A.length + 1) cp1) v2 (A ++ [s1]) B (q1.setCell ⟨Z, 2, none⟩ (.slice (some ⟨g1, 0, none⟩) (A.length + 1) cp1))) := hT
      clear hT T1 hrun c7 f7 HC1 hHeld hS
      go_upto_region 8 with fail
      generalize q1.setCell ⟨Z, 2, none⟩ (.slice (some ⟨g1, 0, none⟩) (A.length + 1) cp1) = x1 at *
      have T1s : Hid (PrS W1 P Z t (rtA t a bd) (rtB t a bd) #[.string kk, .int .i64 aa, (.slice (some ⟨g1, 0, none⟩) (A.length + 1) cp1), v2, .int .i64 0, .string ByteArray.empty, .string ByteArray.empty] v2 (.slice (some ⟨g1, 0, none⟩) (A.length + 1) cp1) B (A ++ [s1]) x1) := T1b.out.swap
      have BR2 : Hid (Below x1.heap.size x1 x1.drew) := (Below.refl _ _).drew
      have HC2 : Hid (Calls Tryz.prog 115 #[.pointer (some ⟨P, 0, none⟩)] x1.drew fun e w' => e = .returned (.string s2) ∧ Rdr w' P t (rtA t (rtA t a bd) (rtB t a bd)) (rtB t (rtA t a bd) (rtB t a bd)) ∧ x1.drew.grownBy w' (some P)) := by rw [Hs2.out]; exact brText_any P t _ _ x1.drew (T1s.out.below BR2.out).rd ht8 (by omega)
      clear T1b
      refine region_till (fun w' => w'.cell? ⟨Z, 3, none⟩ = some v2) 6 (by kernel_rfl) ((T1s.out.below BR2.out).two.box.cell 3) (fun hHeld => ?_)
      refine till_take 0 (v := ?_) rfl (by kernel_rfl) (by kernel_rfl) (by kernel_rfl) (by kernel_rfl) (fun _ _ _ h => h) hHeld (Or.inl ⟨by rfl, ?_⟩) ?_
      rotate_left
      · (intro w hSw; (try dsimp only at hSw); go_simp; try with_reducible rfl)
      simp only [Act.put, List.setIfInBounds_toArray, List.set_cons_zero, List.set_cons_succ]
      refine till_take 1 (v := ?_) rfl (by kernel_rfl) (by kernel_rfl) (by kernel_rfl) (by kernel_rfl) (fun _ _ _ h => h) hHeld (Or.inl ⟨by rfl, ?_⟩) ?_
      rotate_left
      · (intro w hSw; (try dsimp only at hSw); go_simp; try with_reducible rfl)
      simp only [Act.put, List.setIfInBounds_toArray, List.set_cons_zero, List.set_cons_succ]
      refine till_ready 2 rfl (by kernel_rfl) (fun K hK => ?_)
      go_simp
      (go_at_call 115; with_reducible refine HC2.out.mono ?_; rintro e y2 ⟨rfl, hr, hg⟩)
      have T2 : Hid _ := (T1s.out.below BR2.out).call hr hg
      clear hr hg
      refine hK.out _ _ (T2.out.two.box.cell 3) (fun hHeld => ?_)
      clear hK K
      try simp only [Act.put, List.setIfInBounds_toArray, List.set_cons_zero, List.set_cons_succ]
      refine till_ready 3 rfl (by kernel_rfl) (fun K hK => ?_)
      go_simp
      refine hK.out _ _ ((T2.out.two.box.alloc _).cell 3) (fun hHeld => ?_)
      clear hK K
      try simp only [Act.put, List.setIfInBounds_toArray, List.set_cons_zero, List.set_cons_succ]
      refine till_ready 4 rfl (by kernel_rfl) (fun K hK => ?_)
      obtain ⟨g2, cp2, q2, hrun, hT, c7, f7⟩ := T2.out.app 3 s2 rfl (by have := HLn.out; omega)
      refine step_append_run rfl _ _ 23 rfl v2 (.slice (some ⟨y2.heap.size, 0, none⟩) 1 1) _ _ rfl rfl hrun ?_
      refine hK.out _ _ (c7) (fun hHeld => ?_)
      clear hK K
      try simp only [Act.put, List.setIfInBounds_toArray, List.set_cons_zero, List.set_cons_succ]
      refine till_take 5 (v := ?_) rfl (by kernel_rfl) (by kernel_rfl) (by kernel_rfl) (by kernel_rfl) (fun _ _ _ h => h) hHeld (Or.inl ⟨by rfl, ?_⟩) ?_
      rotate_left
      · (intro w hSw; (try dsimp only at hSw); go_simp; try with_reducible rfl)
      simp only [Act.put, List.setIfInBounds_toArray, List.set_cons_zero, List.set_cons_succ]
      refine till_last rfl (by kernel_rfl) (by kernel_rfl) (fun K hK => ?_)
      go_simp
      refine hK.out _ _ ?_
      clear hK K
      have T9 : Hid (PrS W1 P Z t (rdIt t (k + 1) (pr0 t)).a (rdIt t (k + 1) (pr0 t)).bd #[.string kk, .int .i64 aa, (.slice (some ⟨g1, 0, none⟩) (A.length + 1) cp1), (.slice (some ⟨g2, 0, none⟩) (B.length + 1) cp2), .int .i64 0, .string ByteArray.empty, .string ByteArray.empty] (.slice (some ⟨g1, 0, none⟩) (A.length + 1) cp1) (.slice (some ⟨g2, 0, none⟩) (B.length + 1) cp2) (rdIt t (k + 1) (pr0 t)).ns (rdIt t (k + 1) (pr0 t)).cs (q2.setCell ⟨Z, 3, none⟩ (.slice (some ⟨g2, 0, none⟩) (B.length + 1) cp2))) := by
        show PrS _ _ _ _ _ _ _ _ _ _ _ _
        rw [HStep.out, HNx.out]; exact hT.swap
      clear hT T2 hrun c7 f7 HC2 hHeld T1s
      go_wp2_with fail
      go_roundw
      case rel => exact ⟨k + 1, _, _, by omega, by go_num, T9⟩
      case measure => simp [intOf]; omega
    · have dk : decide ((k : Int) < prM t) = false := decide_eq_false (by omega)
      obtain rfl : k = (prM t).toNat := by omega
      have hS : Hid (PrS W1 P Z t (prL t).a (prL t).bd #[.string kk, .int .i64 aa, v1, v2, .int .i64 0, .string ByteArray.empty, .string ByteArray.empty] v1 v2 (prL t).ns (prL t).cs wr) := hS
      have ha0 : 0 ≤ (prL t).a := ha0
      have ha8 : (prL t).a ≤ 8000 := ha8
      have hlb := (place_le ht8).1 (prL t).a (prL t).bd ha0 ha8
      have hlc2 := (place_le ht8).2 (rnA t (prL t).a (prL t).bd) (rnB t (prL t).a (prL t).bd) hlb.1 hlb.2
      obtain ⟨p1, k1, rfl, -, -⟩ := ownS_form hS.out.two.own1
      obtain ⟨p2, k2, rfl, -, -⟩ := ownS_form hS.out.two.own2
      clear hln hlc HLe HM hlt hk
      have HIx : Hid (rnN t (prL t).a (prL t).bd = srIx t (prL t)) := rfl
      have HSs : Hid (rtT t (rnA t (prL t).a (prL t).bd) (rnB t (prL t).a (prL t).bd) = srS t (prL t)) := rfl
      have HVv : Hid (rtT t (rtA t (rnA t (prL t).a (prL t).bd) (rnB t (prL t).a (prL t).bd)) (rtB t (rnA t (prL t).a (prL t).bd) (rnB t (prL t).a (prL t).bd)) = srV t (prL t)) := rfl
      go_wp2_with fail
      refine (brNum_any P t (prL t).a (prL t).bd wr hS.out.rd ht8 (by omega)).mono ?_
      rintro e y ⟨rfl, hr, hg⟩
      rw [HIx.out]
      have hT := hS.out.call hr hg
      have z0 : y.cell? ⟨Z, 4, none⟩ = some (.int .i64 0) := hT.two.box.cell 4
      have zf := hT.two.box.fr 4
      generalize srIx t (prL t) = ii at *
      have S10 : Hid (PrS W1 P Z t (rnA t (prL t).a (prL t).bd) (rnB t (prL t).a (prL t).bd) #[.string kk, .int .i64 aa, (.slice p1 (prL t).ns.length k1), (.slice p2 (prL t).cs.length k2), .int .i64 ii, .string ByteArray.empty, .string ByteArray.empty] (.slice p1 (prL t).ns.length k1) (.slice p2 (prL t).cs.length k2) (prL t).ns (prL t).cs (y.setCell ⟨Z, 4, none⟩ (.int .i64 ii))) := hT.put 4 _
      clear hr hg hT hS HIx
      go_upto_region 11 with fail
      generalize y.setCell ⟨Z, 4, none⟩ (.int .i64 ii) = ya at *
      clear z0 zf
      go_wp2_with fail
      refine (brText_any P t (rnA t (prL t).a (prL t).bd) (rnB t (prL t).a (prL t).bd) ya S10.out.rd ht8 (by omega)).mono ?_
      rintro e y' ⟨rfl, hr, hg⟩
      rw [HSs.out]
      have hT := S10.out.call hr hg
      have z0 : y'.cell? ⟨Z, 5, none⟩ = some (.string ByteArray.empty) := hT.two.box.cell 5
      have zf := hT.two.box.fr 5
      generalize srS t (prL t) = ss at *
      have S11 : Hid (PrS W1 P Z t (rtA t (rnA t (prL t).a (prL t).bd) (rnB t (prL t).a (prL t).bd)) (rtB t (rnA t (prL t).a (prL t).bd) (rnB t (prL t).a (prL t).bd)) #[.string kk, .int .i64 aa, (.slice p1 (prL t).ns.length k1), (.slice p2 (prL t).cs.length k2), .int .i64 ii, .string ss, .string ByteArray.empty] (.slice p1 (prL t).ns.length k1) (.slice p2 (prL t).cs.length k2) (prL t).ns (prL t).cs (y'.setCell ⟨Z, 5, none⟩ (.string ss))) := hT.put 5 _
      clear hr hg hT S10 HSs
      go_upto_region 12 with fail
      generalize y'.setCell ⟨Z, 5, none⟩ (.string ss) = yb at *
      clear z0 zf
      go_wp2_with fail
      refine (brText_any P t (rtA t (rnA t (prL t).a (prL t).bd) (rnB t (prL t).a (prL t).bd)) (rtB t (rnA t (prL t).a (prL t).bd) (rnB t (prL t).a (prL t).bd)) yb S11.out.rd ht8 (by omega)).mono ?_
      rintro e yq ⟨rfl, hr, hg⟩
      rw [HVv.out]
      have hT := S11.out.call hr hg
      have z0 : yq.cell? ⟨Z, 6, none⟩ = some (.string ByteArray.empty) := hT.two.box.cell 6
      have zf := hT.two.box.fr 6
      generalize srV t (prL t) = vv at *
      have S12 : Hid (PrS W1 P Z t (rtA t (rtA t (rnA t (prL t).a (prL t).bd) (rnB t (prL t).a (prL t).bd)) (rtB t (rnA t (prL t).a (prL t).bd) (rnB t (prL t).a (prL t).bd))) (srBd t (prL t)) #[.string kk, .int .i64 aa, (.slice p1 (prL t).ns.length k1), (.slice p2 (prL t).cs.length k2), .int .i64 ii, .string ss, .string vv] (.slice p1 (prL t).ns.length k1) (.slice p2 (prL t).cs.length k2) (prL t).ns (prL t).cs (yq.setCell ⟨Z, 6, none⟩ (.string vv))) := hT.put 6 _
      clear hr hg hT S11 HVv
      go_upto_region 13 with fail
      generalize yq.setCell ⟨Z, 6, none⟩ (.string vv) = yz at *
      clear z0 zf
      obtain ⟨a0, ev, hbx, -, -⟩ := S12.out.rd
      have hev : yz.cell? ⟨P, 2, none⟩ = some ev := hbx.cell 2
      have HE : Hid _ := fun x0 x1 x2 x3 x4 x5 x6 => HEnd.out yz _ _ ev x0 x1 x2 x3 x4 x5 x6 S12.out hev
      obtain ⟨q0, q1, q2, q3, q4, q5, q6⟩ : yz.cell? ⟨Z, 0, none⟩ = some (.string kk) ∧ yz.cell? ⟨Z, 1, none⟩ = some (.int .i64 aa) ∧ yz.cell? ⟨Z, 2, none⟩ = some (.slice p1 (prL t).ns.length k1) ∧ yz.cell? ⟨Z, 3, none⟩ = some (.slice p2 (prL t).cs.length k2) ∧ yz.cell? ⟨Z, 4, none⟩ = some (.int .i64 ii) ∧ yz.cell? ⟨Z, 5, none⟩ = some (.string ss) ∧ yz.cell? ⟨Z, 6, none⟩ = some (.string vv) := ⟨S12.out.two.box.cell 0, S12.out.two.box.cell 1, S12.out.two.box.cell 2, S12.out.two.box.cell 3, S12.out.two.box.cell 4, S12.out.two.box.cell 5, S12.out.two.box.cell 6⟩
      have KR := K1.out.below S12.out.two.bel
      obtain ⟨r0, r1, r2, r3, r4, r5, r6⟩ : yz.cell? ⟨w.heap.size, 0, none⟩ = some (.string ByteArray.empty) ∧ yz.cell? ⟨w.heap.size, 1, none⟩ = some (.int .i64 0) ∧ yz.cell? ⟨w.heap.size, 2, none⟩ = some (.slice none 0 0) ∧ yz.cell? ⟨w.heap.size, 3, none⟩ = some (.slice none 0 0) ∧ yz.cell? ⟨w.heap.size, 4, none⟩ = some (.int .i64 0) ∧ yz.cell? ⟨w.heap.size, 5, none⟩ = some (.string ByteArray.empty) ∧ yz.cell? ⟨w.heap.size, 6, none⟩ = some (.string ByteArray.empty) := ⟨KR.cell 0, KR.cell 1, KR.cell 2, KR.cell 3, KR.cell 4, KR.cell 5, KR.cell 6⟩
      have f0 := KR.fr 0
      have f1 := KR.fr 1
      have f2 := KR.fr 2
      have f3 := KR.fr 3
      have f4 := KR.fr 4
      have f5 := KR.fr 5
      have f6 := KR.fr 6
      have hZw : Z ≠ w.heap.size := by have := HZ.out; omega
      have hPw : P ≠ w.heap.size := by have := HP.out; omega
      have KR2 : Hid (Bxs yz w.heap.size 48 #[.string ByteArray.empty, .int .i64 0, .slice none 0 0, .slice none 0 0, .int .i64 0, .string ByteArray.empty, .string ByteArray.empty]) := KR
      clear S12 hbx KR HEnd
      generalize (prL t).ns.length = l1 at *
      generalize (prL t).cs.length = l2 at *
      go_region
      obtain ⟨Y, hY⟩ : ∃ Y, Y = set7 yz w.heap.size (.string kk) (.int .i64 aa) (.slice p1 l1 k1) (.slice p2 l2 k2) (.int .i64 ii) (.string ss) (.string vv) := ⟨_, rfl⟩
      have HE2 := (HE.out (.string kk) (.int .i64 aa) (.slice p1 l1 k1) (.slice p2 l2 k2) (.int .i64 ii) (.string ss) (.string vv)).drew
      rw [← hY] at HE2
      have HYK : Bxs Y w.heap.size 48 #[.string kk, .int .i64 aa, (.slice p1 l1 k1), (.slice p2 l2 k2), .int .i64 ii, .string ss, .string vv] := by rw [hY]; exact ((((((KR2.out.set 0 _).set 1 _).set 2 _).set 3 _).set 4 _).set 5 _).set 6 _
      unfold set7 at hY
      rw [← hY]
      have w0 : Y.cell? ⟨w.heap.size, 0, none⟩ = some (.string kk) := HYK.cell 0
      have w1 : Y.cell? ⟨w.heap.size, 1, none⟩ = some (.int .i64 aa) := HYK.cell 1
      have w2 : Y.cell? ⟨w.heap.size, 2, none⟩ = some (.slice p1 l1 k1) := HYK.cell 2
      have w3 : Y.cell? ⟨w.heap.size, 3, none⟩ = some (.slice p2 l2 k2) := HYK.cell 3
      have w4 : Y.cell? ⟨w.heap.size, 4, none⟩ = some (.int .i64 ii) := HYK.cell 4
      have w5 : Y.cell? ⟨w.heap.size, 5, none⟩ = some (.string ss) := HYK.cell 5
      have w6 : Y.cell? ⟨w.heap.size, 6, none⟩ = some (.string vv) := HYK.cell 6
      clear hY HYK HE KR2 q0 q1 q2 q3 q4 q5 q6 r0 r1 r2 r3 r4 r5 r6 f0 f1 f2 f3 f4 f5 f6
      go_wp2_with fail
      refine bodyPost_ret (v := .tuple #[.agg #[.string kk, .int .i64 aa, (.slice p1 l1 k1), (.slice p2 l2 k2), .int .i64 ii, .string ss, .string vv], ev]) (by simp [results, Tryz.results76, go_sem, w0, w1, w2, w3, w4, w5, w6]) rfl ?_
      exact HE2
theorem prP_le {t : ByteArray} (ht : t.size ≤ 8000) : ShwLe (prP t) ∧ (prP t).ns.length ≤ 3 ∧ (prP t).cs.length ≤ 3 := by
  have hm : ∀ x : ByteArray, x.size ≤ t.size → x.size ≤ maxLen := fun x hx => by unfold maxLen; omega
  have h1 := rdIt_sz t (prM t).toNat (pr0 t) (fun x hx => by cases hx) (fun x hx => by cases hx)
  have h2 := rdIt_le ht (prM t).toNat (pr0 t) (pr0_le ht)
  have h3 := prM_le t
  refine ⟨⟨hm _ (rtT_le t _ _), fun x hx => hm x (h1.1 x hx), fun x hx => hm x (h1.2 x hx), hm _ (rtT_le t _ _), hm _ (rtT_le t _ _)⟩, ?_, ?_⟩
  · show (prL t).ns.length ≤ 3
    have : (prL t).ns.length = 0 + (prM t).toNat := h2.2.1
    omega
  · show (prL t).cs.length ≤ 3
    have : (prL t).cs.length = 0 + (prM t).toNat := h2.2.2
    omega
set_option maxHeartbeats 8000000 in
theorem implShownRead_pr (t : ByteArray) (w : World) (hT : Tabs w) (ht : t.size ≤ maxLen) :
    Calls Tryz.prog 27 #[.string t] w fun e w' => ∃ v1 v2, e = .returned (.agg #[.string (prO t).k, .int .i64 (prO t).at_, v1, v2, .int .i64 (prO t).ix, .string (prO t).s, .string (prO t).v, .int .i64 (prC t)]) ∧ ShwO w.heap.size (prO t) v1 v2 w' ∧ Below w.heap.size w w' := by
  obtain ⟨W1, hW1⟩ : ∃ W1, W1 = w.alloc (.cells #[.string ⟨#[]⟩, .int .i64 0, .slice none 0 0, .slice none 0 0, .int .i64 0, .string ⟨#[]⟩, .string ⟨#[]⟩, .int .i64 0] 50) := ⟨_, rfl⟩
  have HW1 : Hid (W1 = w.alloc (.cells #[.string ⟨#[]⟩, .int .i64 0, .slice none 0 0, .slice none 0 0, .int .i64 0, .string ⟨#[]⟩, .string ⟨#[]⟩, .int .i64 0] 50)) := hW1
  have HS1 : Hid (W1.heap.size = w.heap.size + 1) := by rw [hW1]; exact szA _ _
  have K1 : Hid (Bxs W1 w.heap.size 50 #[.string ByteArray.empty, .int .i64 0, .slice none 0 0, .slice none 0 0, .int .i64 0, .string ByteArray.empty, .string ByteArray.empty, .int .i64 0]) := by rw [hW1]; exact Bxs.new _ _ _
  have B1 : Hid (Below w.heap.size w W1) := by rw [hW1]; exact (Below.refl _ _).alloc (Nat.le_refl _) _
  have HTb : Hid (Tabs W1) := hT.to B1.out
  have HEr : Hid (∀ (y : World) (c : Int) (x0 x1 x2 x3 x4 x5 x6 x7 : Value), Below W1.heap.size W1 y → prC t = c → c ≠ 0 → ∃ v1 v2, Ending.returned (.agg #[.string ByteArray.empty, .int .i64 0, .slice none 0 0, .slice none 0 0, .int .i64 0, .string ByteArray.empty, .string ByteArray.empty, .int .i64 c]) = .returned (.agg #[.string (prO t).k, .int .i64 (prO t).at_, v1, v2, .int .i64 (prO t).ix, .string (prO t).s, .string (prO t).v, .int .i64 (prC t)]) ∧ ShwO w.heap.size (prO t) v1 v2 (set8 y w.heap.size x0 x1 x2 x3 x4 x5 x6 x7) ∧ Below w.heap.size w (set8 y w.heap.size x0 x1 x2 x3 x4 x5 x6 x7)) := by
    intro y c x0 x1 x2 x3 x4 x5 x6 x7 hb hc hn
    have hn' : ¬ prC t = 0 := by rw [hc]; exact hn
    rw [show prO t = shwZ from if_neg hn', hc]
    exact ⟨_, _, rfl, ShwO.nil _ _, below_set8 (chainB B1.out hb) (Nat.le_refl _) _ _ _ _ _ _ _ _⟩
  clear hW1 hT
  unfold maxLen at ht
  by_cases h8 : 8000 < t.size
  · have hC : Hid (prC t = 2) := if_pos h8
    have d8 : decide (8000 < (t.size : Int)) = true := decide_eq_true (by omega)
    have HE := fun x0 x1 x2 x3 x4 x5 x6 x7 => HEr.out W1 2 x0 x1 x2 x3 x4 x5 x6 x7 (Below.refl _ _) hC.out (by omega)
    rw [HW1.out] at HE
    have HE : Hid _ := HE
    clear HEr h8
    go_enter Tryz.func27, Tryz.ntmps27
    go_upto_region 2 with fail
    rw [← HW1.out] at HE ⊢
    obtain ⟨r0, r1, r2, r3, r4, r5, r6, r7⟩ := K1.out.eight
    obtain ⟨f0, f1, f2, f3, f4, f5, f6, f7⟩ := K1.out.free8
    go_wp2_with fail
    refine bodyPost_ret (v := .agg #[.string ByteArray.empty, .int .i64 0, .slice none 0 0, .slice none 0 0, .int .i64 0, .string ByteArray.empty, .string ByteArray.empty, .int .i64 2]) (by simp [results, Tryz.results27, go_sem, r0, r1, r2, r3, r4, r5, r6, r7] <;> rfl) rfl ?_
    exact HE.out _ _ _ _ _ _ _ _
  have d8 : decide (8000 < (t.size : Int)) = false := decide_eq_false (by omega)
  have ht8 : t.size ≤ 8000 := by omega
  have hR := readShown_any t W1 ht8
  obtain ⟨hLe, hn3, hc3⟩ := prP_le ht8
  cases hbd : srBd t (prL t) with
  | true =>
    have hC : Hid (prC t = 3) := by show _ = _; unfold prC; rw [if_neg h8, if_pos (Or.inl hbd)]
    go_enter Tryz.func27, Tryz.ntmps27
    go_wp2_with fail
    rw [← HW1.out]
    refine hR.mono ?_
    rintro e y ⟨v1, v2, ev, rfl, -, hev, hO, hb⟩
    obtain ⟨cc, rfl⟩ := hev hbd
    obtain ⟨p1, k1, rfl, -, -⟩ := ownS_form hO.1
    obtain ⟨p2, k2, rfl, -, -⟩ := ownS_form hO.2.1
    clear hbd h8 hev hO hR hLe
    go_upto_region 4 with fail
    obtain ⟨y2, hy2⟩ : ∃ y2, y2 = y.alloc (.cells #[.string (prP t).k, .int .i64 (prP t).at_, .slice p1 (prP t).ns.length k1, .slice p2 (prP t).cs.length k2, .int .i64 (prP t).ix, .string (prP t).s, .string (prP t).v] 48) := ⟨_, rfl⟩
    rw [← hy2]
    have b2 : Below W1.heap.size W1 y2 := by rw [hy2]; exact alB hb _
    clear hy2 hb
    have HE := fun x0 x1 x2 x3 x4 x5 x6 x7 => HEr.out y2 3 x0 x1 x2 x3 x4 x5 x6 x7 b2 hC.out (by omega)
    obtain ⟨r0, r1, r2, r3, r4, r5, r6, r7⟩ := (K1.out.below b2).eight
    obtain ⟨f0, f1, f2, f3, f4, f5, f6, f7⟩ := (K1.out.below b2).free8
    clear HEr K1
    go_wp2_with fail
    refine bodyPost_ret (v := .agg #[.string ByteArray.empty, .int .i64 0, .slice none 0 0, .slice none 0 0, .int .i64 0, .string ByteArray.empty, .string ByteArray.empty, .int .i64 3]) (by simp [results, Tryz.results27, go_sem, r0, r1, r2, r3, r4, r5, r6, r7] <;> rfl) rfl ?_
    exact HE _ _ _ _ _ _ _ _
  | false =>
  have HSB : Hid (∀ (p1 : Option Addr) (k1 : Nat) (p2 : Option Addr) (k2 : Nat) (x : World), Below W1.heap.size W1 x → TxtAt x p1 (prP t).ns → TxtAt x p2 (prP t).cs → (prP t).ns.length ≤ k1 → (prP t).cs.length ≤ k2 → Calls Tryz.prog 25 #[.agg #[.string (prP t).k, .int .i64 (prP t).at_, .slice p1 (prP t).ns.length k1, .slice p2 (prP t).cs.length k2, .int .i64 (prP t).ix, .string (prP t).s, .string (prP t).v]] x fun e w' => e = .returned (.string (sbB (prP t))) ∧ Below x.heap.size x w') := fun p1 k1 p2 k2 x hx t1 t2 m1 m2 => implShownBytes_any (prP t) p1 k1 p2 k2 x (HTb.out.to hx) t1 t2 (by omega) (by omega) m1 m2 hLe
  cases heq : ((sbB (prP t)).toList == t.toList) with
  | false =>
    have hC : Hid (prC t = 3) := by show _ = _; unfold prC; rw [if_neg h8, if_pos (Or.inr heq)]
    have heqn : ((sbB (prP t)).toList != t.toList) = true := by unfold bne; rw [heq]; rfl
    generalize sbB (prP t) = SB at *
    go_enter Tryz.func27, Tryz.ntmps27
    go_wp2_with fail
    rw [← HW1.out]
    refine hR.mono ?_
    rintro e y ⟨v1, v2, ev, rfl, hev, -, hO, hb⟩
    obtain rfl := hev hbd
    obtain ⟨p1, k1, rfl, m1, x1⟩ := ownS_form hO.1
    obtain ⟨p2, k2, rfl, m2, x2⟩ := ownS_form hO.2.1
    clear hbd h8 hev hO hR hLe
    go_upto_region 4 with fail
    obtain ⟨y2, hy2⟩ : ∃ y2, y2 = y.alloc (.cells #[.string (prP t).k, .int .i64 (prP t).at_, .slice p1 (prP t).ns.length k1, .slice p2 (prP t).cs.length k2, .int .i64 (prP t).ix, .string (prP t).s, .string (prP t).v] 48) := ⟨_, rfl⟩
    rw [← hy2]
    have b1 : Below y.heap.size y y2 := by rw [hy2]; exact (Below.refl _ _).alloc (Nat.le_refl _) _
    have b2 : Below W1.heap.size W1 y2 := chainB hb b1
    have KS : Bxs y2 y.heap.size 48 #[.string (prP t).k, .int .i64 (prP t).at_, .slice p1 (prP t).ns.length k1, .slice p2 (prP t).cs.length k2, .int .i64 (prP t).ix, .string (prP t).s, .string (prP t).v] := by rw [hy2]; exact Bxs.new _ _ _
    have hSB := HSB.out p1 k1 p2 k2 y2 b2 (x1.below b1) (x2.below b1) m1 m2
    obtain ⟨u0, u1, u2, u3, u4, u5, u6⟩ : y2.cell? ⟨y.heap.size, 0, none⟩ = some (.string (prP t).k) ∧ y2.cell? ⟨y.heap.size, 1, none⟩ = some (.int .i64 (prP t).at_) ∧ y2.cell? ⟨y.heap.size, 2, none⟩ = some (.slice p1 (prP t).ns.length k1) ∧ y2.cell? ⟨y.heap.size, 3, none⟩ = some (.slice p2 (prP t).cs.length k2) ∧ y2.cell? ⟨y.heap.size, 4, none⟩ = some (.int .i64 (prP t).ix) ∧ y2.cell? ⟨y.heap.size, 5, none⟩ = some (.string (prP t).s) ∧ y2.cell? ⟨y.heap.size, 6, none⟩ = some (.string (prP t).v) := ⟨KS.cell 0, KS.cell 1, KS.cell 2, KS.cell 3, KS.cell 4, KS.cell 5, KS.cell 6⟩
    clear hy2 hb KS HSB x1 x2
    go_wp2_with fail
    refine hSB.mono ?_
    rintro e y3 ⟨rfl, b3⟩
    have b3 := chainB b2 b3
    clear u0 u1 u2 u3 u4 u5 u6 hSB b2 b1
    have HE := fun x0 x1 x2 x3 x4 x5 x6 x7 => HEr.out y3 3 x0 x1 x2 x3 x4 x5 x6 x7 b3 hC.out (by omega)
    obtain ⟨r0, r1, r2, r3, r4, r5, r6, r7⟩ := (K1.out.below b3).eight
    obtain ⟨f0, f1, f2, f3, f4, f5, f6, f7⟩ := (K1.out.below b3).free8
    clear HEr K1
    go_wp2_with fail
    refine bodyPost_ret (v := .agg #[.string ByteArray.empty, .int .i64 0, .slice none 0 0, .slice none 0 0, .int .i64 0, .string ByteArray.empty, .string ByteArray.empty, .int .i64 3]) (by simp [results, Tryz.results27, go_sem, r0, r1, r2, r3, r4, r5, r6, r7] <;> rfl) rfl ?_
    exact HE _ _ _ _ _ _ _ _
  | true =>
    have hC : Hid (prC t = 0) := by show _ = _; unfold prC; rw [if_neg h8, if_neg (by rw [hbd, heq]; exact fun h => by rcases h with h | h <;> cases h)]
    have HO : Hid (prO t = prP t) := if_pos hC.out
    have heqn : ((sbB (prP t)).toList != t.toList) = false := by unfold bne; rw [heq]; rfl
    generalize sbB (prP t) = SB at *
    go_enter Tryz.func27, Tryz.ntmps27
    go_wp2_with fail
    rw [← HW1.out]
    refine hR.mono ?_
    rintro e y ⟨v1, v2, ev, rfl, hev, -, hO, hb⟩
    obtain rfl := hev hbd
    obtain ⟨p1, k1, rfl, m1, x1⟩ := ownS_form hO.1
    obtain ⟨p2, k2, rfl, m2, x2⟩ := ownS_form hO.2.1
    have HbY : Hid (W1.heap.size ≤ y.heap.size) := hb.size
    have HOw : Hid (ShwO W1.heap.size (prP t) (.slice p1 (prP t).ns.length k1) (.slice p2 (prP t).cs.length k2) y) := hO
    clear hbd h8 hev hO hR hLe
    go_upto_region 4 with fail
    obtain ⟨y2, hy2⟩ : ∃ y2, y2 = y.alloc (.cells #[.string (prP t).k, .int .i64 (prP t).at_, .slice p1 (prP t).ns.length k1, .slice p2 (prP t).cs.length k2, .int .i64 (prP t).ix, .string (prP t).s, .string (prP t).v] 48) := ⟨_, rfl⟩
    rw [← hy2]
    have b1 : Below y.heap.size y y2 := by rw [hy2]; exact (Below.refl _ _).alloc (Nat.le_refl _) _
    have b2 : Below W1.heap.size W1 y2 := chainB hb b1
    have KS : Hid (Bxs y2 y.heap.size 48 #[.string (prP t).k, .int .i64 (prP t).at_, .slice p1 (prP t).ns.length k1, .slice p2 (prP t).cs.length k2, .int .i64 (prP t).ix, .string (prP t).s, .string (prP t).v]) := by rw [hy2]; exact Bxs.new _ _ _
    have hSB := HSB.out p1 k1 p2 k2 y2 b2 (x1.below b1) (x2.below b1) m1 m2
    have HC : Hid (∀ x, Below y2.heap.size y2 x → x.cell? ⟨y.heap.size, 0, none⟩ = some (.string (prP t).k) ∧ x.cell? ⟨y.heap.size, 1, none⟩ = some (.int .i64 (prP t).at_) ∧ x.cell? ⟨y.heap.size, 2, none⟩ = some (.slice p1 (prP t).ns.length k1) ∧ x.cell? ⟨y.heap.size, 3, none⟩ = some (.slice p2 (prP t).cs.length k2) ∧ x.cell? ⟨y.heap.size, 4, none⟩ = some (.int .i64 (prP t).ix) ∧ x.cell? ⟨y.heap.size, 5, none⟩ = some (.string (prP t).s) ∧ x.cell? ⟨y.heap.size, 6, none⟩ = some (.string (prP t).v)) := fun x hx => ⟨(KS.out.below hx).cell 0, (KS.out.below hx).cell 1, (KS.out.below hx).cell 2, (KS.out.below hx).cell 3, (KS.out.below hx).cell 4, (KS.out.below hx).cell 5, (KS.out.below hx).cell 6⟩
    obtain ⟨u0, u1, u2, u3, u4, u5, u6⟩ := HC.out y2 (Below.refl _ _)
    clear hy2 hb HSB x1 x2
    go_wp2_with fail
    refine hSB.mono ?_
    rintro e y3 ⟨rfl, b3⟩
    clear u0 u1 u2 u3 u4 u5 u6 hSB
    obtain ⟨u0, u1, u2, u3, u4, u5, u6⟩ := HC.out y3 b3
    have b4 := chainB b2 b3
    have HD : Hid (∀ x0 x1 x2 x3 x4 x5 x6 x7 : Value, ShwO w.heap.size (prP t) (.slice p1 (prP t).ns.length k1) (.slice p2 (prP t).cs.length k2) (set8 y3 w.heap.size x0 x1 x2 x3 x4 x5 x6 x7) ∧ Below w.heap.size w (set8 y3 w.heap.size x0 x1 x2 x3 x4 x5 x6 x7)) := by
      intro x0 x1 x2 x3 x4 x5 x6 x7
      have hs1 := HS1.out
      obtain ⟨w1, w2, w3⟩ := HOw.out
      exact ⟨⟨ownS_mono (own_set8 (ownS_below (ownS_below w1 b1) b3) (by omega) _ _ _ _ _ _ _ _) (by omega), ownS_mono (own_set8 (ownS_below (ownS_below w2 b1) b3) (by omega) _ _ _ _ _ _ _ _) (by omega), w3⟩, below_set8 (chainB B1.out b4) (Nat.le_refl _) _ _ _ _ _ _ _ _⟩
    obtain ⟨r0, r1, r2, r3, r4, r5, r6, r7⟩ := (K1.out.below b4).eight
    obtain ⟨f0, f1, f2, f3, f4, f5, f6, f7⟩ := (K1.out.below b4).free8
    have hyw : y.heap.size ≠ w.heap.size := by have := HS1.out; have := HbY.out; omega
    clear HEr K1 HC KS HOw b1 b2 b3 b4
    generalize (prP t).ns.length = l1 at *
    generalize (prP t).cs.length = l2 at *
    go_wp2_with fail
    refine bodyPost_ret (v := .agg #[.string (prP t).k, .int .i64 (prP t).at_, .slice p1 l1 k1, .slice p2 l2 k2, .int .i64 (prP t).ix, .string (prP t).s, .string (prP t).v, .int .i64 0]) (by simp [results, Tryz.results27, go_sem, r0, r1, r2, r3, r4, r5, r6, r7]) rfl ?_
    rw [HO.out, hC.out]
    exact ⟨_, _, rfl, HD.out _ _ _ _ _ _ _ _⟩
theorem implShownRead_any (t : ByteArray) (w : World) (hT : Tabs w) (ht : t.size ≤ maxLen) :
    Calls Tryz.prog 27 #[.string t] w fun e w' => ∃ v1 v2, e = .returned (.agg #[.string (srO t).k, .int .i64 (srO t).at_, v1, v2, .int .i64 (srO t).ix, .string (srO t).s, .string (srO t).v, .int .i64 (srC t)]) ∧ ShwO w.heap.size (srO t) v1 v2 w' ∧ Below w.heap.size w w' := by
  have h := implShownRead_pr t w hT ht
  rw [prO_sr, (pr_sr t).1] at h
  exact h
end Go.Proofs.YtnomkcbcjaagmabGreatDoor
