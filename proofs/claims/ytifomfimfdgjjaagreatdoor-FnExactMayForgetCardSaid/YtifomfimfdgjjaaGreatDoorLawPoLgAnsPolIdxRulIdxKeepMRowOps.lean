/-
  Parts of one proof, laid as one text: LawPo, LgAns, PolIdx, RulIdx, KeepM, RowOps; what each says stands at its head.
-/
import Derived.Test.YtifomfimfdgjjaaGreatDoorRows
import Derived.Test.YtifomfimfdgjjaaGreatDoorBytesDigMath
import Derived.Test.YtifomfimfdgjjaaGreatDoorSlASlBBxKTakesOwnS
import Derived.Test.YtifomfimfdgjjaaGreatDoorOpFOpLgBlNotRulMathIntKPolMath
import Derived.Test.YtifomfimfdgjjaaGreatDoorOpPAppSRulBlk
import Derived.Test.YtifomfimfdgjjaaGreatDoorLawRlLawILawOGLawIm
import Derived.Handy
import Derived.WalkSpells
import Derived.OwnWalk
import Derived.Test.YtifomfimfdgjjaaGreatDoorJoinedPutTextFldMathFldRiseScanMath
import Derived.Test.YtifomfimfdgjjaaGreatDoorGetValGetTxtNumMathFldRdNumFromTmbMath
import Derived.Test.YtifomfimfdgjjaaGreatDoorLgMathLgAtKShwK
import Derived.Test.YtifomfimfdgjjaaGreatDoorNameRight
import Derived.Test.YtifomfimfdgjjaaGreatDoorTimeBPutMathPutNum
import Derived.ArgAppend
import Derived.Laws.CopyRow
import Derived.Deep.AppendLies
import Derived.Lib.AppendZerosOnto
import Derived.Lib.Overlaps
/-
  What the laws' own helpers answer for policies: szPolicy, toPolicy, eqPolicy, eqPolicyOut (of two that are alike).
  Conditions: the slices' cells hold the rules and the numbers.
-/
namespace Go.Proofs.YtifomfimfdgjjaaGreatDoor
open Go.RowKit Go.Lib
set_option linter.unusedVariables false
set_option maxRecDepth 20000

theorem BlkU.setOther {w : World} {g : Nat} {l : List Rul} (h : BlkU w g l) (g' k : Nat) (hne : g' ≠ g) (v : Value) : BlkU (w.setCell ⟨g', k, none⟩ v) g l := Bxs.other h g' k hne v
theorem BlkI.setOther {w : World} {g : Nat} {ks : List Int} (h : BlkI w g ks) (g' k : Nat) (hne : g' ≠ g) (v : Value) : BlkI (w.setCell ⟨g', k, none⟩ v) g ks := Bxs.other h g' k hne v
set_option maxHeartbeats 1000000 in
theorem szPolicy_any (l0 : Int) (l00 : 0 ≤ l0) (l01 : l0 ≤ 1048576) (p1 p2 : Option Addr) (c1 c2 : Nat) (ss : List Rul) (ps : List Int) (w : World) (h1 : RulAt w p1 ss) (n1 : ss.length ≤ 9223372036854775807) (n2 : ps.length ≤ 9223372036854775807) (m1 : ss.length ≤ c1) (s1 : RulsBig ss) :
    Calls Tryz.prog 10 #[.agg #[.slice p1 ss.length c1, .slice p2 ps.length c2], .int .i64 l0] w fun e w' => (∃ r : Int, e = .returned (.int .i64 r) ∧ (r = -1 ∨ (0 ≤ r ∧ r ≤ l0 ∧ ss.length ≤ 1048576 ∧ ps.length ≤ 1048576))) ∧ Below w.heap.size w w' := by
  obtain ⟨W1, hW1⟩ : ∃ W1, W1 = w.alloc (.cells #[.slice p1 ss.length c1, .slice p2 ps.length c2] 29) := ⟨_, rfl⟩
  have HW1 : Hid (W1 = w.alloc (.cells #[.slice p1 ss.length c1, .slice p2 ps.length c2] 29)) := hW1
  have B1 : Hid (Below w.heap.size w W1) := by rw [hW1]; exact (Below.refl _ _).alloc (Nat.le_refl _) _
  have X1 : Hid (Bxs W1 w.heap.size 29 #[.slice p1 ss.length c1, .slice p2 ps.length c2]) := by rw [hW1]; exact Bxs.new _ _ _
  have H1 := szU_any l0 l00 l01 p1 c1 ss W1 (h1.below B1.out) n1 m1 s1
  clear hW1 h1 s1
  go_enter Tryz.func10, Tryz.ntmps10
  go_wp2_with fail
  rw [← HW1.out]
  refine H1.mono ?_
  rintro e w1 ⟨⟨r, rfl, hr⟩, b1⟩
  have t1 : w1.cell? ⟨w.heap.size, 1, none⟩ = some (.slice p2 ps.length c2) := (X1.out.below b1).cell 1
  have b1 := chainB B1.out b1
  rcases hr with rfl | ⟨r0, r1, r2⟩
  · go_wp2_with fail
    go_ret
    exact ⟨⟨_, rfl, .inl rfl⟩, b1⟩
  · have H3 := szI_any r r0 (by omega) p2 c2 ps w1 n2
    have dr : decide (r < 0) = false := decide_eq_false (by omega)
    go_wp2_with fail
    refine H3.mono ?_
    rintro e w2 ⟨⟨r', rfl, hr'⟩, rfl⟩
    rcases hr' with rfl | ⟨r4, r5, r6⟩
    · go_wp2_with fail
      go_ret
      exact ⟨⟨_, rfl, .inl rfl⟩, b1⟩
    · have dr : decide (r' < 0) = false := decide_eq_false (by omega)
      go_wp2_with fail
      go_ret
      exact ⟨⟨_, rfl, .inr ⟨r4, by omega, r2, r6⟩⟩, b1⟩

set_option maxHeartbeats 2000000 in
theorem toPolicy_any (p1 p2 : Option Addr) (c1 c2 : Nat) (ss : List Rul) (ps : List Int) (w : World) (h1 : RulAt w p1 ss) (h2 : IntAt w p2 ps) (n1 : ss.length ≤ 1048576) (n2 : ps.length ≤ 1048576) (m1 : ss.length ≤ c1) (m2 : ps.length ≤ c2) :
    Calls Tryz.prog 13 #[.agg #[.slice p1 ss.length c1, .slice p2 ps.length c2]] w fun e w' => ∃ g1 g2, w.heap.size ≤ g1 ∧ g1 < g2 ∧ e = .returned (.agg #[.slice (some ⟨g1, 0, none⟩) ss.length ss.length, .slice (some ⟨g2, 0, none⟩) ps.length ps.length]) ∧ BlkU w' g1 ss ∧ BlkI w' g2 ps ∧ Below w.heap.size w w' := by
  obtain ⟨W1, hW1⟩ : ∃ W1, W1 = w.alloc (.cells #[.slice p1 ss.length c1, .slice p2 ps.length c2] 29) := ⟨_, rfl⟩
  obtain ⟨W2, hW2⟩ : ∃ W2, W2 = W1.alloc (.cells #[.slice none 0 0, .slice none 0 0] 40) := ⟨_, rfl⟩
  obtain ⟨W3, hW3⟩ : ∃ W3, W3 = W2.alloc (.cells #[.slice none 0 0, .slice none 0 0] 40) := ⟨_, rfl⟩
  have z1 : W1.heap.size = w.heap.size + 1 := by rw [hW1]; simp
  have z2 : W2.heap.size = w.heap.size + 1 + 1 := by rw [hW2]; simp [z1]
  have z3 : W3.heap.size = w.heap.size + 3 := by rw [hW3]; simp [z2]
  have b1 : Below w.heap.size w W1 := by rw [hW1]; exact (Below.refl _ _).alloc (Nat.le_refl _) _
  have b2 : Below w.heap.size w W2 := by rw [hW2]; exact alB b1 _
  have B0 : Hid (Below w.heap.size w W3) := by rw [hW3]; exact alB b2 _
  have XA : Hid (Bxs W3 w.heap.size 29 #[.slice p1 ss.length c1, .slice p2 ps.length c2]) := by rw [hW3, hW2, hW1]; exact ((Bxs.new _ _ _).alloc _).alloc _
  have XR : Hid (Bxs W3 (w.heap.size + 1) 40 #[.slice none 0 0, .slice none 0 0]) := by rw [hW3]; refine Bxs.alloc ?_ _; rw [hW2, ← z1]; exact Bxs.new _ _ _
  have XO : Hid (Bxs W3 (w.heap.size + 1 + 1) 40 #[.slice none 0 0, .slice none 0 0]) := by rw [hW3, ← z2]; exact Bxs.new _ _ _
  have HW3 : Hid (W3 = ((w.alloc (.cells #[.slice p1 ss.length c1, .slice p2 ps.length c2] 29)).alloc (.cells #[.slice none 0 0, .slice none 0 0] 40)).alloc (.cells #[.slice none 0 0, .slice none 0 0] 40)) := by rw [hW3, hW2, hW1]; exact rfl
  have HC := toU_any p1 c1 ss W3 (h1.below B0.out) n1 m1
  have HT2 : Hid (IntAt w p2 ps) := h2
  have HZ3 : Hid (W3.heap.size = w.heap.size + 3) := z3
  clear hW1 hW2 hW3 z1 z2 z3 b1 b2 h1 h2
  go_enter Tryz.func13, Tryz.ntmps13
  go_wp2_with fail
  rw [← HW3.out]
  refine HC.mono ?_
  rintro e w4 ⟨rfl, hB4, b4⟩
  rw [HZ3.out] at hB4 ⊢
  have hz4 := b4.size
  have xo := XO.out.below b4
  have o0 : w4.cell? ⟨w.heap.size + 1 + 1, 0, none⟩ = some (.slice none 0 0) := xo.cell 0
  have fo := xo.fr 0
  obtain ⟨W5, hW5⟩ : ∃ W5, W5 = w4.setCell ⟨w.heap.size + 1 + 1, 0, none⟩ (.slice (some ⟨w.heap.size + 3, 0, none⟩) ss.length ss.length) := ⟨_, rfl⟩
  have HW5 : Hid (W5 = w4.setCell ⟨w.heap.size + 1 + 1, 0, none⟩ (.slice (some ⟨w.heap.size + 3, 0, none⟩) ss.length ss.length)) := hW5
  have z5 : W5.heap.size = w4.heap.size := by rw [hW5]; simp [World.setCell]
  have bb5 := (chainB B0.out b4).setCell (p := ⟨w.heap.size + 1 + 1, 0, none⟩) (by show w.heap.size ≤ w.heap.size + 1 + 1; omega) (.slice (some ⟨w.heap.size + 3, 0, none⟩) ss.length ss.length)
  rw [← hW5] at bb5
  have HB5 : Hid (Below w.heap.size w W5) := bb5
  have XA5 : Hid (Bxs W5 w.heap.size 29 #[.slice p1 ss.length c1, .slice p2 ps.length c2]) := by rw [hW5]; exact (XA.out.below b4).other _ _ (by omega) _
  have XR5 : Hid (Bxs W5 (w.heap.size + 1) 40 #[.slice none 0 0, .slice none 0 0]) := by rw [hW5]; exact (XR.out.below b4).other _ _ (by omega) _
  have XO5 : Hid (Bxs W5 (w.heap.size + 1 + 1) 40 #[.slice (some ⟨w.heap.size + 3, 0, none⟩) ss.length ss.length, .slice none 0 0]) := by rw [hW5]; exact xo.set 0 _
  have HK5 : Hid (BlkU W5 (w.heap.size + 3) ss) := by rw [hW5]; exact hB4.setOther _ _ (by omega) _
  have HC2 := toI_any p2 c2 ps W5 (HT2.out.below HB5.out) n2 m2
  rw [z5] at HC2
  have a1 : W5.cell? ⟨w.heap.size, 1, none⟩ = some (.slice p2 ps.length c2) := XA5.out.cell 1
  rw [hW5] at a1
  have hlt : w.heap.size + 3 < w4.heap.size := Bxs.lt hB4
  clear hW5 bb5 hB4 b4 xo XA XR XO HT2 HC
  go_wp2_with fail
  rw [← HW5.out]
  refine HC2.mono ?_
  rintro e w6 ⟨rfl, hB6, b6⟩
  have b6 : Below W5.heap.size W5 w6 := by rw [z5]; exact b6
  have xo := XO5.out.below b6
  have xr := XR5.out.below b6
  have g0 : w6.cell? ⟨w.heap.size + 1 + 1, 0, none⟩ = some (.slice (some ⟨w.heap.size + 3, 0, none⟩) ss.length ss.length) := xo.cell 0
  have g1 : w6.cell? ⟨w.heap.size + 1 + 1, 1, none⟩ = some (.slice none 0 0) := xo.cell 1
  have fg := xo.fr 1
  have r0 : w6.cell? ⟨w.heap.size + 1, 0, none⟩ = some (.slice none 0 0) := xr.cell 0
  have r1 : w6.cell? ⟨w.heap.size + 1, 1, none⟩ = some (.slice none 0 0) := xr.cell 1
  have e0 := xr.fr 0
  have e1 := xr.fr 1
  have HEnd : Hid (∀ v0 v1 v2 : Value, BlkU (((w6.setCell ⟨w.heap.size + 1 + 1, 1, none⟩ v0).setCell ⟨w.heap.size + 1, 0, none⟩ v1).setCell ⟨w.heap.size + 1, 1, none⟩ v2) (w.heap.size + 3) ss ∧ BlkI (((w6.setCell ⟨w.heap.size + 1 + 1, 1, none⟩ v0).setCell ⟨w.heap.size + 1, 0, none⟩ v1).setCell ⟨w.heap.size + 1, 1, none⟩ v2) w4.heap.size ps ∧ Below w.heap.size w (((w6.setCell ⟨w.heap.size + 1 + 1, 1, none⟩ v0).setCell ⟨w.heap.size + 1, 0, none⟩ v1).setCell ⟨w.heap.size + 1, 1, none⟩ v2)) := by
    intro v0 v1 v2
    have k1 := HK5.out.below b6
    have hb := chainB HB5.out b6
    exact ⟨((k1.setOther _ _ (by omega) _).setOther _ _ (by omega) _).setOther _ _ (by omega) _, ((hB6.setOther _ _ (by omega) _).setOther _ _ (by omega) _).setOther _ _ (by omega) _, ((hb.setCell (by show w.heap.size ≤ w.heap.size + 1 + 1; omega) _).setCell (by show w.heap.size ≤ w.heap.size + 1; omega) _).setCell (by show w.heap.size ≤ w.heap.size + 1; omega) _⟩
  clear hB6 b6 xo xr z5 HC2 XA5 XR5 XO5 HK5 HB5 HW5 a1 o0 fo
  go_wp2_with fail
  refine bodyPost_ret (v := .agg #[.slice (some ⟨w.heap.size + 3, 0, none⟩) ss.length ss.length, .slice (some ⟨w4.heap.size, 0, none⟩) ps.length ps.length]) (by simp [results, Tryz.results13, go_sem, r0, r1]) rfl ?_
  exact ⟨w.heap.size + 3, w4.heap.size, by omega, hlt, rfl, HEnd.out _ _ _⟩

set_option maxHeartbeats 1000000 in
theorem eqPolicy_any (p1 p2 q1 q2 : Option Addr) (c1 c2 d1 d2 : Nat) (ss : List Rul) (ps : List Int) (w : World) (h1 : RulAt w p1 ss) (h2 : IntAt w p2 ps) (g1 : RulAt w q1 ss) (g2 : IntAt w q2 ps) (n1 : ss.length ≤ 1048576) (n2 : ps.length ≤ 1048576) (m1 : ss.length ≤ c1) (m2 : ps.length ≤ c2) (m3 : ss.length ≤ d1) (m4 : ps.length ≤ d2) :
    Calls Tryz.prog 17 #[.agg #[.slice p1 ss.length c1, .slice p2 ps.length c2], .agg #[.slice q1 ss.length d1, .slice q2 ps.length d2]] w fun e w' => e = .returned (.bool true) ∧ Below w.heap.size w w' := by
  obtain ⟨W0, hW0⟩ : ∃ W0, W0 = w.alloc (.cells #[.slice p1 ss.length c1, .slice p2 ps.length c2] 40) := ⟨_, rfl⟩
  have hz : W0.heap.size = w.heap.size + 1 := by rw [hW0]; simp
  obtain ⟨W1, hW1⟩ : ∃ W1, W1 = W0.alloc (.cells #[.slice q1 ss.length d1, .slice q2 ps.length d2] 40) := ⟨_, rfl⟩
  have HW1 : Hid (W1 = (w.alloc (.cells #[.slice p1 ss.length c1, .slice p2 ps.length c2] 40)).alloc (.cells #[.slice q1 ss.length d1, .slice q2 ps.length d2] 40)) := by rw [hW1, hW0]; exact rfl
  have hB0 : Below w.heap.size w W0 := by rw [hW0]; exact (Below.refl _ _).alloc (Nat.le_refl _) _
  have B1 : Hid (Below w.heap.size w W1) := by rw [hW1]; exact alB hB0 _
  have X1 : Hid (Bxs W1 w.heap.size 40 #[.slice p1 ss.length c1, .slice p2 ps.length c2]) := by rw [hW1]; refine Bxs.alloc ?_ _; rw [hW0]; exact Bxs.new _ _ _
  have X2 : Hid (Bxs W1 (w.heap.size + 1) 40 #[.slice q1 ss.length d1, .slice q2 ps.length d2]) := by rw [hW1, ← hz]; exact Bxs.new _ _ _
  have hE := eqU_any p1 q1 c1 d1 ss W1 (h1.below B1.out) (g1.below B1.out) n1 m1 m3
  have T2 : Hid (IntAt W1 p2 ps ∧ IntAt W1 q2 ps) := ⟨h2.below B1.out, g2.below B1.out⟩
  clear hW1 hW0 h1 h2 g1 g2 hB0 hz
  go_enter Tryz.func17, Tryz.ntmps17
  go_wp2_with fail
  rw [← HW1.out]
  refine hE.mono ?_
  rintro e w1 ⟨rfl, b1⟩
  have x1 : w1.cell? ⟨w.heap.size, 1, none⟩ = some (.slice p2 ps.length c2) := (X1.out.below b1).cell 1
  have x2 : w1.cell? ⟨w.heap.size + 1, 1, none⟩ = some (.slice q2 ps.length d2) := (X2.out.below b1).cell 1
  have hF := eqI_any p2 q2 c2 d2 ps w1 (T2.out.1.below b1) (T2.out.2.below b1) n2 m2 m4
  have b1 := chainB B1.out b1
  clear hE T2
  go_wp2_with fail
  refine hF.mono ?_
  rintro e w2 ⟨rfl, b2⟩
  have b2 := chainB b1 b2
  clear hF x1 x2
  go_wp2_with fail
  go_ret
  exact ⟨rfl, b2⟩

end Go.Proofs.YtifomfimfdgjjaaGreatDoor
/-
  What is told of a log, in plain mathematics: the place of a row's leaf, the code and the status of a field.
-/
namespace Go.Proofs.YtifomfimfdgjjaaGreatDoor
open Go.RowKit Go.Lib
set_option linter.unusedVariables false

def plFrom (row : Int) : Nat → Nat → List ByteArray → Int
  | _, _, [] => -1
  | n, i, t :: ts => if isRl t = true then (if (n : Int) = row then (i : Int) else plFrom row (n + 1) (i + 1) ts) else plFrom row n (i + 1) ts
def plB (lv : List ByteArray) (row : Int) : Int := plFrom row 0 0 lv
def plO (rs : List Rw) (lv : List ByteArray) (now r : Int) : Int := if lgB rs lv now = true then plB lv r else -1
def tbO (rs : List Rw) (lv : List ByteArray) (now r f : Int) : Int := if lgB rs lv now = true then tbAt lv r f else -1
/-- The code of a field: it is there, it is gone, there is none. -/
def fcO (rs : List Rw) (r f : Int) : Int := if 0 ≤ r ∧ r ≤ (rs.length : Int) - 1 then (if 0 ≤ f ∧ f ≤ ((rs.getD r.toNat rwZ).fs.length : Int) - 1 then (if (fldOf rs r f).g = true then 7 else 0) else 6) else 6
def gcO (rs : List Rw) (lv : List ByteArray) (now r f : Int) : Int := if lgB rs lv now = true then fcO rs r f else 1
def stC (c : Int) : Int := if c = 0 then 1 else if c = 7 then 2 else 0
def stO (rs : List Rw) (lv : List ByteArray) (now r f : Int) : Int := if lgB rs lv now = true then stC (fcO rs r f) else 0
theorem stO_gc (rs : List Rw) (lv : List ByteArray) (now r f : Int) : stO rs lv now r f = stC (gcO rs lv now r f) := by
  unfold stO gcO
  split
  · rfl
  · rfl
theorem fcO_cases (rs : List Rw) (r f : Int) : fcO rs r f = 0 ∨ fcO rs r f = 7 ∨ fcO rs r f = 6 := by
  unfold fcO
  split
  · split
    · split
      · exact .inr (.inl rfl)
      · exact .inl rfl
    · exact .inr (.inr rfl)
  · exact .inr (.inr rfl)
theorem lg_right {rs : List Rw} {lv : List ByteArray} {now : Int} (h : lgB rs lv now = true) : rs.length ≤ 6 ∧ lv.length ≤ 64 ∧ (∀ r ∈ rs, rB r = true) := by
  unfold lgB at h
  simp only [Bool.and_eq_true, decide_eq_true_iff] at h
  refine ⟨h.1, h.2.1, fun r hr => ?_⟩
  have h2 := h.2.2.2.1
  unfold rsB at h2
  rw [List.all_eq_true] at h2
  exact (Bool.and_eq_true_iff.1 (h2 r hr)).1
end Go.Proofs.YtifomfimfdgjjaaGreatDoor
/-
  Where in a list that is in order something stands, or would stand.
-/
namespace Go.Proofs.YtifomfimfdgjjaaGreatDoor
open Go.RowKit Go.Lib
set_option linter.unusedVariables false

/-- How many at a list's head are such. -/
def twI {α : Type} (p : α → Bool) (l : List α) : Nat := (l.takeWhile p).length
theorem tw_le {α : Type} (p : α → Bool) (l : List α) : twI p l ≤ l.length := (List.takeWhile_prefix p).length_le
theorem tw_lt {α : Type} (p : α → Bool) : ∀ (l : List α) (j : Nat) (h : j < twI p l), p (l[j]'(Nat.lt_of_lt_of_le h (tw_le p l))) = true
  | [], j, h => by simp [twI] at h
  | a :: l, j, h => by
    unfold twI at h
    cases ha : p a with
    | false => rw [List.takeWhile_cons, ha] at h; simp at h
    | true =>
      match j with
      | 0 => exact ha
      | j + 1 =>
        rw [List.takeWhile_cons, ha] at h
        exact tw_lt p l j (by simpa [twI] using h)
theorem tw_at {α : Type} (p : α → Bool) : ∀ (l : List α) (h : twI p l < l.length), p l[twI p l] = false
  | [], h => by simp at h
  | a :: l, h => by
    cases ha : p a with
    | false =>
      have e : twI p (a :: l) = 0 := by unfold twI; rw [List.takeWhile_cons, ha]; rfl
      simp only [e, List.getElem_cons_zero]; exact ha
    | true =>
      have e : twI p (a :: l) = twI p l + 1 := by unfold twI; rw [List.takeWhile_cons, ha]; rfl
      simp only [e, List.getElem_cons_succ]
      exact tw_at p l (by rw [e] at h; simpa using h)
theorem tw_eq {α : Type} (p : α → Bool) (l : List α) (k : Nat) (hk : k ≤ l.length) (h1 : ∀ j (h : j < l.length), j < k → p l[j] = true) (h2 : ∀ h : k < l.length, p l[k] = false) : twI p l = k := by
  rcases Nat.lt_trichotomy (twI p l) k with h | h | h
  · have a := tw_at p l (by omega)
    rw [h1 _ (by omega) h] at a; cases a
  · exact h
  · have hl := tw_le p l
    have a := tw_lt p l k h
    rw [h2 (by omega)] at a; cases a
/-- The first that is such: its place; -1: there is none. -/
def fstI {α : Type} (q : α → Bool) (l : List α) : Int := if twI (fun x => !q x) l < l.length then (twI (fun x => !q x) l : Int) else -1
theorem fst_at {α : Type} {q : α → Bool} {l : List α} {k : Nat} (hk : k < l.length) (h1 : ∀ j (h : j < l.length), j < k → q l[j] = false) (h2 : q l[k] = true) : fstI q l = k := by
  have e := tw_eq (fun x => !q x) l k (by omega) (fun j h hj => by show (!q l[j]) = true; rw [h1 j h hj]; rfl) (fun h => by show (!q l[k]) = false; rw [h2]; rfl)
  unfold fstI
  rw [e, if_pos hk]
theorem fst_none {α : Type} {q : α → Bool} {l : List α} (h1 : ∀ j (h : j < l.length), q l[j] = false) : fstI q l = -1 := by
  have e := tw_eq (fun x => !q x) l l.length (Nat.le_refl _) (fun j h hj => by show (!q l[j]) = true; rw [h1 j h]; rfl) (fun h => by omega)
  unfold fstI
  rw [e, if_neg (by omega)]
/-- It is there, at the place where it would stand. -/
def thereB {α : Type} (lt q : α → Bool) (l : List α) : Bool := if h : twI lt l < l.length then q l[twI lt l] else false
theorem fst_there {α : Type} {lt q : α → Bool} {l : List α} (C : ∀ j (h : j < l.length), q l[j] = true → lt l[j] = false ∧ ∀ i (hi : i < j), lt (l[i]'(by omega)) = true) : fstI q l = if thereB lt q l = true then (twI lt l : Int) else -1 := by
  by_cases ht : thereB lt q l = true
  · rw [if_pos ht]
    unfold thereB at ht
    split at ht
    · rename_i hk
      refine fst_at hk (fun j h hj => ?_) ht
      cases hq : q l[j] with
      | false => rfl
      | true => have := (C j h hq).1; rw [tw_lt lt l j hj] at this; cases this
    · cases ht
  · rw [if_neg ht]
    refine fst_none (fun j h => ?_)
    cases hq : q l[j] with
    | false => rfl
    | true =>
      exfalso
      apply ht
      have e : twI lt l = j := tw_eq lt l j (by omega) (fun i _ hi => (C j h hq).2 i hi) (fun _ => (C j h hq).1)
      unfold thereB
      rw [dif_pos (by omega)]
      simp only [e]; exact hq
/-- What stands ahead of a target, and what is the target: numbers. -/
def ltI (r : Int) (x : Int) : Bool := decide (x < r)
def eqI (r : Int) (x : Int) : Bool := x == r
theorem rise_lt {hs : List Int} (h : okL heB heLt hs = true) : ∀ (j i : Nat) (hj : j < hs.length) (hi : i < j), hs[i]'(by omega) < hs[j]
  | j + 1, i, hj, hi => by
    have a := (okL_parts h).2 (j + 1) (by omega) hj
    unfold heLt at a
    simp at a
    by_cases he : i = j
    · subst he; exact a
    · have := rise_lt h j i (by omega) (by omega); omega
theorem condI {hs : List Int} (h : okL heB heLt hs = true) (r : Int) : ∀ j (hj : j < hs.length), eqI r hs[j] = true → ltI r hs[j] = false ∧ ∀ i (hi : i < j), ltI r (hs[i]'(by omega)) = true := fun j hj hq => by
  have e : hs[j] = r := by simpa [eqI] using hq
  refine ⟨by unfold ltI; exact decide_eq_false (by omega), fun i hi => ?_⟩
  have := rise_lt h j i hj hi
  unfold ltI; exact decide_eq_true (by omega)
theorem monoI {hs : List Int} (h : okL heB heLt hs = true) (r : Int) : ∀ j (hj : j < hs.length) i (hi : i ≤ j), ltI r hs[j] = true → ltI r (hs[i]'(by omega)) = true := fun j hj i hi hq => by
  by_cases he : i = j
  · subst he; exact hq
  · have := rise_lt h j i hj (by omega)
    unfold ltI at *
    simp at *
    omega
end Go.Proofs.YtifomfimfdgjjaaGreatDoor
/-
  Rules in order: where one of a kind and field stands, or would stand.
-/
namespace Go.Proofs.YtifomfimfdgjjaaGreatDoor
open Go.RowKit Go.Lib
set_option linter.unusedVariables false

theorem bl_irr : ∀ (x : List UInt8), Op.bytesLess x x = false
  | [] => rfl
  | a :: x => by simp [Op.bytesLess, bl_irr x]
theorem bl_trans : ∀ (x y z : List UInt8), Op.bytesLess x y = true → Op.bytesLess y z = true → Op.bytesLess x z = true
  | [], _, [], _, h2 => by cases ‹List UInt8› <;> simp [Op.bytesLess] at h2
  | [], _, c :: z, _, _ => by simp [Op.bytesLess]
  | a :: x, [], z, h1, _ => by simp [Op.bytesLess] at h1
  | a :: x, b :: y, [], _, h2 => by simp [Op.bytesLess] at h2
  | a :: x, b :: y, c :: z, h1, h2 => by
    simp only [Op.bytesLess, Bool.or_eq_true, Bool.and_eq_true, decide_eq_true_eq, beq_iff_eq] at h1 h2 ⊢
    rcases h1 with h1 | ⟨rfl, h1⟩
    · rcases h2 with h2 | ⟨rfl, h2⟩
      · exact .inl (UInt8.lt_trans h1 h2)
      · exact .inl h1
    · rcases h2 with h2 | ⟨rfl, h2⟩
      · exact .inl h2
      · exact .inr ⟨rfl, bl_trans x y z h1 h2⟩
theorem rl_trans (ak af bk bf ck cf : ByteArray) (h1 : rlLess ak af bk bf = true) (h2 : rlLess bk bf ck cf = true) : rlLess ak af ck cf = true := by
  unfold rlLess at *
  simp only [Bool.or_eq_true, Bool.and_eq_true, beq_iff_eq] at h1 h2 ⊢
  rcases h1 with h1 | ⟨e1, h1⟩
  · rcases h2 with h2 | ⟨e2, h2⟩
    · exact .inl (bl_trans _ _ _ h1 h2)
    · exact .inl (by rw [← e2]; exact h1)
  · rcases h2 with h2 | ⟨e2, h2⟩
    · exact .inl (by rw [e1]; exact h2)
    · exact .inr ⟨e1.trans e2, bl_trans _ _ _ h1 h2⟩
/-- What stands ahead of a rule of this kind and field, and what is it. -/
def ltR (k f : ByteArray) (x : Rul) : Bool := rlLess x.k x.f k f
def eqR (k f : ByteArray) (x : Rul) : Bool := (x.k.toList == k.toList) && (x.f.toList == f.toList)
theorem crI_zero (ak af bk bf : ByteArray) : (crI ak af bk bf == 0) = ((ak.toList == bk.toList) && (af.toList == bf.toList)) := by
  unfold crI
  rcases cmpI_cases ak bk with ⟨h1, h2⟩ | ⟨h1, h3, h4, h2⟩ | ⟨h1, h4, h2⟩
  · rw [h2]
    have h4 : (ak.toList == bk.toList) = false := by
      cases h : (ak.toList == bk.toList) with
      | false => rfl
      | true =>
        have e : ak.toList = bk.toList := by simpa using h
        rw [e, bl_irr] at h1; cases h1
    rw [h4]; rfl
  · rw [h2, h4]; rfl
  · rw [h2, h4]
    rcases cmpI_cases af bf with ⟨g1, g2⟩ | ⟨g1, g3, g4, g2⟩ | ⟨g1, g4, g2⟩
    · rw [if_pos rfl, g2]
      have g4 : (af.toList == bf.toList) = false := by
        cases h : (af.toList == bf.toList) with
        | false => rfl
        | true =>
          have e : af.toList = bf.toList := by simpa using h
          rw [e, bl_irr] at g1; cases g1
      rw [g4]; rfl
    · rw [if_pos rfl, g2, g4]; rfl
    · rw [if_pos rfl, g2, g4]; rfl
theorem crI_neg (ak af bk bf : ByteArray) : decide (crI ak af bk bf < 0) = rlLess ak af bk bf := by
  have h := crI_less ak af bk bf
  cases hr : rlLess ak af bk bf with
  | true => rw [hr] at h; simp at h; exact decide_eq_true (by omega)
  | false => rw [hr] at h; simp at h; exact decide_eq_false (by omega)
theorem riseR {rs : List Rul} (h : okL ruB ruLt rs = true) : ∀ (j i : Nat) (hj : j < rs.length) (hi : i < j), ruLt (rs[i]'(by omega)) rs[j] = true
  | j + 1, i, hj, hi => by
    have a := (okL_parts h).2 (j + 1) (by omega) hj
    by_cases he : i = j
    · subst he; exact a
    · exact rl_trans _ _ _ _ _ _ (riseR h j i (by omega) (by omega)) a
theorem monoR {rs : List Rul} (h : okL ruB ruLt rs = true) (k f : ByteArray) : ∀ j (hj : j < rs.length) i (hi : i ≤ j), ltR k f rs[j] = true → ltR k f (rs[i]'(by omega)) = true := fun j hj i hi hq => by
  by_cases he : i = j
  · subst he; exact hq
  · exact rl_trans _ _ _ _ _ _ (riseR h j i hj (by omega)) hq
theorem condR {rs : List Rul} (h : okL ruB ruLt rs = true) (k f : ByteArray) : ∀ j (hj : j < rs.length), eqR k f rs[j] = true → ltR k f rs[j] = false ∧ ∀ i (hi : i < j), ltR k f (rs[i]'(by omega)) = true := fun j hj hq => by
  unfold eqR at hq
  simp only [Bool.and_eq_true, beq_iff_eq] at hq
  obtain ⟨e1, e2⟩ := hq
  refine ⟨by unfold ltR rlLess; rw [e1, e2, bl_irr, bl_irr]; simp, fun i hi => ?_⟩
  have := riseR h j i hj hi
  unfold ruLt rlLess at this
  unfold ltR rlLess
  rw [← e1, ← e2]; exact this
end Go.Proofs.YtifomfimfdgjjaaGreatDoor
/-
  What may be forgotten, as plain functions: is a row held, has a field to be kept.
-/
namespace Go.Proofs.YtifomfimfdgjjaaGreatDoor
open Go.RowKit Go.Lib
set_option linter.unusedVariables false

def rulZ : Rul := ⟨ByteArray.empty, ByteArray.empty, 0, 0⟩
def heldB (hs : List Int) (r : Int) : Bool := decide (0 ≤ fstI (eqI r) hs)
/-- The rule of a kind and field: its place among the rules; -1: there is none. -/
def ruI (us : List Rul) (k f : ByteArray) : Int := fstI (eqR k f) us
def ruO (us : List Rul) (k f : ByteArray) : Rul := us.getD (ruI us k f).toNat rulZ
/-- It has to be kept still. -/
def lateB (us : List Rul) (k f : ByteArray) (a now : Int) : Bool := decide (0 ≤ ruI us k f) && decide (now < a + (ruO us k f).l)
def mfO (rs : List Rw) (lv : List ByteArray) (now : Int) (us : List Rul) (hs : List Int) (r f : Int) : Int :=
  if lgB rs lv now = true ∧ polB us hs = true then
    (if fcO rs r f = 0 then (if heldB hs r = true then 11 else if lateB us (rs.getD r.toNat rwZ).k (fldOf rs r f).n (rs.getD r.toNat rwZ).a now = true then 8 else 0) else fcO rs r f)
  else 1
theorem fst_range {α : Type} (q : α → Bool) (l : List α) : fstI q l = -1 ∨ (0 ≤ fstI q l ∧ (fstI q l).toNat < l.length ∧ ∃ h : (fstI q l).toNat < l.length, q l[(fstI q l).toNat] = true) := by
  unfold fstI
  split
  · rename_i h
    refine .inr ⟨by omega, by simpa using h, by simpa using h, ?_⟩
    have := tw_at (fun x => !q x) l h
    simpa using this
  · exact .inl rfl
/-- A row and a field that are there, and not gone. -/
theorem fc_there {rs : List Rw} {r f : Int} (h : fcO rs r f = 0) : ∃ (R F : Nat) (hR : R < rs.length) (hF : F < rs[R].fs.length), r = (R : Int) ∧ f = (F : Int) ∧ rs.getD r.toNat rwZ = rs[R] ∧ fldOf rs r f = rs[R].fs[F] ∧ rs[R].fs[F].g = false := by
  unfold fcO at h
  split at h
  · rename_i h1
    split at h
    · rename_i h2
      obtain ⟨R, rfl⟩ := Int.eq_ofNat_of_zero_le h1.1
      obtain ⟨F, rfl⟩ := Int.eq_ofNat_of_zero_le h2.1
      have hR : R < rs.length := by omega
      have e1 : rs.getD (R : Int).toNat rwZ = rs[R] := by rw [Int.toNat_natCast, List.getD_eq_getElem?_getD, List.getElem?_eq_getElem hR]; rfl
      rw [e1] at h2
      have hF : F < rs[R].fs.length := by omega
      have e2 : fldOf rs (R : Int) (F : Int) = rs[R].fs[F] := by
        unfold fldOf
        rw [e1, Int.toNat_natCast, List.getD_eq_getElem?_getD, List.getElem?_eq_getElem hF]; rfl
      refine ⟨R, F, hR, hF, rfl, rfl, e1, e2, ?_⟩
      rw [e2] at h
      cases hg : rs[R].fs[F].g with
      | false => rfl
      | true => rw [hg] at h; simp at h
    · omega
  · omega
/-- What a rule says at a time: kept, due, or neither. -/
def stI (l e n : Int) : Int := if n < l then 1 else if e ≤ n then 2 else 0
theorem rule_times {us : List Rul} {hs : List Int} (h : polB us hs = true) : ∀ r ∈ us, (0 ≤ r.l ∧ r.l ≤ 1000000) ∧ 0 ≤ r.m ∧ r.m ≤ 1000000 := fun r hr => by
  unfold polB at h
  simp only [Bool.and_eq_true, decide_eq_true_eq] at h
  have := (okL_parts h.2.1).1 r hr
  unfold ruB rulB timeB at this
  simp only [Bool.and_eq_true, decide_eq_true_eq] at this
  exact ⟨this.2.2.1, this.2.2.2.1⟩
end Go.Proofs.YtifomfimfdgjjaaGreatDoor
/-
  Rows of elements of any size: appended to, copied over, cleared, as the built-in functions do it. Of no program.
-/
namespace Go.Proofs.YtifomfimfdgjjaaGreatDoor
open Go.RowKit Go.Lib
set_option linter.unusedVariables false

/-- A type of slices (t) of elements (e): zero value, cells and bytes of an element. -/
structure ElT (P : Program) (t e : TypeId) (i : TypeInfo) (z : Value) (size bytes : Nat) : Prop where
  ht : P.underlying t = some (.slice e)
  hi : P.info? e = some i
  hz : i.zero = some z
  hs : i.size = size
  hb : i.bytes = bytes
  hzs : z.cells.size = size
  h0 : 0 < size
  one : ∀ v ∈ z.cells.toList, v.oneCell' = true
theorem elT_of {P : Program} {t e : TypeId} {z : Value} {size bytes : Nat} (ht : P.underlying t = some (.slice e)) (h : (P.info? e).map (fun i => (i.zero, i.size, i.bytes)) = some (some z, size, bytes)) (hzs : z.cells.size = size) (h0 : 0 < size) (one : ∀ v ∈ z.cells.toList, v.oneCell' = true) : ∃ i, ElT P t e i z size bytes := by
  obtain ⟨i, hi, a, b, c⟩ := info_parts h
  exact ⟨i, ht, hi, a, b, c, hzs, h0, one⟩
/-- The cells from p on hold these values (of none nothing is asked). -/
def CelAt (w : World) (p : Option Addr) (cs : List Value) : Prop := ∀ j (h : j < cs.length), ∃ b off, p = some ⟨b, off, none⟩ ∧ b < w.heap.size ∧ w.cell? ⟨b, off + j, none⟩ = some cs[j]
theorem CelAt.below {w w' : World} {p : Option Addr} {cs : List Value} (h : CelAt w p cs) (hb : Below w.heap.size w w') : CelAt w' p cs := by
  intro i hi
  obtain ⟨b, off, rfl, h1, h2⟩ := h i hi
  exact ⟨b, off, rfl, Nat.lt_of_lt_of_le h1 hb.size, (hb.cell (p := ⟨b, off + i, none⟩) h1).trans h2⟩
theorem CelAt.nil (w : World) (p : Option Addr) : CelAt w p [] := fun i h => by simp at h
theorem CelAt.some_of {w : World} {p : Option Addr} {cs : List Value} (h : CelAt w p cs) (h0 : 0 < cs.length) : ∃ b off, p = some ⟨b, off, none⟩ := by
  obtain ⟨b, off, e, -⟩ := h 0 h0
  exact ⟨b, off, e⟩
theorem CelAt.src {w : World} {b off : Nat} {cs : List Value} (h : CelAt w (some ⟨b, off, none⟩) cs) : ∀ j u, cs[j]? = some u → w.cell? ((⟨b, off, none⟩ : Addr).add j) = some u := by
  intro j u hu
  obtain ⟨hj, rfl⟩ := List.getElem?_eq_some_iff.1 hu
  obtain ⟨b', off', e, _, h2⟩ := h j hj
  cases e
  rw [show (⟨b, off, none⟩ : Addr).add j = ⟨b, off + j, none⟩ by unfold Addr.add; split <;> simp_all]
  exact h2
theorem CelAt.take {w : World} {p : Option Addr} {cs : List Value} (h : CelAt w p cs) (k : Nat) : CelAt w p (cs.take k) := fun j hj => by
  obtain ⟨b, off, e, h1, h2⟩ := h j (by simp at hj; omega)
  exact ⟨b, off, e, h1, by rw [h2, List.getElem_take]⟩
theorem CelAt.drop {w : World} {b off : Nat} {cs : List Value} (h : CelAt w (some ⟨b, off, none⟩) cs) (k : Nat) : CelAt w (some ⟨b, off + k, none⟩) (cs.drop k) := fun j hj => by
  obtain ⟨b', off', e, h1, h2⟩ := h (k + j) (by simp at hj; omega)
  cases e
  exact ⟨b, off + k, rfl, h1, by rw [Nat.add_assoc, h2, List.getElem_drop]⟩
theorem own_cel {w : World} {base : Nat} {e : TypeId} {size n : Nat} {p : Option Addr} {cap : Nat} {xs : List Value} (h : w.ownsRow base e size (.slice p n cap) n xs) : CelAt w p xs := by
  rcases h.2 with ⟨e0, h0⟩ | ⟨g, cap', cur, e0, _, hg, _, _, hs, ht⟩
  · cases e0
    have hl := h.1
    intro j hj
    rw [hl, Nat.zero_mul] at hj
    omega
  · cases e0
    have hl := h.1
    intro j hj
    refine ⟨g, 0, rfl, lt_of_block hg, ?_⟩
    rw [Nat.zero_add, h.cellAt j (by omega), List.getElem?_eq_getElem hj]
/-- Where the own row of an answer lies: where it lay, or in new memory. -/
def Lies (w : World) (v v' : Value) : Prop := ∀ j, v'.ownBlock = some j → v.ownBlock = some j ∨ w.heap.size ≤ j
theorem app_cel {P : Program} {t e : TypeId} {i : TypeInfo} {z : Value} {size bytes : Nat} (E : ElT P t e i z size bytes) (ty : TypeId) (w : World) (base : Nat) (v : Value) (n : Nat) (xs : List Value) (own : w.ownsRow base e size v n xs) (p : Option Addr) (m c : Nat) (news : List Value) (hp : CelAt w p news) (hl : news.length = m * size) (one : ∀ u ∈ news, u.oneCell' = true) (hb : (n + m) * bytes ≤ 140737488355328) (hm : n + m ≤ maxLen) (hbase : base ≤ w.heap.size) :
    ∃ v' w', (Builtin.append_ #[t, t] ty #[v, .slice p m c]).run P w = .ok v' w' ∧ w'.ownsRow base e size v' (n + m) (xs ++ news) ∧ w.grownBy w' v.ownBlock ∧ Lies w v v' := by
  by_cases h0 : m = 0
  · subst h0
    have hn : news = [] := List.eq_nil_of_length_eq_zero (by simpa using hl)
    subst hn
    refine ⟨v, w, ?_, by simpa using own, World.grownBy.refl _ _, fun j hj => .inl hj⟩
    rcases own.2 with ⟨rfl, rfl⟩ | ⟨g, cap', cur, rfl, _, _, hnc, _⟩
    · cases p <;> simp [Builtin.append_, run_underlying E.ht, sizeOf, typeInfo, E.hi, Builtin.lenOf, Builtin.firstCells, loadCells, loadCellsFrom]
    · cases p <;> simp [Builtin.append_, run_underlying E.ht, sizeOf, typeInfo, E.hi, Builtin.lenOf, Builtin.firstCells, hnc, storeCells, loadCells, loadCellsFrom]
  · have hpos : 0 < news.length := by rw [hl]; exact Nat.mul_pos (by omega) E.h0
    obtain ⟨b, off, rfl⟩ := hp.some_of hpos
    obtain ⟨g, cap', w', h1, h2, h3, h4, _⟩ := run_append_lies (P := P) w t ty base e i z size bytes E.ht E.hi E.hz E.hs E.hb E.hzs E.h0 v n xs own ⟨b, off, none⟩ m c news hl hp.src one (by omega) hm hb hbase _ rfl
    refine ⟨_, w', h1, h2, h3, fun j hj => ?_⟩
    have hj : some g = some j := hj
    cases hj
    rcases h4 with h | h
    · exact .inl h
    · exact .inr (by omega)
theorem Bxs.row {w : World} {g : Nat} {T : TypeId} {cs : Array Value} (h : Bxs w g T cs) (cs' : Array Value) : Bxs (w.setRow g cs') g T cs' := setRow_heap w g cs cs' T (0, 0) h
theorem row_other (w : World) (g k : Nat) (cs : Array Value) (hne : k ≠ g) : (w.setRow g cs).heap[k]? = w.heap[k]? := by
  have : g ≠ k := fun e => hne e.symm
  simp [World.setRow, Array.getElem?_modify, this]
theorem row_size (w : World) (g : Nat) (cs : Array Value) : (w.setRow g cs).heap.size = w.heap.size := by simp [World.setRow]
theorem grown_row (w : World) (g : Nat) (cs : Array Value) : w.grownBy (w.setRow g cs) (some g) := ⟨rfl, rfl, rfl, by rw [row_size]; exact Nat.le_refl _, fun k _ hne => row_other w g k cs (fun e => hne (by rw [e]))⟩
theorem Bxs.rowOther {w : World} {g : Nat} {T : TypeId} {cs : Array Value} (h : Bxs w g T cs) (g' : Nat) (cs' : Array Value) (hne : g ≠ g') : Bxs (w.setRow g' cs') g T cs := (row_other w g' g cs' hne).trans h
theorem run_copy_bx {P : Program} {t e : TypeId} {i : TypeInfo} {z : Value} {size bytes : Nat} (E : ElT P t e i z size bytes) (ty : TypeId) (w : World) (g o dLen dCap : Nat) (a : Addr) (sLen sCap k : Nat) (cur : Array Value) (cs : List Value)
    (hg : Bxs w g e cur) (hk : k = Nat.min sLen dLen) (hn : cs.length = k * size)
    (hsrc : ∀ j v, cs[j]? = some v → w.cell? (a.add j) = some v) (hfit : o + cs.length ≤ cur.size) (h1 : ∀ v ∈ cs, v.oneCell' = true) :
    (Builtin.copy_ #[t, t] ty #[.slice (some ⟨g, o, none⟩) dLen dCap, .slice (some a) sLen sCap]).run P w =
      .ok (goInt k) (w.setRow g (cur.toList.take o ++ cs ++ cur.toList.drop (o + cs.length)).toArray) := by
  have hl := run_firstCells_some (P := P) w size k a sLen sCap cs hn hsrc
  have hst := run_storeCells_at P g o e cs 0 cur w hg (by simpa using hfit) h1
  subst hk
  simp [Builtin.copy_, run_underlying E.ht, Builtin.lenOf, sizeOf, typeInfo, E.hi, E.hs, hl, hst]
theorem run_append_bx {P : Program} {t e : TypeId} {i : TypeInfo} {z : Value} {size bytes : Nat} (E : ElT P t e i z size bytes) (ty : TypeId) (w : World) (g sLen sCap : Nat) (a : Addr) (m c : Nat) (cur : Array Value) (news : List Value)
    (hg : Bxs w g e cur) (hl : news.length = m * size) (hsrc : ∀ j v, news[j]? = some v → w.cell? (a.add j) = some v) (hroom : sLen + m ≤ sCap) (hfit : sLen * size + news.length ≤ cur.size) (h1 : ∀ v ∈ news, v.oneCell' = true) :
    (Builtin.append_ #[t, t] ty #[.slice (some ⟨g, 0, none⟩) sLen sCap, .slice (some a) m c]).run P w =
      .ok (.slice (some ⟨g, 0, none⟩) (sLen + m) sCap) (w.setRow g (cur.toList.take (sLen * size) ++ news ++ cur.toList.drop (sLen * size + news.length)).toArray) := by
  have hfc := run_firstCells_some (P := P) w size m a m c news hl hsrc
  have hst := run_storeCells_at P g (sLen * size) e news 0 cur w hg (by simpa using hfit) h1
  simp only [Nat.add_zero] at hst
  simp [Builtin.append_, run_underlying E.ht, sizeOf, typeInfo, E.hi, E.hs, Builtin.lenOf, hroom, hfc, Addr.add_lit, hst]
theorem run_clear_bx {P : Program} {t e : TypeId} {i : TypeInfo} {z : Value} {size bytes : Nat} (E : ElT P t e i z size bytes) (ty : TypeId) (w : World) (g o c : Nat) (cur : Array Value)
    (hg : Bxs w g e cur) (hfit : o + size ≤ cur.size) :
    (Builtin.clear_ #[t] ty #[.slice (some ⟨g, o, none⟩) 1 c]).run P w =
      .ok (.tuple #[]) (w.setRow g (cur.toList.take o ++ z.cells.toList ++ cur.toList.drop (o + size)).toArray) := by
  have hzc : (Builtin.zeroCells z.cells 1).toList = z.cells.toList := by
    apply List.ext_getElem
    · simp [Builtin.zeroCells]
    · intro j h1 h2
      have : j < z.cells.size := by simpa using h2
      simp [Builtin.zeroCells, Nat.mod_eq_of_lt this, getElem!_pos z.cells j this]
  have hlen : z.cells.toList.length = size := by simpa using E.hzs
  have hst := run_storeCells_at P g o e z.cells.toList 0 cur w hg (by rw [hlen]; simpa using hfit) E.one
  rw [hlen] at hst
  simp only [Nat.add_zero] at hst
  simp [Builtin.clear_, run_underlying E.ht, zeroValue, typeInfo, E.hi, E.hz, hzc, hst]
theorem own_bxs {w : World} {base : Nat} {e : TypeId} {size g n cap : Nat} {xs : List Value} (h : w.ownsRow base e size (.slice (some ⟨g, 0, none⟩) n cap) n xs) : ∃ cur, Bxs w g e cur ∧ base ≤ g ∧ n ≤ cap ∧ cap ≤ maxLen ∧ cur.size = cap * size ∧ cur.toList.take (n * size) = xs := by
  rcases h.2 with ⟨e0, _⟩ | ⟨g', cap', cur, e0, h1, h2, h3, h4, h5, h6⟩
  · cases e0
  · cases e0
    exact ⟨cur, h2, h1, h3, h4, h5, h6⟩
theorem bxs_ownE {w : World} {base : Nat} {e : TypeId} {size g n cap : Nat} {xs : List Value} {cur : Array Value} (hg : Bxs w g e cur) (hb : base ≤ g) (hn : n ≤ cap) (hm : cap ≤ maxLen) (hs : cur.size = cap * size) (ht : cur.toList.take (n * size) = xs) : w.ownsRow base e size (.slice (some ⟨g, 0, none⟩) n cap) n xs := by
  refine ⟨?_, .inr ⟨g, cap, cur, rfl, hb, hg, hn, hm, hs, ht⟩⟩
  rw [← ht, List.length_take, Array.length_toList, hs]
  exact Nat.min_eq_left (Nat.mul_le_mul_right _ hn)
theorem copy_wp {P : Program} {w : World} {o : Oper} {a : Act} {K : Act → World → Prop} {Q : Exit → Act → World → Prop} (d x : Operand) (t t' : TypeId)
    (ho : o.op = .call { callee := .builtin .copy, args := #[d, x], argTypes := #[t, t'] }) (v u : Value) (hd : a.eval d = v) (hx : a.eval x = u) (v' : Value) (w' : World)
    (hr : (Builtin.copy_ #[t, t'] o.type #[v, u]).run P w = .ok v' w') (h : K (a.put o.dst v') w') : o.wp P a w K Q := by
  unfold Oper.wp execOp
  simp only [ho, resolve, invoke, builtin, Sem.run_bind, Sem.run_pure, Result.andThen_ok, List.map_toArray, List.map_cons, List.map_nil, hd, hx, hr]
  exact h
theorem step_copy_bx {P : Program} {w : World} {ops : Array Oper} {o : Oper} {a : Act} {K : Act → World → Prop} {Q : Exit → Act → World → Prop} {E : Prop} (hgd : o.guard = none) (d x : Operand) (t t' : TypeId)
    (ho : o.op = .call { callee := .builtin .copy, args := #[d, x], argTypes := #[t, t'] }) (v u v' : Value) (w' : World) (hd : a.eval d = v) (hx : a.eval x = u)
    (hr : (Builtin.copy_ #[t, t'] o.type #[v, u]).run P w = .ok v' w') (h : K (a.put o.dst v') w') : if Region.wanted o (yielded ops a.tmps) = true then Oper.wp P o a w K Q else E := by
  rw [if_pos (by simp [Region.wanted, hgd])]
  exact copy_wp d x t t' ho v u hd hx v' w' hr h
theorem wpList_app {P : Program} {w : World} {ops : Array Oper} {rest : List Oper} {o : Oper} {a : Act} {Q : Exit → Act → World → Prop} (hgd : o.guard = none) (s x : Operand) (t t' : TypeId)
    (ho : o.op = .call { callee := .builtin .append, args := #[s, x], argTypes := #[t, t'] }) (v1 v2 v' : Value) (w' : World) (hs : a.eval s = v1) (hx : a.eval x = v2)
    (hr : (Builtin.append_ #[t, t'] o.type #[v1, v2]).run P w = .ok v' w') (h : wpList P ops Q rest (a.put o.dst v') w') : wpList P ops Q (o :: rest) a w :=
  wpList_plain hgd fun _ hK => by
    unfold Oper.wp execOp
    simp only [ho, resolve, invoke, builtin, Sem.run_bind, Sem.run_pure, Result.andThen_ok, List.map_toArray, List.map_cons, List.map_nil, hs, hx, hr]
    exact hK _ _ h
theorem wpList_copy_bx {P : Program} {w : World} {ops : Array Oper} {rest : List Oper} {o : Oper} {a : Act} {Q : Exit → Act → World → Prop} (hgd : o.guard = none) (d x : Operand) (t t' : TypeId)
    (ho : o.op = .call { callee := .builtin .copy, args := #[d, x], argTypes := #[t, t'] }) (v u v' : Value) (w' : World) (hd : a.eval d = v) (hx : a.eval x = u)
    (hr : (Builtin.copy_ #[t, t'] o.type #[v, u]).run P w = .ok v' w') (h : wpList P ops Q rest (a.put o.dst v') w') : wpList P ops Q (o :: rest) a w :=
  wpList_plain hgd fun _ hK => copy_wp d x t t' ho v u hd hx v' w' hr (hK _ _ h)
end Go.Proofs.YtifomfimfdgjjaaGreatDoor
