/-
  What the program's RuleDrop answers.
  Conditions: the cells of Rules and Held hold the rules and numbers.
-/
import Derived.Test.YtbgpkngnlfafcaaRows
import Derived.Test.YtbgpkngnlfafcaaBytes
import Derived.Test.YtbgpkngnlfafcaaSlA
import Derived.Test.YtbgpkngnlfafcaaOwnS
import Derived.Test.YtbgpkngnlfafcaaBxK
import Derived.Test.YtbgpkngnlfafcaaIntK
import Derived.Test.YtbgpkngnlfafcaaRulMath
import Derived.Test.YtbgpkngnlfafcaaRulBlk
import Derived.Test.YtbgpkngnlfafcaaPolMath
import Derived.Test.YtbgpkngnlfafcaaPolIdx
import Derived.Test.YtbgpkngnlfafcaaRulIdx
import Derived.Test.YtbgpkngnlfafcaaRulI
import Derived.Test.YtbgpkngnlfafcaaPolI
import Derived.Test.YtbgpkngnlfafcaaSrchR
import Derived.Test.YtbgpkngnlfafcaaLawI
import Derived.Test.YtbgpkngnlfafcaaRowOps
import Derived.Test.YtbgpkngnlfafcaaDelR
import Derived.Test.YtbgpkngnlfafcaaPolO
import Derived.Test.YtbgpkngnlfafcaaPolCp
import Derived.Test.YtbgpkngnlfafcaaPolAns
import Derived.Handy
import Derived.WalkSpells
import Derived.OwnWalk
import Derived.Deep.RegionLaw
import Derived.Deep.Cut
import Derived.Deep.CutRange
namespace Go.Proofs.Ytbgpkngnlfafcaa
open Go.RowKit Go.Lib
set_option linter.unusedVariables false
set_option maxRecDepth 20000

set_option maxHeartbeats 4000000 in
theorem implRuleDrop_any (p1 p2 : Option Addr) (c1 c2 : Nat) (rs : List Rul) (hs : List Int) (k f : ByteArray) (w : World) (hr : RulAt w p1 rs) (hh : IntAt w p2 hs) (n1 : rs.length ≤ 1048576) (n2 : hs.length ≤ 1048576) (m1 : rs.length ≤ c1) (m2 : hs.length ≤ c2) (hz : RulsLe rs) (hk : k.size ≤ 1048576) (hf : f.size ≤ 1048576) :
    Calls Try.prog 12 #[.agg #[.slice p1 rs.length c1, .slice p2 hs.length c2], .string k, .string f] w fun e w' => ∃ v1 v2, e = .returned (.agg #[v1, v2, .int .i64 (rdC rs hs k f)]) ∧ PolO w.heap.size (rdR rs hs k f) (rdH rs hs k f) v1 v2 w' ∧ Below w.heap.size w w' := by
  have HC : Hid (rdC rs hs k f = if 8000 < k.size ∨ 8000 < f.size then 2 else if polB rs hs = true then (if rdB rs k f = true then 0 else 6) else 1) := rfl
  have HRr : Hid (rdR rs hs k f = if rdC rs hs k f = 0 then rs.take (rdT rs k f) ++ rs.drop (rdT rs k f + 1) else []) := rfl
  have HHr : Hid (rdH rs hs k f = if rdC rs hs k f = 0 then hs else []) := rfl
  obtain ⟨W2, hW2⟩ : ∃ W2, W2 = (w.alloc (.cells #[.slice p1 rs.length c1, .slice p2 hs.length c2] 26)).alloc (.cells #[.slice none 0 0, .slice none 0 0, .int .i64 0] 32) := ⟨_, rfl⟩
  have HW2 : Hid (W2 = (w.alloc (.cells #[.slice p1 rs.length c1, .slice p2 hs.length c2] 26)).alloc (.cells #[.slice none 0 0, .slice none 0 0, .int .i64 0] 32)) := hW2
  have hs1 : (w.alloc (.cells #[.slice p1 rs.length c1, .slice p2 hs.length c2] 26)).heap.size = w.heap.size + 1 := by simp
  have HS2 : Hid (W2.heap.size = w.heap.size + 2) := by rw [hW2]; show _ = _; simp
  have K0 : Hid (Bxs W2 w.heap.size 26 #[.slice p1 rs.length c1, .slice p2 hs.length c2]) := by rw [hW2]; exact (Bxs.new _ _ _).alloc _
  have K1 : Hid (Bxs W2 (w.heap.size + 1) 32 #[.slice none 0 0, .slice none 0 0, .int .i64 0]) := by rw [hW2, ← hs1]; exact Bxs.new _ _ _
  have B2 : Hid (Below w.heap.size w W2) := by rw [hW2]; exact ((Below.refl _ _).alloc (Nat.le_refl _) _).alloc (by rw [hs1]; omega) _
  have HP : Hid (∀ x, Below W2.heap.size W2 x → x.cell? ⟨w.heap.size, 0, none⟩ = some (.slice p1 rs.length c1) ∧ x.cell? ⟨w.heap.size, 1, none⟩ = some (.slice p2 hs.length c2)) := fun x hb => (K0.out.below hb).two
  have HR : Hid (∀ x, Below W2.heap.size W2 x → x.cell? ⟨w.heap.size + 1, 0, none⟩ = some (.slice none 0 0) ∧ x.cell? ⟨w.heap.size + 1, 1, none⟩ = some (.slice none 0 0) ∧ x.cell? ⟨w.heap.size + 1, 2, none⟩ = some (.int .i64 0) ∧ x.frozen? ⟨w.heap.size + 1, 0, none⟩ = false ∧ x.frozen? ⟨w.heap.size + 1, 1, none⟩ = false ∧ x.frozen? ⟨w.heap.size + 1, 2, none⟩ = false) := fun x hb => ⟨(K1.out.below hb).cell 0, (K1.out.below hb).cell 1, (K1.out.below hb).cell 2, (K1.out.below hb).fr 0, (K1.out.below hb).fr 1, (K1.out.below hb).fr 2⟩
  have HS3 : Hid (∀ x, Below W2.heap.size W2 x → ∀ a b c : Value, Below w.heap.size w (((x.setCell ⟨w.heap.size + 1, 0, none⟩ a).setCell ⟨w.heap.size + 1, 1, none⟩ b).setCell ⟨w.heap.size + 1, 2, none⟩ c)) := fun x hb a b c => (((chainB B2.out hb).setCell (by show w.heap.size ≤ w.heap.size + 1; omega) _).setCell (by show w.heap.size ≤ w.heap.size + 1; omega) _).setCell (by show w.heap.size ≤ w.heap.size + 1; omega) _
  have HRu : Hid (RulAt W2 p1 rs) := hr.below B2.out
  have HIn : Hid (IntAt W2 p2 hs) := hh.below B2.out
  obtain ⟨x0, x1⟩ := HP.out W2 (Below.refl _ _)
  have y0 := x0
  have y1 := x1
  rw [hW2] at y0 y1
  have hQ := implPolicyRight_any p1 p2 c1 c2 rs hs W2 HRu.out HIn.out n1 n2 m1 m2 hz
  clear hW2 hs1 hr hh K0 hz
  by_cases hb1 : 8000 < k.size
  · have e1 : rdC rs hs k f = 2 := by rw [HC.out, if_pos (.inl hb1)]
    rw [HRr.out, HHr.out, e1, if_neg (by omega), if_neg (by omega)]
    have d1 : decide (8000 < (k.size : Int)) = true := decide_eq_true (by omega)
    clear HC HRr HHr e1 hQ
    go_enter Try.func12, Try.ntmps12
    go_wp2_with fail
    refine bodyPost_ret (v := .agg #[.slice none 0 0, .slice none 0 0, .int .i64 2]) (by simp [results, Try.results12, go_sem]) rfl ?_
    exact ⟨_, _, rfl, PolO.nil _ _, alB (alB (Below.refl _ _) _) _⟩
  have d1 : decide (8000 < (k.size : Int)) = false := decide_eq_false (by omega)
  by_cases hb2 : 8000 < f.size
  · have e1 : rdC rs hs k f = 2 := by rw [HC.out, if_pos (.inr hb2)]
    rw [HRr.out, HHr.out, e1, if_neg (by omega), if_neg (by omega)]
    have d2 : decide (8000 < (f.size : Int)) = true := decide_eq_true (by omega)
    clear HC HRr HHr e1 hQ
    go_enter Try.func12, Try.ntmps12
    go_wp2_with fail
    refine bodyPost_ret (v := .agg #[.slice none 0 0, .slice none 0 0, .int .i64 2]) (by simp [results, Try.results12, go_sem]) rfl ?_
    exact ⟨_, _, rfl, PolO.nil _ _, alB (alB (Below.refl _ _) _) _⟩
  have d2 : decide (8000 < (f.size : Int)) = false := decide_eq_false (by omega)
  rw [if_neg (by omega)] at HC
  cases hpb : polB rs hs with
  | false =>
    have e1 : rdC rs hs k f = 1 := by rw [HC.out, hpb]; rfl
    rw [HRr.out, HHr.out, e1, if_neg (by omega), if_neg (by omega)]
    rw [hpb] at hQ
    clear HC HRr HHr e1
    go_enter Try.func12, Try.ntmps12
    go_wp2_with fail
    rw [← HW2.out]
    refine hQ.mono ?_
    rintro e w3 ⟨rfl, b3⟩
    obtain ⟨r0, r1, r2, f0, f1, f2⟩ := HR.out w3 b3
    have HE := HS3.out w3 b3 (.slice none 0 0) (.slice none 0 0) (.int .i64 1)
    go_wp2_with fail
    refine bodyPost_ret (v := .agg #[.slice none 0 0, .slice none 0 0, .int .i64 1]) (by simp [results, Try.results12, go_sem, r0, r1, r2]) rfl ?_
    exact ⟨_, _, rfl, PolO.nil _ _, HE⟩
  | true =>
  obtain ⟨hl6, ho1, ho2, hh6, hsz⟩ := polB_parts hpb
  rw [hpb] at hQ
  rw [if_pos hpb] at HC
  have HSr : Hid (∀ x, Below W2.heap.size W2 x → Calls Try.prog 23 #[.slice p1 rs.length c1, .string k, .string f] x fun e w' => e = .returned (.tuple #[.int .i64 (rdT rs k f : Nat), .bool (rdB rs k f)]) ∧ Below x.heap.size x w') := fun x hb => ruleAt_any p1 c1 rs k f x (HRu.out.below hb) (by omega) ho1
  have HCp : Hid (∀ x, Below W2.heap.size W2 x → Calls Try.prog 24 #[.agg #[.slice p1 rs.length c1, .slice p2 hs.length c2]] x fun e w' => ∃ v1 v2, e = .returned (.agg #[v1, v2]) ∧ PolO x.heap.size rs hs v1 v2 w' ∧ Below x.heap.size x w') := fun x hb => copiedPolicy_any p1 p2 c1 c2 rs hs x (HRu.out.below hb) (HIn.out.below hb) n1 n2 m1 (fun q hq => by have := hsz q hq; omega)
  have hTn : rdT rs k f ≤ rs.length := tw_le _ _
  have HTl : Hid (rdB rs k f = true → rdT rs k f < rs.length) := fun h => there_lt h
  cases htb : rdB rs k f with
  | false =>
    have e1 : rdC rs hs k f = 6 := by rw [HC.out, htb]; rfl
    rw [HRr.out, HHr.out, e1, if_neg (by omega), if_neg (by omega)]
    rw [htb] at HSr
    generalize rdT rs k f = T at *
    clear HC HRr HHr e1
    go_enter Try.func12, Try.ntmps12
    go_wp2_with fail
    rw [← HW2.out]
    refine hQ.mono ?_
    rintro e w3 ⟨rfl, b3⟩
    obtain ⟨z0, z1⟩ := HP.out w3 b3
    go_wp2_with fail
    refine (HSr.out w3 b3).mono ?_
    rintro e w5 ⟨rfl, b5⟩
    have b5 := chainB b3 b5
    obtain ⟨r0, r1, r2, f0, f1, f2⟩ := HR.out w5 b5
    have HE := HS3.out w5 b5 (.slice none 0 0) (.slice none 0 0) (.int .i64 6)
    go_wp2_with fail
    refine bodyPost_ret (v := .agg #[.slice none 0 0, .slice none 0 0, .int .i64 6]) (by simp [results, Try.results12, go_sem, r0, r1, r2]) rfl ?_
    exact ⟨_, _, rfl, PolO.nil _ _, HE⟩
  | true =>
    have e1 : rdC rs hs k f = 0 := by rw [HC.out, htb]; rfl
    rw [HRr.out, HHr.out, e1, if_pos rfl, if_pos rfl]
    rw [htb] at HSr
    have hTl := HTl.out htb
    generalize rdT rs k f = T at *
    clear HC HRr HHr e1 HTl
    go_enter Try.func12, Try.ntmps12
    go_wp2_with fail
    rw [← HW2.out]
    refine hQ.mono ?_
    rintro e w3 ⟨rfl, b3⟩
    obtain ⟨z0, z1⟩ := HP.out w3 b3
    go_wp2_with fail
    refine (HSr.out w3 b3).mono ?_
    rintro e w5 ⟨rfl, b5⟩
    have b5 := chainB b3 b5
    clear z0 z1
    obtain ⟨z0, z1⟩ := HP.out w5 b5
    go_wp2_with fail
    refine (HCp.out w5 b5).mono ?_
    rintro e w6 ⟨v1, v2, rfl, PO, b6⟩
    obtain ⟨q1, d1', q2, d2', rfl, rfl, l1, l2⟩ := PO.form
    obtain ⟨W7, hW7⟩ : ∃ W7, W7 = w6.alloc (.cells #[.slice q1 rs.length d1', .slice q2 hs.length d2'] 26) := ⟨_, rfl⟩
    have b7 : Below w6.heap.size w6 W7 := by rw [hW7]; exact (Below.refl _ _).alloc (Nat.le_refl _) _
    have X7 : Bxs W7 w6.heap.size 26 #[.slice q1 rs.length d1', .slice q2 hs.length d2'] := by rw [hW7]; exact Bxs.new _ _ _
    have P7 := PO.below b7
    have bw7 : Below W2.heap.size W2 W7 := chainB b5 (chainB b6 b7)
    have s6 := b6.size
    have s3 := b5.size
    have hS2 := HS2.out
    have lt1 := PO.lt
    obtain ⟨g1, rfl⟩ : ∃ g1, q1 = some ⟨g1, 0, none⟩ := by
      rcases PO.own1.2 with ⟨h0, h1⟩ | ⟨g1, _, _, h1, _⟩
      · omega
      · cases h1; exact ⟨g1, rfl⟩
    have HW7 : Hid (W7 = w6.alloc (.cells #[.slice (some ⟨g1, 0, none⟩) rs.length d1', .slice q2 hs.length d2'] 26)) := hW7
    have hO := delR_any w5.heap.size g1 rs.length d1' T (rulRow rs) W7 P7.own1 (by omega) (oneR _)
    rw [rulRow_take, rulRow_drop, ← rulRow_append] at hO
    have x70 : W7.cell? ⟨w6.heap.size, 0, none⟩ = some (.slice (some ⟨g1, 0, none⟩) rs.length d1') := X7.cell 0
    rw [hW7] at x70
    clear hW7
    go_wp2_with fail
    rw [← HW7.out]
    refine hO.mono ?_
    rintro e w9 ⟨rfl, o9, g9⟩
    have li9 : Lies W7 (.slice (some ⟨g1, 0, none⟩) rs.length d1') (.slice (some ⟨g1, 0, none⟩) (rs.length - 1) d1') := fun j hj => .inl hj
    have o9 : w9.ownsRow w5.heap.size 28 4 (.slice (some ⟨g1, 0, none⟩) (rs.length - 1) d1') (rs.take T ++ rs.drop (T + 1)).length (rulRow (rs.take T ++ rs.drop (T + 1))) := by
      have e : (rs.take T ++ rs.drop (T + 1)).length = rs.length - 1 := by simp; omega
      rw [e]; exact o9
    have g9 : W7.grownBy w9 (Value.slice (some ⟨g1, 0, none⟩) rs.length d1').ownBlock := g9
    generalize hv1 : Value.slice (some ⟨g1, 0, none⟩) (rs.length - 1) d1' = v1' at *
    clear hv1
    have P9 : PolO w5.heap.size (rs.take T ++ rs.drop (T + 1)) hs v1' (.slice q2 hs.length d2') w9 := P7.new1 g9 o9 li9
    have nz : some w6.heap.size ≠ v1'.ownBlock := fun e => by
      rcases li9 w6.heap.size e.symm with q | q
      · have := (lt1.1 _ q).2; omega
      · have := X7.lt; omega
    have nz2 : some w6.heap.size ≠ (Value.slice q2 hs.length d2').ownBlock := fun e => by have := (lt1.2 _ e.symm).2; omega
    have X9 := X7.grown g9 (fun e => by have := (lt1.1 _ e.symm).2; omega)
    have R9 := (K1.out.below bw7).grown g9 (fun e => by have := (lt1.1 _ e.symm).1; omega)
    have B9 : Below w.heap.size w w9 := (chainB B2.out bw7).grown g9 (by have := bw7.size; omega) (fun j hj => by have := (lt1.1 _ hj).1; omega)
    obtain ⟨q3, d3, e3, -⟩ := own_form o9
    have i0 : w9.cell? ⟨w6.heap.size, 0, none⟩ = some (.slice (some ⟨g1, 0, none⟩) rs.length d1') := X9.cell 0
    have i1 : w9.cell? ⟨w6.heap.size, 1, none⟩ = some (.slice q2 hs.length d2') := X9.cell 1
    have fi := X9.fr 0
    have r0 : w9.cell? ⟨w.heap.size + 1, 0, none⟩ = some (.slice none 0 0) := R9.cell 0
    have r1 : w9.cell? ⟨w.heap.size + 1, 1, none⟩ = some (.slice none 0 0) := R9.cell 1
    have r2 : w9.cell? ⟨w.heap.size + 1, 2, none⟩ = some (.int .i64 0) := R9.cell 2
    have f0 := R9.fr 0
    have f1 := R9.fr 1
    have f2 := R9.fr 2
    have HEnd : Hid (∀ a b c d : Value, PolO w.heap.size (rs.take T ++ rs.drop (T + 1)) hs v1' (.slice q2 hs.length d2') ((((w9.setCell ⟨w6.heap.size, 0, none⟩ a).setCell ⟨w.heap.size + 1, 0, none⟩ b).setCell ⟨w.heap.size + 1, 1, none⟩ c).setCell ⟨w.heap.size + 1, 2, none⟩ d) ∧ Below w.heap.size w ((((w9.setCell ⟨w6.heap.size, 0, none⟩ a).setCell ⟨w.heap.size + 1, 0, none⟩ b).setCell ⟨w.heap.size + 1, 1, none⟩ c).setCell ⟨w.heap.size + 1, 2, none⟩ d)) := fun a b c d =>
      ⟨((((P9.setN nz nz2 0 a).set (by omega) 0 b).set (by omega) 1 c).set (by omega) 2 d).lower (by omega), (((B9.setCell (by show w.heap.size ≤ w6.heap.size; omega) _).setCell (by show w.heap.size ≤ w.heap.size + 1; omega) _).setCell (by show w.heap.size ≤ w.heap.size + 1; omega) _).setCell (by show w.heap.size ≤ w.heap.size + 1; omega) _⟩
    have n9 : ¬ w6.heap.size = w.heap.size + 1 := by omega
    have n10 : ¬ w.heap.size + 1 = w6.heap.size := by omega
    subst e3
    clear P9 X9 R9 B9 o9 g9 li9 nz nz2 hO PO P7 X7 bw7 b7 b6 b3 b5 lt1
    go_wp2_with fail
    refine bodyPost_ret (v := .agg #[.slice q3 (rs.take T ++ rs.drop (T + 1)).length d3, .slice q2 hs.length d2', .int .i64 0]) (by simp [results, Try.results12, go_sem, r0, r1, r2]; omega) rfl ?_
    exact ⟨_, _, rfl, HEnd.out _ _ _ _⟩
end Go.Proofs.Ytbgpkngnlfafcaa
