/-
  What the program's Hold and Free answer.
  Conditions: the cells of Rules and Held hold the rules and numbers.
-/
import Derived.Test.YteehhpmmnpajmaaRows
import Derived.Test.YteehhpmmnpajmaaBytes
import Derived.Test.YteehhpmmnpajmaaSlA
import Derived.Test.YteehhpmmnpajmaaOwnS
import Derived.Test.YteehhpmmnpajmaaBxK
import Derived.Test.YteehhpmmnpajmaaIntK
import Derived.Test.YteehhpmmnpajmaaRulMath
import Derived.Test.YteehhpmmnpajmaaRulBlk
import Derived.Test.YteehhpmmnpajmaaPolMath
import Derived.Test.YteehhpmmnpajmaaPolIdx
import Derived.Test.YteehhpmmnpajmaaRulI
import Derived.Test.YteehhpmmnpajmaaPolI
import Derived.Test.YteehhpmmnpajmaaSrchI
import Derived.Test.YteehhpmmnpajmaaLawI
import Derived.Test.YteehhpmmnpajmaaRowOps
import Derived.Test.YteehhpmmnpajmaaDelI
import Derived.Test.YteehhpmmnpajmaaInsI
import Derived.Test.YteehhpmmnpajmaaPolO
import Derived.Test.YteehhpmmnpajmaaPolCp
import Derived.Test.YteehhpmmnpajmaaPolAns
import Derived.Handy
import Derived.WalkSpells
import Derived.OwnWalk
namespace Go.Proofs.Yteehhpmmnpajmaa
open Go.RowKit Go.Lib
set_option linter.unusedVariables false
set_option maxRecDepth 20000

set_option maxHeartbeats 4000000 in
theorem implFree_any (p1 p2 : Option Addr) (c1 c2 : Nat) (rs : List Rul) (hs : List Int) (r : Int) (w : World) (hr : RulAt w p1 rs) (hh : IntAt w p2 hs) (n1 : rs.length ≤ 1048576) (n2 : hs.length ≤ 1048576) (m1 : rs.length ≤ c1) (m2 : hs.length ≤ c2) (hz : RulsLe rs) :
    Calls Try.prog 20 #[.agg #[.slice p1 rs.length c1, .slice p2 hs.length c2], .int .i64 r] w fun e w' => ∃ v1 v2, e = .returned (.agg #[v1, v2, .int .i64 (frC rs hs r)]) ∧ PolO w.heap.size (frR rs hs r) (frH rs hs r) v1 v2 w' ∧ Below w.heap.size w w' := by
  have HC : Hid (frC rs hs r = if polB rs hs = true ∧ heB r = true then (if hoB hs r = true then 0 else 6) else 1) := rfl
  have HRr : Hid (frR rs hs r = if frC rs hs r = 0 then rs else []) := rfl
  have HHr : Hid (frH rs hs r = if frC rs hs r = 0 then hs.take (hoT hs r) ++ hs.drop (hoT hs r + 1) else []) := rfl
  obtain ⟨W2, hW2⟩ : ∃ W2, W2 = (w.alloc (.cells #[.slice p1 rs.length c1, .slice p2 hs.length c2] 26)).alloc (.cells #[.slice none 0 0, .slice none 0 0, .int .i64 0] 32) := ⟨_, rfl⟩
  have HW2 : Hid (W2 = (w.alloc (.cells #[.slice p1 rs.length c1, .slice p2 hs.length c2] 26)).alloc (.cells #[.slice none 0 0, .slice none 0 0, .int .i64 0] 32)) := hW2
  have hs1 : (w.alloc (.cells #[.slice p1 rs.length c1, .slice p2 hs.length c2] 26)).heap.size = w.heap.size + 1 := by simp
  have HS2 : Hid (W2.heap.size = w.heap.size + 2) := by rw [hW2]; show _ = _; simp
  have K0 : Hid (Bxs W2 w.heap.size 26 #[.slice p1 rs.length c1, .slice p2 hs.length c2]) := by rw [hW2]; exact (Bxs.new _ _ _).alloc _
  have K1 : Hid (Bxs W2 (w.heap.size + 1) 32 #[.slice none 0 0, .slice none 0 0, .int .i64 0]) := by rw [hW2, ← hs1]; exact Bxs.new _ _ _
  have B2 : Hid (Below w.heap.size w W2) := by rw [hW2]; exact ((Below.refl _ _).alloc (Nat.le_refl _) _).alloc (by rw [hs1]; omega) _
  have HP : Hid (∀ x, Below W2.heap.size W2 x → x.cell? ⟨w.heap.size, 0, none⟩ = some (.slice p1 rs.length c1) ∧ x.cell? ⟨w.heap.size, 1, none⟩ = some (.slice p2 hs.length c2)) := fun x hb => (K0.out.below hb).two
  have HR : Hid (∀ x, Below W2.heap.size W2 x → x.cell? ⟨w.heap.size + 1, 0, none⟩ = some (.slice none 0 0) ∧ x.cell? ⟨w.heap.size + 1, 1, none⟩ = some (.slice none 0 0) ∧ x.cell? ⟨w.heap.size + 1, 2, none⟩ = some (.int .i64 0) ∧ x.frozen? ⟨w.heap.size + 1, 0, none⟩ = false ∧ x.frozen? ⟨w.heap.size + 1, 1, none⟩ = false ∧ x.frozen? ⟨w.heap.size + 1, 2, none⟩ = false) := fun x hb => ⟨(K1.out.below hb).cell 0, (K1.out.below hb).cell 1, (K1.out.below hb).cell 2, (K1.out.below hb).fr 0, (K1.out.below hb).fr 1, (K1.out.below hb).fr 2⟩
  have HS3 : Hid (∀ x, Below W2.heap.size W2 x → ∀ a b c : Value, Below w.heap.size w (((x.setCell ⟨w.heap.size + 1, 0, none⟩ a).setCell ⟨w.heap.size + 1, 1, none⟩ b).setCell ⟨w.heap.size + 1, 2, none⟩ c)) := fun x hb a b c => (((chainB B2.out hb).setCell (by show w.heap.size ≤ w.heap.size + 1; omega) _).setCell (by show w.heap.size ≤ w.heap.size + 1; omega) _).setCell (by show w.heap.size ≤ w.heap.size + 1; omega) _
  have HRu : Hid (RulAt W2 p1 rs) := hr.below B2.out
  have HIn : Hid (IntAt W2 p2 hs) := hh.below B2.out
  obtain ⟨x0, x1⟩ := HP.out W2 (Below.refl _ _)
  have y0 := x0
  have y1 := x1
  rw [hW2] at y0 y1
  have hQ := implPolicyRight_any p1 p2 c1 c2 rs hs W2 HRu.out HIn.out n1 n2 m1 m2 hz
  have HK : Hid (∀ x, Calls Try.prog 43 #[.int .i64 r] x fun e w' => e = .returned (.bool (heB r)) ∧ w' = x) := fun x => heldRowRight_any r x
  clear hW2 hs1 hr hh K0 hz
  cases hpb : polB rs hs with
  | false =>
    have e1 : frC rs hs r = 1 := by rw [HC.out, if_neg (by rw [hpb]; simp)]
    rw [HRr.out, HHr.out, e1, if_neg (by omega), if_neg (by omega)]
    rw [hpb] at hQ
    clear HC HRr HHr e1
    go_enter Try.func20, Try.ntmps20
    go_wp2_with fail
    rw [← HW2.out]
    refine hQ.mono ?_
    rintro e w3 ⟨rfl, b3⟩
    obtain ⟨r0, r1, r2, f0, f1, f2⟩ := HR.out w3 b3
    have HE := HS3.out w3 b3 (.slice none 0 0) (.slice none 0 0) (.int .i64 1)
    go_wp2_with fail
    refine bodyPost_ret (v := .agg #[.slice none 0 0, .slice none 0 0, .int .i64 1]) (by simp [results, Try.results20, go_sem, r0, r1, r2]) rfl ?_
    exact ⟨_, _, rfl, PolO.nil _ _, HE⟩
  | true =>
  obtain ⟨hl6, ho1, ho2, hh6, hsz⟩ := polB_parts hpb
  rw [hpb] at hQ
  cases hhb : heB r with
  | false =>
    have e1 : frC rs hs r = 1 := by rw [HC.out, if_neg (by rw [hhb]; simp)]
    rw [HRr.out, HHr.out, e1, if_neg (by omega), if_neg (by omega)]
    rw [hhb] at HK
    clear HC HRr HHr e1
    go_enter Try.func20, Try.ntmps20
    go_wp2_with fail
    rw [← HW2.out]
    refine hQ.mono ?_
    rintro e w3 ⟨rfl, b3⟩
    go_wp2_with fail
    refine (HK.out w3).mono ?_
    rintro e w4 ⟨rfl, rfl⟩
    obtain ⟨r0, r1, r2, f0, f1, f2⟩ := HR.out w4 b3
    have HE := HS3.out w4 b3 (.slice none 0 0) (.slice none 0 0) (.int .i64 1)
    go_wp2_with fail
    refine bodyPost_ret (v := .agg #[.slice none 0 0, .slice none 0 0, .int .i64 1]) (by simp [results, Try.results20, go_sem, r0, r1, r2]) rfl ?_
    exact ⟨_, _, rfl, PolO.nil _ _, HE⟩
  | true =>
  rw [hhb] at HK
  rw [if_pos (show polB rs hs = true ∧ heB r = true from ⟨hpb, hhb⟩)] at HC
  have HSr : Hid (∀ x, Below W2.heap.size W2 x → Calls Try.prog 44 #[.slice p2 hs.length c2, .int .i64 r] x fun e w' => e = .returned (.tuple #[.int .i64 (hoT hs r : Nat), .bool (hoB hs r)]) ∧ w' = x) := fun x hb => search_any p2 c2 hs r x (HIn.out.below hb) (by omega) ho2
  have HCp : Hid (∀ x, Below W2.heap.size W2 x → Calls Try.prog 38 #[.agg #[.slice p1 rs.length c1, .slice p2 hs.length c2]] x fun e w' => ∃ v1 v2, e = .returned (.agg #[v1, v2]) ∧ PolO x.heap.size rs hs v1 v2 w' ∧ Below x.heap.size x w') := fun x hb => copiedPolicy_any p1 p2 c1 c2 rs hs x (HRu.out.below hb) (HIn.out.below hb) n1 n2 m1 (fun q hq => by have := hsz q hq; omega)
  have hTn : hoT hs r ≤ hs.length := tw_le _ _
  have HTl : Hid (hoB hs r = true → hoT hs r < hs.length) := fun h => there_lt h
  cases htb : hoB hs r with
  | false =>
    have e1 : frC rs hs r = 6 := by rw [HC.out, htb]; rfl
    rw [HRr.out, HHr.out, e1, if_neg (by omega), if_neg (by omega)]
    rw [htb] at HSr
    generalize hoT hs r = T at *
    clear HC HRr HHr e1
    go_enter Try.func20, Try.ntmps20
    go_wp2_with fail
    rw [← HW2.out]
    refine hQ.mono ?_
    rintro e w3 ⟨rfl, b3⟩
    go_wp2_with fail
    refine (HK.out w3).mono ?_
    rintro e w4 ⟨rfl, rfl⟩
    obtain ⟨z0, z1⟩ := HP.out w4 b3
    go_wp2_with fail
    refine (HSr.out w4 b3).mono ?_
    rintro e w5 ⟨rfl, rfl⟩
    obtain ⟨r0, r1, r2, f0, f1, f2⟩ := HR.out w5 b3
    have HE := HS3.out w5 b3 (.slice none 0 0) (.slice none 0 0) (.int .i64 6)
    go_wp2_with fail
    refine bodyPost_ret (v := .agg #[.slice none 0 0, .slice none 0 0, .int .i64 6]) (by simp [results, Try.results20, go_sem, r0, r1, r2]) rfl ?_
    exact ⟨_, _, rfl, PolO.nil _ _, HE⟩
  | true =>
    have e1 : frC rs hs r = 0 := by rw [HC.out, htb]; rfl
    rw [HRr.out, HHr.out, e1, if_pos rfl, if_pos rfl]
    rw [htb] at HSr
    have hTl := HTl.out htb
    generalize hoT hs r = T at *
    clear HC HRr HHr e1 HTl
    go_enter Try.func20, Try.ntmps20
    go_wp2_with fail
    rw [← HW2.out]
    refine hQ.mono ?_
    rintro e w3 ⟨rfl, b3⟩
    go_wp2_with fail
    refine (HK.out w3).mono ?_
    rintro e w4 ⟨rfl, rfl⟩
    obtain ⟨z0, z1⟩ := HP.out w4 b3
    go_wp2_with fail
    refine (HSr.out w4 b3).mono ?_
    rintro e w5 ⟨rfl, rfl⟩
    go_wp2_with fail
    refine (HCp.out w5 b3).mono ?_
    rintro e w6 ⟨v1, v2, rfl, PO, b6⟩
    obtain ⟨q1, d1, q2, d2, rfl, rfl, l1, l2⟩ := PO.form
    obtain ⟨W7, hW7⟩ : ∃ W7, W7 = w6.alloc (.cells #[.slice q1 rs.length d1, .slice q2 hs.length d2] 26) := ⟨_, rfl⟩
    have HW7 : Hid (W7 = w6.alloc (.cells #[.slice q1 rs.length d1, .slice q2 hs.length d2] 26)) := hW7
    have b7 : Below w6.heap.size w6 W7 := by rw [hW7]; exact (Below.refl _ _).alloc (Nat.le_refl _) _
    have X7 : Bxs W7 w6.heap.size 26 #[.slice q1 rs.length d1, .slice q2 hs.length d2] := by rw [hW7]; exact Bxs.new _ _ _
    have P7 := PO.below b7
    have bw7 : Below W2.heap.size W2 W7 := chainB b3 (chainB b6 b7)
    have s6 := b6.size
    have s3 := b3.size
    have hS2 := HS2.out
    have lt1 := PO.lt
    obtain ⟨g2, rfl⟩ : ∃ g2, q2 = some ⟨g2, 0, none⟩ := by
      rcases PO.own2.2 with ⟨h0, h1⟩ | ⟨g2, _, _, h1, _⟩
      · omega
      · cases h1; exact ⟨g2, rfl⟩
    have hO := delI_any w5.heap.size g2 hs.length d2 T (intRow hs) W7 P7.own2 (by omega) (oneI _)
    rw [intRow_take, intRow_drop, ← intRow_app] at hO
    have x70 : W7.cell? ⟨w6.heap.size, 0, none⟩ = some (.slice q1 rs.length d1) := X7.cell 0
    have x71 : W7.cell? ⟨w6.heap.size, 1, none⟩ = some (.slice (some ⟨g2, 0, none⟩) hs.length d2) := X7.cell 1
    rw [hW7] at x70 x71
    clear hW7 
    go_wp2_with fail
    rw [← HW7.out]
    refine hO.mono ?_
    rintro e w9 ⟨rfl, o9, g9⟩
    have li9 : Lies W7 (.slice (some ⟨g2, 0, none⟩) hs.length d2) (.slice (some ⟨g2, 0, none⟩) (hs.length - 1) d2) := fun j hj => .inl hj
    have o9 : w9.ownsRow w5.heap.size 2 1 (.slice (some ⟨g2, 0, none⟩) (hs.length - 1) d2) (hs.take T ++ hs.drop (T + 1)).length (intRow (hs.take T ++ hs.drop (T + 1))) := by
      have e : (hs.take T ++ hs.drop (T + 1)).length = hs.length - 1 := by simp; omega
      rw [e]; exact o9
    have g9 : W7.grownBy w9 (Value.slice (some ⟨g2, 0, none⟩) hs.length d2).ownBlock := g9
    generalize hv2 : Value.slice (some ⟨g2, 0, none⟩) (hs.length - 1) d2 = v2' at *
    clear hv2
    have P9 : PolO w5.heap.size rs (hs.take T ++ hs.drop (T + 1)) (.slice q1 rs.length d1) v2' w9 := P7.new2 g9 o9 li9
    have nz : some w6.heap.size ≠ v2'.ownBlock := fun e => by
      rcases li9 w6.heap.size e.symm with q | q
      · have := (lt1.2 _ q).2; omega
      · have := X7.lt; omega
    have nz1 : some w6.heap.size ≠ (Value.slice q1 rs.length d1).ownBlock := fun e => by have := (lt1.1 _ e.symm).2; omega
    have X9 := X7.grown g9 (fun e => by have := (lt1.2 _ e.symm).2; omega)
    have R9 := (K1.out.below bw7).grown g9 (fun e => by have := (lt1.2 _ e.symm).1; omega)
    have B9 : Below w.heap.size w w9 := (chainB B2.out bw7).grown g9 (by have := bw7.size; omega) (fun j hj => by have := (lt1.2 _ hj).1; omega)
    obtain ⟨q3, d3, e3, -⟩ := own_form o9
    have i0 : w9.cell? ⟨w6.heap.size, 0, none⟩ = some (.slice q1 rs.length d1) := X9.cell 0
    have i1 : w9.cell? ⟨w6.heap.size, 1, none⟩ = some (.slice (some ⟨g2, 0, none⟩) hs.length d2) := X9.cell 1
    have fi := X9.fr 1
    have r0 : w9.cell? ⟨w.heap.size + 1, 0, none⟩ = some (.slice none 0 0) := R9.cell 0
    have r1 : w9.cell? ⟨w.heap.size + 1, 1, none⟩ = some (.slice none 0 0) := R9.cell 1
    have r2 : w9.cell? ⟨w.heap.size + 1, 2, none⟩ = some (.int .i64 0) := R9.cell 2
    have f0 := R9.fr 0
    have f1 := R9.fr 1
    have f2 := R9.fr 2
    have HEnd : Hid (∀ a b c d : Value, PolO w.heap.size rs (hs.take T ++ hs.drop (T + 1)) (.slice q1 rs.length d1) v2' ((((w9.setCell ⟨w6.heap.size, 1, none⟩ a).setCell ⟨w.heap.size + 1, 0, none⟩ b).setCell ⟨w.heap.size + 1, 1, none⟩ c).setCell ⟨w.heap.size + 1, 2, none⟩ d) ∧ Below w.heap.size w ((((w9.setCell ⟨w6.heap.size, 1, none⟩ a).setCell ⟨w.heap.size + 1, 0, none⟩ b).setCell ⟨w.heap.size + 1, 1, none⟩ c).setCell ⟨w.heap.size + 1, 2, none⟩ d)) := fun a b c d =>
      ⟨((((P9.setN nz1 nz 1 a).set (by omega) 0 b).set (by omega) 1 c).set (by omega) 2 d).lower (by omega), (((B9.setCell (by show w.heap.size ≤ w6.heap.size; omega) _).setCell (by show w.heap.size ≤ w.heap.size + 1; omega) _).setCell (by show w.heap.size ≤ w.heap.size + 1; omega) _).setCell (by show w.heap.size ≤ w.heap.size + 1; omega) _⟩
    have n9 : ¬ w6.heap.size = w.heap.size + 1 := by omega
    have n10 : ¬ w.heap.size + 1 = w6.heap.size := by omega
    subst e3
    clear P9 X9 R9 B9 o9 g9 li9 nz nz1 hO PO P7 X7 bw7 b7 b6 b3 lt1 
    go_wp2_with fail
    refine bodyPost_ret (v := .agg #[.slice q1 rs.length d1, .slice q3 (hs.take T ++ hs.drop (T + 1)).length d3, .int .i64 0]) (by simp [results, Try.results20, go_sem, r0, r1, r2]; omega) rfl ?_
    exact ⟨_, _, rfl, HEnd.out _ _ _ _⟩
end Go.Proofs.Yteehhpmmnpajmaa
