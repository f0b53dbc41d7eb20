/-
  What the specification's RuleDrop answers.
  Conditions: the cells of Rules and Held hold the rules and numbers.
-/
import Derived.Test.YteehhpmmnpajmaaRows
import Derived.Test.YteehhpmmnpajmaaBytes
import Derived.Test.YteehhpmmnpajmaaSlA
import Derived.Test.YteehhpmmnpajmaaOwnS
import Derived.Test.YteehhpmmnpajmaaBxK
import Derived.Test.YteehhpmmnpajmaaStepApp
import Derived.Test.YteehhpmmnpajmaaTakesL
import Derived.Test.YteehhpmmnpajmaaFldIs
import Derived.Test.YteehhpmmnpajmaaIntK
import Derived.Test.YteehhpmmnpajmaaRulMath
import Derived.Test.YteehhpmmnpajmaaRulBlk
import Derived.Test.YteehhpmmnpajmaaPolMath
import Derived.Test.YteehhpmmnpajmaaPolIdx
import Derived.Test.YteehhpmmnpajmaaRulIdx
import Derived.Test.YteehhpmmnpajmaaPolS
import Derived.Test.YteehhpmmnpajmaaLawI
import Derived.Test.YteehhpmmnpajmaaRowOps
import Derived.Test.YteehhpmmnpajmaaDelR
import Derived.Test.YteehhpmmnpajmaaPolO
import Derived.Test.YteehhpmmnpajmaaPolAns
import Derived.Test.YteehhpmmnpajmaaPolCs
import Derived.Test.YteehhpmmnpajmaaSpecHe
import Derived.Handy
import Derived.WalkSpells
import Derived.OwnWalk
import Derived.Deep.RegionLaw
import Derived.Deep.Cut
import Derived.Deep.CutRange
namespace Go.Proofs.Yteehhpmmnpajmaa
open Go.RowKit Go.Lib
set_option linter.unusedVariables false
set_option maxRecDepth 20000

set_option maxHeartbeats 8000000 in
theorem specRuleDrop_any (p1 p2 : Option Addr) (c1 c2 : Nat) (rs : List Rul) (hs : List Int) (k f : ByteArray) (w : World) (hr : RulAt w p1 rs) (hh : IntAt w p2 hs) (n1 : rs.length ≤ 1048576) (n2 : hs.length ≤ 1048576) (m1 : rs.length ≤ c1) (m2 : hs.length ≤ c2) (hz : RulsLe rs) (hk : k.size ≤ 1048576) (hf : f.size ≤ 1048576) :
    Calls Try.prog 18 #[.agg #[.slice p1 rs.length c1, .slice p2 hs.length c2], .string k, .string f] w fun e w' => ∃ v1 v2, e = .returned (.agg #[v1, v2, .int .i64 (rdC rs hs k f)]) ∧ PolO w.heap.size (rdR rs hs k f) (rdH rs hs k f) v1 v2 w' ∧ Below w.heap.size w w' := by
  have HC : Hid (rdC rs hs k f = if 8000 < k.size ∨ 8000 < f.size then 2 else if polB rs hs = true then (if rdB rs k f = true then 0 else 6) else 1) := rfl
  have HRr : Hid (rdR rs hs k f = if rdC rs hs k f = 0 then rs.take (rdT rs k f) ++ rs.drop (rdT rs k f + 1) else []) := rfl
  have HHr : Hid (rdH rs hs k f = if rdC rs hs k f = 0 then hs else []) := rfl
  obtain ⟨W2, hW2⟩ : ∃ W2, W2 = (w.alloc (.cells #[.slice p1 rs.length c1, .slice p2 hs.length c2] 26)).alloc (.cells #[.slice none 0 0, .slice none 0 0, .int .i64 0] 32) := ⟨_, rfl⟩
  have HW2 : Hid (W2 = (w.alloc (.cells #[.slice p1 rs.length c1, .slice p2 hs.length c2] 26)).alloc (.cells #[.slice none 0 0, .slice none 0 0, .int .i64 0] 32)) := hW2
  have hs1 : (w.alloc (.cells #[.slice p1 rs.length c1, .slice p2 hs.length c2] 26)).heap.size = w.heap.size + 1 := by simp
  have HS2 : Hid (W2.heap.size = w.heap.size + 2) := by rw [hW2]; show _ = _; simp
  have K0 : Hid (Bxs W2 w.heap.size 26 #[.slice p1 rs.length c1, .slice p2 hs.length c2]) := by rw [hW2]; exact (Bxs.new _ _ _).alloc _
  have K1 : Hid (Bxs W2 (w.heap.size + 1) 32 #[.slice none 0 0, .slice none 0 0, .int .i64 0]) := by rw [hW2, ← hs1]; exact Bxs.new _ _ _
  have B2 : Hid (Below w.heap.size w W2) := by rw [hW2]; exact ((Below.refl _ _).alloc (Nat.le_refl _) _).alloc (by rw [hs1]; omega) _
  have HP : Hid (∀ x, Below W2.heap.size W2 x → x.cell? ⟨w.heap.size, 0, none⟩ = some (.slice p1 rs.length c1) ∧ x.cell? ⟨w.heap.size, 1, none⟩ = some (.slice p2 hs.length c2)) := fun x hb => (K0.out.below hb).two
  have HR : Hid (∀ x, Below W2.heap.size W2 x → x.cell? ⟨w.heap.size + 1, 0, none⟩ = some (.slice none 0 0) ∧ x.cell? ⟨w.heap.size + 1, 1, none⟩ = some (.slice none 0 0) ∧ x.cell? ⟨w.heap.size + 1, 2, none⟩ = some (.int .i64 0) ∧ x.frozen? ⟨w.heap.size + 1, 0, none⟩ = false ∧ x.frozen? ⟨w.heap.size + 1, 1, none⟩ = false ∧ x.frozen? ⟨w.heap.size + 1, 2, none⟩ = false) := fun x hb => ⟨(K1.out.below hb).cell 0, (K1.out.below hb).cell 1, (K1.out.below hb).cell 2, (K1.out.below hb).fr 0, (K1.out.below hb).fr 1, (K1.out.below hb).fr 2⟩
  have HS3 : Hid (∀ x, Below W2.heap.size W2 x → ∀ a b c : Value, Below w.heap.size w (((x.setCell ⟨w.heap.size + 1, 0, none⟩ a).setCell ⟨w.heap.size + 1, 1, none⟩ b).setCell ⟨w.heap.size + 1, 2, none⟩ c)) := fun x hb a b c => (((chainB B2.out hb).setCell (by show w.heap.size ≤ w.heap.size + 1; omega) _).setCell (by show w.heap.size ≤ w.heap.size + 1; omega) _).setCell (by show w.heap.size ≤ w.heap.size + 1; omega) _
  have HRu : Hid (RulAt W2 p1 rs) := hr.below B2.out
  have HIn : Hid (IntAt W2 p2 hs) := hh.below B2.out
  obtain ⟨x0, x1⟩ := HP.out W2 (Below.refl _ _)
  have y0 := x0
  have y1 := x1
  rw [hW2] at y0 y1
  have hQ := specPolicyRight_any p1 p2 c1 c2 rs hs W2 HRu.out HIn.out n1 n2 m1 m2 hz
  have HHe : Hid (∀ x, Below W2.heap.size W2 x → Calls Try.prog 51 #[.agg #[.slice p1 rs.length c1, .slice p2 hs.length c2], .string k, .string f] x fun e w' => e = .returned (.int .i64 (fstI (eqR k f) rs)) ∧ Below x.heap.size x w') := fun x hb => l10Of_any p1 p2 hs.length c1 c2 rs k f x (HRu.out.below hb) n1 m1
  have HCp : Hid (∀ x, Below W2.heap.size W2 x → Calls Try.prog 48 #[.agg #[.slice p1 rs.length c1, .slice p2 hs.length c2]] x fun e w' => ∃ v1 v2, e = .returned (.agg #[v1, v2]) ∧ PolO x.heap.size rs hs v1 v2 w' ∧ Below x.heap.size x w') := fun x hb => l10Copy_any p1 c1 rs p2 c2 hs x (HRu.out.below hb) (HIn.out.below hb) n1 n2 m1 m2
  have HRw : Hid (RulAt w p1 rs) := hr
  clear hW2 hs1 hr hh hz
  by_cases hb1 : 8000 < k.size
  · have e1 : rdC rs hs k f = 2 := by rw [HC.out, if_pos (.inl hb1)]
    rw [HRr.out, HHr.out, e1, if_neg (by omega), if_neg (by omega)]
    have d1 : decide (8000 < (k.size : Int)) = true := decide_eq_true (by omega)
    clear HC HRr HHr e1 hQ
    go_enter Try.func18, Try.ntmps18
    go_wp2_with fail
    rw [← HW2.out]
    refine (l10Ill_any 2 W2).mono ?_
    rintro e wi ⟨rfl, bi⟩
    obtain ⟨r0, r1, r2, f0, f1, f2⟩ := HR.out wi bi
    have HE := HS3.out wi bi (.slice none 0 0) (.slice none 0 0) (.int .i64 2)
    go_wp2_with fail
    refine bodyPost_ret (v := .agg #[.slice none 0 0, .slice none 0 0, .int .i64 2]) (by simp [results, Try.results18, go_sem, r0, r1, r2]) rfl ?_
    exact ⟨_, _, rfl, PolO.nil _ _, HE⟩
  have d1 : decide (8000 < (k.size : Int)) = false := decide_eq_false (by omega)
  by_cases hb2 : 8000 < f.size
  · have e1 : rdC rs hs k f = 2 := by rw [HC.out, if_pos (.inr hb2)]
    rw [HRr.out, HHr.out, e1, if_neg (by omega), if_neg (by omega)]
    have d2 : decide (8000 < (f.size : Int)) = true := decide_eq_true (by omega)
    clear HC HRr HHr e1 hQ
    go_enter Try.func18, Try.ntmps18
    go_wp2_with fail
    rw [← HW2.out]
    refine (l10Ill_any 2 W2).mono ?_
    rintro e wi ⟨rfl, bi⟩
    obtain ⟨r0, r1, r2, f0, f1, f2⟩ := HR.out wi bi
    have HE := HS3.out wi bi (.slice none 0 0) (.slice none 0 0) (.int .i64 2)
    go_wp2_with fail
    refine bodyPost_ret (v := .agg #[.slice none 0 0, .slice none 0 0, .int .i64 2]) (by simp [results, Try.results18, go_sem, r0, r1, r2]) rfl ?_
    exact ⟨_, _, rfl, PolO.nil _ _, HE⟩
  have d2 : decide (8000 < (f.size : Int)) = false := decide_eq_false (by omega)
  rw [if_neg (by omega)] at HC
  cases hpb : polB rs hs with
  | false =>
    have e1 : rdC rs hs k f = 1 := by rw [HC.out, hpb]; rfl
    rw [HRr.out, HHr.out, e1, if_neg (by omega), if_neg (by omega)]
    rw [hpb] at hQ
    clear HC HRr HHr e1
    go_enter Try.func18, Try.ntmps18
    go_wp2_with fail
    rw [← HW2.out]
    refine hQ.mono ?_
    rintro e w3 ⟨rfl, b3⟩
    go_wp2_with fail
    refine (l10Ill_any 1 w3).mono ?_
    rintro e wi ⟨rfl, bi⟩
    have bi := chainB b3 bi
    obtain ⟨r0, r1, r2, f0, f1, f2⟩ := HR.out wi bi
    have HE := HS3.out wi bi (.slice none 0 0) (.slice none 0 0) (.int .i64 1)
    go_wp2_with fail
    refine bodyPost_ret (v := .agg #[.slice none 0 0, .slice none 0 0, .int .i64 1]) (by simp [results, Try.results18, go_sem, r0, r1, r2]) rfl ?_
    exact ⟨_, _, rfl, PolO.nil _ _, HE⟩
  | true =>
  obtain ⟨hl6, ho1, ho2, hh6, hsz⟩ := polB_parts hpb
  rw [hpb] at hQ
  rw [if_pos hpb] at HC
  have hTn : rdT rs k f ≤ rs.length := tw_le _ _
  have HTl : Hid (rdB rs k f = true → rdT rs k f < rs.length) := fun h => there_lt h
  have HF : Hid (fstI (eqR k f) rs = if rdB rs k f = true then (rdT rs k f : Int) else -1) := fst_there (condR ho1 k f)
  cases htb : rdB rs k f with
  | false =>
    have e1 : rdC rs hs k f = 6 := by rw [HC.out, htb]; rfl
    rw [HRr.out, HHr.out, e1, if_neg (by omega), if_neg (by omega)]
    rw [HF.out, htb, if_neg (by simp)] at HHe
    generalize rdT rs k f = T at *
    clear HC HRr HHr e1 HF
    go_enter Try.func18, Try.ntmps18
    go_wp2_with fail
    rw [← HW2.out]
    refine hQ.mono ?_
    rintro e w3 ⟨rfl, b3⟩
    obtain ⟨z0, z1⟩ := HP.out w3 b3
    go_wp2_with fail
    refine (HHe.out w3 b3).mono ?_
    rintro e w5 ⟨rfl, b5⟩
    have b5 := chainB b3 b5
    go_wp2_with fail
    refine (l10Ill_any 6 w5).mono ?_
    rintro e wi ⟨rfl, bi⟩
    have bi := chainB b5 bi
    obtain ⟨r0, r1, r2, f0, f1, f2⟩ := HR.out wi bi
    have HE := HS3.out wi bi (.slice none 0 0) (.slice none 0 0) (.int .i64 6)
    go_wp2_with fail
    refine bodyPost_ret (v := .agg #[.slice none 0 0, .slice none 0 0, .int .i64 6]) (by simp [results, Try.results18, go_sem, r0, r1, r2]) rfl ?_
    exact ⟨_, _, rfl, PolO.nil _ _, HE⟩
  | true =>
    have e1 : rdC rs hs k f = 0 := by rw [HC.out, htb]; rfl
    rw [HRr.out, HHr.out, e1, if_pos rfl, if_pos rfl]
    rw [HF.out, htb, if_pos rfl] at HHe
    have hTl := HTl.out htb
    generalize rdT rs k f = T at *
    clear HC HRr HHr e1 HTl HF
    have hT0 : decide ((T : Int) < 0) = false := decide_eq_false (by omega)
    go_enter Try.func18, Try.ntmps18
    go_wp2_with fail
    rw [← HW2.out]
    refine hQ.mono ?_
    rintro e w3 ⟨rfl, b3⟩
    obtain ⟨z0, z1⟩ := HP.out w3 b3
    go_wp2_with fail
    refine (HHe.out w3 b3).mono ?_
    rintro e w5 ⟨rfl, b5⟩
    have b5 := chainB b3 b5
    obtain ⟨b, off, rfl, -⟩ := HRu.out.some_of (by omega)
    clear z0 z1
    obtain ⟨z0, z1⟩ := HP.out w5 b5
    go_wp2_with fail
    refine (HCp.out w5 b5).mono ?_
    rintro e w6 ⟨v1, v2, rfl, PO, b6⟩
    obtain ⟨q1, d1', q2, d2', rfl, rfl, l1, l2⟩ := PO.form
    obtain ⟨W7, hW7⟩ : ∃ W7, W7 = w6.alloc (.cells #[.slice q1 rs.length d1', .slice q2 hs.length d2'] 26) := ⟨_, rfl⟩
    have b7 : Below w6.heap.size w6 W7 := by rw [hW7]; exact (Below.refl _ _).alloc (Nat.le_refl _) _
    have X7 : Bxs W7 w6.heap.size 26 #[.slice q1 rs.length d1', .slice q2 hs.length d2'] := by rw [hW7]; exact Bxs.new _ _ _
    have P7 := PO.below b7
    have bw7 : Below W2.heap.size W2 W7 := chainB b5 (chainB b6 b7)
    have s6 := b6.size
    have s5 := b5.size
    have hS2 := HS2.out
    have lt1 := PO.lt
    have nz2 : some w6.heap.size ≠ (Value.slice q2 hs.length d2').ownBlock := fun e => by have := (lt1.2 _ e.symm).2; omega
    obtain ⟨i0, E⟩ := elR
    obtain ⟨W8, hW8⟩ : ∃ W8, W8 = W7.alloc (.cells #[] 28) := ⟨_, rfl⟩
    have b8 : Below W7.heap.size W7 W8 := by rw [hW8]; exact (Below.refl _ _).alloc (Nat.le_refl _) _
    have hsz7 : W7.heap.size = w6.heap.size + 1 := by rw [hW7]; simp
    have O8 : W8.ownsRow W7.heap.size 28 4 (.slice (some ⟨W7.heap.size, 0, none⟩) 0 0) 0 [] := by rw [hW8]; exact own_empty _ _ _
    have HIc : ∀ x, Below W2.heap.size W2 x → CelAt x (some ⟨b, off, none⟩) (rulRow rs) := fun x hx => (HRu.out.below hx).cel
    obtain ⟨q9, d9, w9, AP1, O9, B9⟩ := app_own E 23 b8 O8 (some ⟨b, off, none⟩) T c1 (rulRow (rs.take T)) (by rw [← rulRow_take]; exact (HIc W8 (chainB bw7 b8)).take _) (by rw [rulRow_len, List.length_take]; omega) (oneR _) (by omega) (by omega)
    rw [List.nil_append] at O9
    obtain ⟨L1, hL1⟩ : ∃ L1, L1 = 0 + T := ⟨_, rfl⟩
    rw [← hL1] at O9 AP1
    have X9 := X7.below B9
    have i90 : w9.cell? ⟨w6.heap.size, 0, none⟩ = some (.slice q1 rs.length d1') := X9.cell 0
    have fi9 := X9.fr 0
    obtain ⟨W9, hW9⟩ : ∃ W9, W9 = w9.setCell ⟨w6.heap.size, 0, none⟩ (.slice q9 L1 d9) := ⟨_, rfl⟩
    have HW9 : Hid (W9 = w9.setCell ⟨w6.heap.size, 0, none⟩ (.slice q9 L1 d9)) := hW9
    have XW9 : Bxs W9 w6.heap.size 26 #[.slice q9 L1 d9, .slice q2 hs.length d2'] := by rw [hW9]; exact X9.set 0 _
    have nz9 : some w6.heap.size ≠ (Value.slice q9 L1 d9).ownBlock := fun e => by have := (O9.lt _ e.symm).1; omega
    have OW9 : W9.ownsRow W7.heap.size 28 4 (.slice q9 L1 d9) L1 (rulRow (rs.take T)) := by rw [hW9]; exact own_setO O9 _ _ nz9 _
    have o9' : w9.ownsRow W7.heap.size 28 4 (.slice q9 L1 d9) (rs.take T).length (rulRow (rs.take T)) := by
      have e : (rs.take T).length = L1 := by rw [List.length_take]; omega
      rw [e]; exact O9
    have P9 : PolO w5.heap.size (rs.take T) hs (.slice q9 L1 d9) (.slice q2 hs.length d2') W9 := by rw [hW9]; exact (P7.put1 B9 o9' (by omega)).setN nz9 nz2 0 _
    have RW9 : Bxs W9 (w.heap.size + 1) 32 #[.slice none 0 0, .slice none 0 0, .int .i64 0] := by rw [hW9]; exact ((K1.out.below bw7).below B9).other _ _ (by omega) _
    have PW9 : Bxs W9 w.heap.size 26 #[.slice (some ⟨b, off, none⟩) rs.length c1, .slice p2 hs.length c2] := by rw [hW9]; exact ((K0.out.below bw7).below B9).other _ _ (by omega) _
    have BW9 : Below w.heap.size w W9 := by rw [hW9]; exact (chainB (chainB B2.out bw7) B9).setCell (by show w.heap.size ≤ w6.heap.size; omega) _
    have HIc : ∀ x, Below w.heap.size w x → CelAt x (some ⟨b, off, none⟩) (rulRow rs) := fun x hx => (HRw.out.below hx).cel
    have y6 : W8.cell? ⟨w.heap.size, 0, none⟩ = some (.slice (some ⟨b, off, none⟩) rs.length c1) := (HP.out W8 (chainB bw7 b8)).1
    rw [hsz7, hW8, hW7] at AP1
    rw [hW8, hW7] at y6
    have kc : T ≤ c1 := by omega
    have hsz7' : W7.heap.size = w6.heap.size + 1 := hsz7
    obtain ⟨J, hJ⟩ : ∃ J, J = T + 1 := ⟨_, rfl⟩
    have hJn : (J : Int) ≤ (rs.length : Int) := by omega
    have hJw : IntKind.i64.wrap ((T : Int) + 1) = (J : Int) := by rw [IntKind.wrap_i64]; omega
    have hTl' := hTl
    clear hW7 hW8 hW9 o9' nz9 O8
    by_cases hq : c1 = J
    · subst hq
      obtain ⟨vC, wC, AP3, OC, gC, liC⟩ := app_cel E 23 W9.drew w5.heap.size (.slice q9 L1 d9) (rs.take T).length (rulRow (rs.take T)) (show W9.drew.ownsRow _ _ _ _ _ _ from P9.own1) (some ⟨b, off, none⟩) 0 0 (rulRow (rs.drop (T + 1))) (fun j hj => by rw [rulRow_len, List.length_drop] at hj; omega) (by rw [rulRow_len, List.length_drop]; omega) (oneR _) (by rw [List.length_take]; omega) (by rw [List.length_take]; unfold maxLen; omega) (by rw [szD]; have := XW9.lt; omega)
      obtain ⟨qC, dC, rfl, -⟩ := own_form OC
      obtain ⟨L3, hL3⟩ : ∃ L3, L3 = (rs.take T).length + 0 := ⟨_, rfl⟩
      rw [← hL3] at OC AP3 liC
      rw [← rulRow_append] at OC
      have hLe : (rs.take T ++ rs.drop (T + 1)).length = L3 := by rw [hL3]; simp only [List.length_append, List.length_take, List.length_drop]; omega
      have OC : wC.ownsRow w5.heap.size 28 4 (.slice qC L3 dC) (rs.take T ++ rs.drop (T + 1)).length (rulRow (rs.take T ++ rs.drop (T + 1))) := by rw [hLe]; exact OC
      have PC := (show PolO w5.heap.size (rs.take T) hs (.slice q9 L1 d9) (.slice q2 hs.length d2') W9.drew from ⟨P9.own1, P9.own2, P9.ne⟩).new1 gC OC liC
      have nq : ∀ g, g < W7.heap.size → some g ≠ (Value.slice q9 L1 d9).ownBlock := fun g hg e => by have := (O9.lt _ e.symm).1; omega
      have XC := (show Bxs W9.drew w6.heap.size 26 #[.slice q9 L1 d9, .slice q2 hs.length d2'] from XW9).grown gC (nq _ (by omega))
      have RC := (show Bxs W9.drew (w.heap.size + 1) 32 #[.slice none 0 0, .slice none 0 0, .int .i64 0] from RW9).grown gC (nq _ (by omega))
      have QC := (show Bxs W9.drew w.heap.size 26 #[.slice (some ⟨b, off, none⟩) rs.length c1, .slice p2 hs.length c2] from PW9).grown gC (nq _ (by omega))
      have BCw : Below w.heap.size w wC := (BW9.drew).grown gC (by rw [szD]; have := XW9.lt; omega) (fun j hj => by have := (O9.lt _ hj).1; omega)
      have iC0 : wC.cell? ⟨w6.heap.size, 0, none⟩ = some (.slice q9 L1 d9) := XC.cell 0
      have iC1 : wC.cell? ⟨w6.heap.size, 1, none⟩ = some (.slice q2 hs.length d2') := XC.cell 1
      have iCp : wC.cell? ⟨w.heap.size, 0, none⟩ = some (.slice (some ⟨b, off, none⟩) rs.length c1) := QC.cell 0
      have fi := XC.fr 0
      have r0 : wC.cell? ⟨w.heap.size + 1, 0, none⟩ = some (.slice none 0 0) := RC.cell 0
      have r1 : wC.cell? ⟨w.heap.size + 1, 1, none⟩ = some (.slice none 0 0) := RC.cell 1
      have r2 : wC.cell? ⟨w.heap.size + 1, 2, none⟩ = some (.int .i64 0) := RC.cell 2
      have f0 := RC.fr 0
      have f1 := RC.fr 1
      have f2 := RC.fr 2
      have nz : some w6.heap.size ≠ (Value.slice qC L3 dC).ownBlock := fun e => by
        rcases liC _ e.symm with q | q
        · exact nq _ (by omega) q.symm
        · rw [szD] at q; have := XW9.lt; omega
      have HEnd : Hid (∀ a b c d : Value, PolO w.heap.size (rs.take T ++ rs.drop (T + 1)) hs (.slice qC L3 dC) (.slice q2 hs.length d2') ((((wC.setCell ⟨w6.heap.size, 0, none⟩ a).setCell ⟨w.heap.size + 1, 0, none⟩ b).setCell ⟨w.heap.size + 1, 1, none⟩ c).setCell ⟨w.heap.size + 1, 2, none⟩ d) ∧ Below w.heap.size w ((((wC.setCell ⟨w6.heap.size, 0, none⟩ a).setCell ⟨w.heap.size + 1, 0, none⟩ b).setCell ⟨w.heap.size + 1, 1, none⟩ c).setCell ⟨w.heap.size + 1, 2, none⟩ d)) := fun a b c d =>
        ⟨((((PC.setN nz nz2 0 a).set (by omega) 0 b).set (by omega) 1 c).set (by omega) 2 d).lower (by omega), (((BCw.setCell (by show w.heap.size ≤ w6.heap.size; omega) _).setCell (by show w.heap.size ≤ w.heap.size + 1; omega) _).setCell (by show w.heap.size ≤ w.heap.size + 1; omega) _).setCell (by show w.heap.size ≤ w.heap.size + 1; omega) _⟩
      have n9 : ¬ w6.heap.size = w.heap.size + 1 := by omega
      have n10 : ¬ w.heap.size + 1 = w6.heap.size := by omega
      have iZ : W9.drew.cell? ⟨w6.heap.size, 0, none⟩ = some (.slice q9 L1 d9) := XW9.cell 0
      have iP : W9.drew.cell? ⟨w.heap.size, 0, none⟩ = some (.slice (some ⟨b, off, none⟩) rs.length c1) := PW9.cell 0
      clear PC OC RC XC QC BCw nz hL1 hL3 hLe hsz7 hsz7' gC liC nq O9 P9 XW9 RW9 PW9 BW9 HIc lt1 P7 X7 X9 E B9 bw7 b8 b7 b6 PO hTl'
      clear hJ
      go_upto_region 10 with (at_builtin; refine wpList_app rfl (.tmp 31) (.tmp 35) 23 23 rfl _ _ _ _ rfl rfl AP1 ?_)
      rw [← HW9.out]
      refine region_till (fun w' => w'.cell? ⟨w6.heap.size, 0, none⟩ = some (.slice q9 L1 d9) ∧ w'.cell? ⟨w.heap.size, 0, none⟩ = some (.slice (some ⟨b, off, none⟩) rs.length c1)) 9 (by kernel_rfl) ⟨iZ, iP⟩ (fun hHeld => ?_)
      refine till_take 0 (v := ?_) rfl (by kernel_rfl) (by kernel_rfl) (by kernel_rfl) (by kernel_rfl) (fun _ _ _ h => h) hHeld (Or.inl ⟨by rfl, ?_⟩) ?_
      rotate_left
      · (intro w hSw; (try dsimp only at hSw); go_simp; try with_reducible rfl)
      simp only [Act.put, List.setIfInBounds_toArray, List.set_cons_zero, List.set_cons_succ]
      refine till_take 1 (v := ?_) rfl (by kernel_rfl) (by kernel_rfl) (by kernel_rfl) (by kernel_rfl) (fun _ _ _ h => h) hHeld (Or.inl ⟨by rfl, ?_⟩) ?_
      rotate_left
      · (intro w hSw; (try dsimp only at hSw); go_simp; try with_reducible rfl)
      simp only [Act.put, List.setIfInBounds_toArray, List.set_cons_zero, List.set_cons_succ]
      refine till_take 2 (v := ?_) rfl (by kernel_rfl) (by kernel_rfl) (by kernel_rfl) (by kernel_rfl) (fun _ _ _ h => h) hHeld (Or.inl ⟨by rfl, ?_⟩) ?_
      rotate_left
      · (intro w hSw; (try dsimp only at hSw); go_simp; try with_reducible rfl)
      simp only [Act.put, List.setIfInBounds_toArray, List.set_cons_zero, List.set_cons_succ]
      refine till_take 3 (v := ?_) rfl (by kernel_rfl) (by kernel_rfl) (by kernel_rfl) (by kernel_rfl) (fun _ _ _ h => h) hHeld (Or.inl ⟨by rfl, ?_⟩) ?_
      rotate_left
      · (intro w hSw; (try dsimp only at hSw); go_simp; try with_reducible rfl)
      simp only [Act.put, List.setIfInBounds_toArray, List.set_cons_zero, List.set_cons_succ]
      refine till_take 4 (v := ?_) rfl (by kernel_rfl) (by kernel_rfl) (by kernel_rfl) (by kernel_rfl) (fun _ _ _ h => h) hHeld (Or.inl ⟨by rfl, ?_⟩) ?_
      rotate_left
      · (intro w hSw; (try dsimp only at hSw); go_simp; try with_reducible rfl)
      simp only [Act.put, List.setIfInBounds_toArray, List.set_cons_zero, List.set_cons_succ]
      refine till_take 5 (v := ?_) rfl (by kernel_rfl) (by kernel_rfl) (by kernel_rfl) (by kernel_rfl) (fun _ _ _ h => h) hHeld (Or.inl ⟨by rfl, ?_⟩) ?_
      rotate_left
      · (intro w hSw; (try dsimp only at hSw); go_simp; try with_reducible rfl)
      simp only [Act.put, List.setIfInBounds_toArray, List.set_cons_zero, List.set_cons_succ]
      refine till_take 6 (v := ?_) rfl (by kernel_rfl) (by kernel_rfl) (by kernel_rfl) (by kernel_rfl) (fun _ _ _ h => h) hHeld (Or.inl ⟨by rfl, ?_⟩) ?_
      rotate_left
      · (intro w hSw; (try dsimp only at hSw); go_simp; try with_reducible rfl)
      simp only [Act.put, List.setIfInBounds_toArray, List.set_cons_zero, List.set_cons_succ]
      refine till_ready 7 rfl (by kernel_rfl) (fun K hK => ?_)
      refine step_append_run rfl (.tmp 39) (.tmp 44) 23 rfl (.slice q9 L1 d9) (.slice (some ⟨b, off, none⟩) 0 0) _ _ rfl rfl AP3 ?_
      refine hK.out _ _ (⟨iC0, iCp⟩) (fun hHeld => ?_)
      clear hK K
      try simp only [Act.put, List.setIfInBounds_toArray, List.set_cons_zero, List.set_cons_succ]
      refine till_take 8 (v := ?_) rfl (by kernel_rfl) (by kernel_rfl) (by kernel_rfl) (by kernel_rfl) (fun _ _ _ h => h) hHeld (Or.inl ⟨by rfl, ?_⟩) ?_
      rotate_left
      · (intro w hSw; (try dsimp only at hSw); go_simp; try with_reducible rfl)
      simp only [Act.put, List.setIfInBounds_toArray, List.set_cons_zero, List.set_cons_succ]
      refine till_last rfl (by kernel_rfl) (by kernel_rfl) (fun K hK => ?_)
      go_simp
      refine hK.out _ _ ?_
      clear hK K hHeld
      go_wp2_with fail
      refine bodyPost_ret (v := .agg #[.slice qC L3 dC, .slice q2 hs.length d2', .int .i64 0]) (by simp [results, Try.results18, go_sem, r0, r1, r2]) rfl ?_
      exact ⟨_, _, rfl, HEnd.out _ _ _ _⟩
    · have HJ : Hid (J = T + 1) := hJ
      obtain ⟨vC, wC, AP3, OC, gC, liC⟩ := app_cel E 23 W9.drew w5.heap.size (.slice q9 L1 d9) (rs.take T).length (rulRow (rs.take T)) (show W9.drew.ownsRow _ _ _ _ _ _ from P9.own1) (some ⟨b, off + J * 4, none⟩) (rs.length - J) (c1 - J) (rulRow (rs.drop (T + 1))) (by rw [← rulRow_drop, show J * 4 = (T + 1) * 4 by omega]; exact (HIc W9.drew BW9.drew).drop _) (by rw [rulRow_len, List.length_drop]; omega) (oneR _) (by rw [List.length_take]; omega) (by rw [List.length_take]; unfold maxLen; omega) (by rw [szD]; have := XW9.lt; omega)
      obtain ⟨qC, dC, rfl, -⟩ := own_form OC
      obtain ⟨L3, hL3⟩ : ∃ L3, L3 = (rs.take T).length + (rs.length - J) := ⟨_, rfl⟩
      rw [← hL3] at OC AP3 liC
      rw [← rulRow_append] at OC
      have hLe : (rs.take T ++ rs.drop (T + 1)).length = L3 := by rw [hL3]; simp only [List.length_append, List.length_take, List.length_drop]; omega
      have OC : wC.ownsRow w5.heap.size 28 4 (.slice qC L3 dC) (rs.take T ++ rs.drop (T + 1)).length (rulRow (rs.take T ++ rs.drop (T + 1))) := by rw [hLe]; exact OC
      have PC := (show PolO w5.heap.size (rs.take T) hs (.slice q9 L1 d9) (.slice q2 hs.length d2') W9.drew from ⟨P9.own1, P9.own2, P9.ne⟩).new1 gC OC liC
      have nq : ∀ g, g < W7.heap.size → some g ≠ (Value.slice q9 L1 d9).ownBlock := fun g hg e => by have := (O9.lt _ e.symm).1; omega
      have XC := (show Bxs W9.drew w6.heap.size 26 #[.slice q9 L1 d9, .slice q2 hs.length d2'] from XW9).grown gC (nq _ (by omega))
      have RC := (show Bxs W9.drew (w.heap.size + 1) 32 #[.slice none 0 0, .slice none 0 0, .int .i64 0] from RW9).grown gC (nq _ (by omega))
      have QC := (show Bxs W9.drew w.heap.size 26 #[.slice (some ⟨b, off, none⟩) rs.length c1, .slice p2 hs.length c2] from PW9).grown gC (nq _ (by omega))
      have BCw : Below w.heap.size w wC := (BW9.drew).grown gC (by rw [szD]; have := XW9.lt; omega) (fun j hj => by have := (O9.lt _ hj).1; omega)
      have iC0 : wC.cell? ⟨w6.heap.size, 0, none⟩ = some (.slice q9 L1 d9) := XC.cell 0
      have iC1 : wC.cell? ⟨w6.heap.size, 1, none⟩ = some (.slice q2 hs.length d2') := XC.cell 1
      have iCp : wC.cell? ⟨w.heap.size, 0, none⟩ = some (.slice (some ⟨b, off, none⟩) rs.length c1) := QC.cell 0
      have fi := XC.fr 0
      have r0 : wC.cell? ⟨w.heap.size + 1, 0, none⟩ = some (.slice none 0 0) := RC.cell 0
      have r1 : wC.cell? ⟨w.heap.size + 1, 1, none⟩ = some (.slice none 0 0) := RC.cell 1
      have r2 : wC.cell? ⟨w.heap.size + 1, 2, none⟩ = some (.int .i64 0) := RC.cell 2
      have f0 := RC.fr 0
      have f1 := RC.fr 1
      have f2 := RC.fr 2
      have nz : some w6.heap.size ≠ (Value.slice qC L3 dC).ownBlock := fun e => by
        rcases liC _ e.symm with q | q
        · exact nq _ (by omega) q.symm
        · rw [szD] at q; have := XW9.lt; omega
      have HEnd : Hid (∀ a b c d : Value, PolO w.heap.size (rs.take T ++ rs.drop (T + 1)) hs (.slice qC L3 dC) (.slice q2 hs.length d2') ((((wC.setCell ⟨w6.heap.size, 0, none⟩ a).setCell ⟨w.heap.size + 1, 0, none⟩ b).setCell ⟨w.heap.size + 1, 1, none⟩ c).setCell ⟨w.heap.size + 1, 2, none⟩ d) ∧ Below w.heap.size w ((((wC.setCell ⟨w6.heap.size, 0, none⟩ a).setCell ⟨w.heap.size + 1, 0, none⟩ b).setCell ⟨w.heap.size + 1, 1, none⟩ c).setCell ⟨w.heap.size + 1, 2, none⟩ d)) := fun a b c d =>
        ⟨((((PC.setN nz nz2 0 a).set (by omega) 0 b).set (by omega) 1 c).set (by omega) 2 d).lower (by omega), (((BCw.setCell (by show w.heap.size ≤ w6.heap.size; omega) _).setCell (by show w.heap.size ≤ w.heap.size + 1; omega) _).setCell (by show w.heap.size ≤ w.heap.size + 1; omega) _).setCell (by show w.heap.size ≤ w.heap.size + 1; omega) _⟩
      have n9 : ¬ w6.heap.size = w.heap.size + 1 := by omega
      have n10 : ¬ w.heap.size + 1 = w6.heap.size := by omega
      have iZ : W9.drew.cell? ⟨w6.heap.size, 0, none⟩ = some (.slice q9 L1 d9) := XW9.cell 0
      have iP : W9.drew.cell? ⟨w.heap.size, 0, none⟩ = some (.slice (some ⟨b, off, none⟩) rs.length c1) := PW9.cell 0
      clear PC OC RC XC QC BCw nz hL1 hL3 hLe hsz7 hsz7' gC liC nq O9 P9 XW9 RW9 PW9 BW9 HIc lt1 P7 X7 X9 E B9 bw7 b8 b7 b6 PO hTl'
      clear hJ
      go_upto_region 10 with (at_builtin; refine wpList_app rfl (.tmp 31) (.tmp 35) 23 23 rfl _ _ _ _ rfl rfl AP1 ?_)
      rw [← HW9.out]
      refine region_till (fun w' => w'.cell? ⟨w6.heap.size, 0, none⟩ = some (.slice q9 L1 d9) ∧ w'.cell? ⟨w.heap.size, 0, none⟩ = some (.slice (some ⟨b, off, none⟩) rs.length c1)) 9 (by kernel_rfl) ⟨iZ, iP⟩ (fun hHeld => ?_)
      refine till_take 0 (v := ?_) rfl (by kernel_rfl) (by kernel_rfl) (by kernel_rfl) (by kernel_rfl) (fun _ _ _ h => h) hHeld (Or.inl ⟨by rfl, ?_⟩) ?_
      rotate_left
      · (intro w hSw; (try dsimp only at hSw); go_simp; try with_reducible rfl)
      simp only [Act.put, List.setIfInBounds_toArray, List.set_cons_zero, List.set_cons_succ]
      refine till_take 1 (v := ?_) rfl (by kernel_rfl) (by kernel_rfl) (by kernel_rfl) (by kernel_rfl) (fun _ _ _ h => h) hHeld (Or.inl ⟨by rfl, ?_⟩) ?_
      rotate_left
      · (intro w hSw; (try dsimp only at hSw); go_simp; try with_reducible rfl)
      simp only [Act.put, List.setIfInBounds_toArray, List.set_cons_zero, List.set_cons_succ]
      refine till_take 2 (v := ?_) rfl (by kernel_rfl) (by kernel_rfl) (by kernel_rfl) (by kernel_rfl) (fun _ _ _ h => h) hHeld (Or.inl ⟨by rfl, ?_⟩) ?_
      rotate_left
      · (intro w hSw; (try dsimp only at hSw); go_simp; try with_reducible rfl)
      simp only [Act.put, List.setIfInBounds_toArray, List.set_cons_zero, List.set_cons_succ]
      refine till_take 3 (v := ?_) rfl (by kernel_rfl) (by kernel_rfl) (by kernel_rfl) (by kernel_rfl) (fun _ _ _ h => h) hHeld (Or.inl ⟨by rfl, ?_⟩) ?_
      rotate_left
      · (intro w hSw; (try dsimp only at hSw); go_simp; try with_reducible rfl)
      simp only [Act.put, List.setIfInBounds_toArray, List.set_cons_zero, List.set_cons_succ]
      refine till_take 4 (v := ?_) rfl (by kernel_rfl) (by kernel_rfl) (by kernel_rfl) (by kernel_rfl) (fun _ _ _ h => h) hHeld (Or.inl ⟨by rfl, ?_⟩) ?_
      rotate_left
      · (intro w hSw; (try dsimp only at hSw); go_simp; try with_reducible rfl)
      simp only [Act.put, List.setIfInBounds_toArray, List.set_cons_zero, List.set_cons_succ]
      refine till_take 5 (v := ?_) rfl (by kernel_rfl) (by kernel_rfl) (by kernel_rfl) (by kernel_rfl) (fun _ _ _ h => h) hHeld (Or.inl ⟨by rfl, ?_⟩) ?_
      rotate_left
      · (intro w hSw; (try dsimp only at hSw); go_simp; try with_reducible rfl)
      simp only [Act.put, List.setIfInBounds_toArray, List.set_cons_zero, List.set_cons_succ]
      refine till_take 6 (v := ?_) rfl (by kernel_rfl) (by kernel_rfl) (by kernel_rfl) (by kernel_rfl) (fun _ _ _ h => h) hHeld (Or.inl ⟨by rfl, ?_⟩) ?_
      rotate_left
      · (intro w hSw; (try dsimp only at hSw); go_simp; try with_reducible rfl)
      simp only [Act.put, List.setIfInBounds_toArray, List.set_cons_zero, List.set_cons_succ]
      refine till_ready 7 rfl (by kernel_rfl) (fun K hK => ?_)
      refine step_append_run rfl (.tmp 39) (.tmp 44) 23 rfl (.slice q9 L1 d9) (.slice (some ⟨b, off + J * 4, none⟩) (rs.length - J) (c1 - J)) _ _ rfl rfl AP3 ?_
      refine hK.out _ _ (⟨iC0, iCp⟩) (fun hHeld => ?_)
      clear hK K
      try simp only [Act.put, List.setIfInBounds_toArray, List.set_cons_zero, List.set_cons_succ]
      refine till_take 8 (v := ?_) rfl (by kernel_rfl) (by kernel_rfl) (by kernel_rfl) (by kernel_rfl) (fun _ _ _ h => h) hHeld (Or.inl ⟨by rfl, ?_⟩) ?_
      rotate_left
      · (intro w hSw; (try dsimp only at hSw); go_simp; try with_reducible rfl)
      simp only [Act.put, List.setIfInBounds_toArray, List.set_cons_zero, List.set_cons_succ]
      refine till_last rfl (by kernel_rfl) (by kernel_rfl) (fun K hK => ?_)
      go_simp
      refine hK.out _ _ ?_
      clear hK K hHeld
      go_wp2_with fail
      refine bodyPost_ret (v := .agg #[.slice qC L3 dC, .slice q2 hs.length d2', .int .i64 0]) (by simp [results, Try.results18, go_sem, r0, r1, r2]) rfl ?_
      exact ⟨_, _, rfl, HEnd.out _ _ _ _⟩
end Go.Proofs.Yteehhpmmnpajmaa
