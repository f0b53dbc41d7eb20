/-
  Parts of one proof, laid as one text: SpecHo, SpecFe; what each says stands at its head.
-/
import Derived.Test.YtbgpkngnlfafcaaRows
import Derived.Test.YtbgpkngnlfafcaaBytes
import Derived.Test.YtbgpkngnlfafcaaSlA
import Derived.Test.YtbgpkngnlfafcaaOwnS
import Derived.Test.YtbgpkngnlfafcaaBxK
import Derived.Test.YtbgpkngnlfafcaaFldIs
import Derived.Test.YtbgpkngnlfafcaaIntK
import Derived.Test.YtbgpkngnlfafcaaRulMath
import Derived.Test.YtbgpkngnlfafcaaRulBlk
import Derived.Test.YtbgpkngnlfafcaaPolMath
import Derived.Test.YtbgpkngnlfafcaaPolIdx
import Derived.Test.YtbgpkngnlfafcaaPolS
import Derived.Test.YtbgpkngnlfafcaaLawI
import Derived.Test.YtbgpkngnlfafcaaRowOps
import Derived.Test.YtbgpkngnlfafcaaDelI
import Derived.Test.YtbgpkngnlfafcaaPolO
import Derived.Test.YtbgpkngnlfafcaaPolAns
import Derived.Test.YtbgpkngnlfafcaaSrchIInsIImplHoImplFePolCs
import Derived.Test.YtbgpkngnlfafcaaSpecHe
import Derived.Handy
import Derived.WalkSpells
import Derived.OwnWalk
/-
  What the specification's Hold answers.
  Conditions: the cells of Rules and Held hold the rules and numbers.
-/
namespace Go.Proofs.Ytbgpkngnlfafcaa
open Go.RowKit Go.Lib
set_option linter.unusedVariables false
set_option maxRecDepth 20000

set_option maxHeartbeats 4000000 in
theorem specHold_any (p1 p2 : Option Addr) (c1 c2 : Nat) (rs : List Rul) (hs : List Int) (r : Int) (w : World) (hr : RulAt w p1 rs) (hh : IntAt w p2 hs) (n1 : rs.length ≤ 1048576) (n2 : hs.length ≤ 1048576) (m1 : rs.length ≤ c1) (m2 : hs.length ≤ c2) (hz : RulsLe rs) (hA : AdOk p2 hs.length c2) :
    Calls Try.prog 14 #[.agg #[.slice p1 rs.length c1, .slice p2 hs.length c2], .int .i64 r] w fun e w' => ∃ v1 v2, e = .returned (.agg #[v1, v2, .int .i64 (hoC rs hs r)]) ∧ PolO w.heap.size (hoR rs hs r) (hoH rs hs r) v1 v2 w' ∧ Below w.heap.size w w' := by
  have HC : Hid (hoC rs hs r = if polB rs hs = true ∧ heB r = true then (if hoB hs r = true then 7 else 0) else 1) := rfl
  have HRr : Hid (hoR rs hs r = if hoC rs hs r = 0 then rs else []) := rfl
  have HHr : Hid (hoH rs hs r = if hoC rs hs r = 0 then hs.take (hoT hs r) ++ [r] ++ hs.drop (hoT hs r) else []) := rfl
  obtain ⟨W2, hW2⟩ : ∃ W2, W2 = (w.alloc (.cells #[.slice p1 rs.length c1, .slice p2 hs.length c2] 26)).alloc (.cells #[.slice none 0 0, .slice none 0 0, .int .i64 0] 32) := ⟨_, rfl⟩
  have HW2 : Hid (W2 = (w.alloc (.cells #[.slice p1 rs.length c1, .slice p2 hs.length c2] 26)).alloc (.cells #[.slice none 0 0, .slice none 0 0, .int .i64 0] 32)) := hW2
  have hs1 : (w.alloc (.cells #[.slice p1 rs.length c1, .slice p2 hs.length c2] 26)).heap.size = w.heap.size + 1 := by simp
  have HS2 : Hid (W2.heap.size = w.heap.size + 2) := by rw [hW2]; show _ = _; simp
  have K0 : Hid (Bxs W2 w.heap.size 26 #[.slice p1 rs.length c1, .slice p2 hs.length c2]) := by rw [hW2]; exact (Bxs.new _ _ _).alloc _
  have K1 : Hid (Bxs W2 (w.heap.size + 1) 32 #[.slice none 0 0, .slice none 0 0, .int .i64 0]) := by rw [hW2, ← hs1]; exact Bxs.new _ _ _
  have B2 : Hid (Below w.heap.size w W2) := by rw [hW2]; exact ((Below.refl _ _).alloc (Nat.le_refl _) _).alloc (by rw [hs1]; omega) _
  have HP : Hid (∀ x, Below W2.heap.size W2 x → x.cell? ⟨w.heap.size, 0, none⟩ = some (.slice p1 rs.length c1) ∧ x.cell? ⟨w.heap.size, 1, none⟩ = some (.slice p2 hs.length c2)) := fun x hb => (K0.out.below hb).two
  have HR : Hid (∀ x, Below W2.heap.size W2 x → x.cell? ⟨w.heap.size + 1, 0, none⟩ = some (.slice none 0 0) ∧ x.cell? ⟨w.heap.size + 1, 1, none⟩ = some (.slice none 0 0) ∧ x.cell? ⟨w.heap.size + 1, 2, none⟩ = some (.int .i64 0) ∧ x.frozen? ⟨w.heap.size + 1, 0, none⟩ = false ∧ x.frozen? ⟨w.heap.size + 1, 1, none⟩ = false ∧ x.frozen? ⟨w.heap.size + 1, 2, none⟩ = false) := fun x hb => ⟨(K1.out.below hb).cell 0, (K1.out.below hb).cell 1, (K1.out.below hb).cell 2, (K1.out.below hb).fr 0, (K1.out.below hb).fr 1, (K1.out.below hb).fr 2⟩
  have HS3 : Hid (∀ x, Below W2.heap.size W2 x → ∀ a b c : Value, Below w.heap.size w (((x.setCell ⟨w.heap.size + 1, 0, none⟩ a).setCell ⟨w.heap.size + 1, 1, none⟩ b).setCell ⟨w.heap.size + 1, 2, none⟩ c)) := fun x hb a b c => (((chainB B2.out hb).setCell (by show w.heap.size ≤ w.heap.size + 1; omega) _).setCell (by show w.heap.size ≤ w.heap.size + 1; omega) _).setCell (by show w.heap.size ≤ w.heap.size + 1; omega) _
  have HRu : Hid (RulAt W2 p1 rs) := hr.below B2.out
  have HIn : Hid (IntAt W2 p2 hs) := hh.below B2.out
  obtain ⟨x0, x1⟩ := HP.out W2 (Below.refl _ _)
  have y0 := x0
  have y1 := x1
  rw [hW2] at y0 y1
  have hQ := specPolicyRight_any p1 p2 c1 c2 rs hs W2 HRu.out HIn.out n1 n2 m1 m2 hz
  have HK : Hid (∀ x, Calls Try.prog 38 #[.int .i64 r, .int .i64 0, .int .i64 5] x fun e w' => e = .returned (.bool (heB r)) ∧ w' = x) := fun x => l07Is_any r 0 5 x
  have HHe : Hid (∀ x, Below W2.heap.size W2 x → Calls Try.prog 39 #[.agg #[.slice p1 rs.length c1, .slice p2 hs.length c2], .int .i64 r] x fun e w' => e = .returned (.int .i64 (fstI (eqI r) hs)) ∧ Below x.heap.size x w') := fun x hb => l10Held_any p1 p2 rs.length c1 c2 hs r x (HIn.out.below hb) n2 m2
  have HCp : Hid (∀ x, Below W2.heap.size W2 x → Calls Try.prog 34 #[.agg #[.slice p1 rs.length c1, .slice p2 hs.length c2]] x fun e w' => ∃ v1 v2, e = .returned (.agg #[v1, v2]) ∧ PolO x.heap.size rs hs v1 v2 w' ∧ Below x.heap.size x w') := fun x hb => l10Copy_any p1 c1 rs p2 c2 hs x (HRu.out.below hb) (HIn.out.below hb) n1 n2 m1 m2
  clear hW2 hs1 hr hh K0 hz
  cases hpb : polB rs hs with
  | false =>
    have e1 : hoC rs hs r = 1 := by rw [HC.out, if_neg (by rw [hpb]; simp)]
    rw [HRr.out, HHr.out, e1, if_neg (by omega), if_neg (by omega)]
    rw [hpb] at hQ
    clear HC HRr HHr e1
    go_enter Try.func14, Try.ntmps14
    go_wp2_with fail
    rw [← HW2.out]
    refine hQ.mono ?_
    rintro e w3 ⟨rfl, b3⟩
    go_wp2_with fail
    refine (l10Ill_any 1 w3).mono ?_
    rintro e wi ⟨rfl, bi⟩
    have bi := chainB b3 bi
    obtain ⟨r0, r1, r2, f0, f1, f2⟩ := HR.out wi bi
    have HE := HS3.out wi bi (.slice none 0 0) (.slice none 0 0) (.int .i64 1)
    go_wp2_with fail
    refine bodyPost_ret (v := .agg #[.slice none 0 0, .slice none 0 0, .int .i64 1]) (by simp [results, Try.results14, go_sem, r0, r1, r2]) rfl ?_
    exact ⟨_, _, rfl, PolO.nil _ _, HE⟩
  | true =>
  obtain ⟨hl6, ho1, ho2, hh6, hsz⟩ := polB_parts hpb
  rw [hpb] at hQ
  cases hhb : heB r with
  | false =>
    have e1 : hoC rs hs r = 1 := by rw [HC.out, if_neg (by rw [hhb]; simp)]
    rw [HRr.out, HHr.out, e1, if_neg (by omega), if_neg (by omega)]
    rw [hhb] at HK
    clear HC HRr HHr e1
    go_enter Try.func14, Try.ntmps14
    go_wp2_with fail
    rw [← HW2.out]
    refine hQ.mono ?_
    rintro e w3 ⟨rfl, b3⟩
    go_wp2_with fail
    refine (HK.out w3).mono ?_
    rintro e w4 ⟨rfl, rfl⟩
    go_wp2_with fail
    refine (l10Ill_any 1 w4).mono ?_
    rintro e wi ⟨rfl, bi⟩
    have bi := chainB b3 bi
    obtain ⟨r0, r1, r2, f0, f1, f2⟩ := HR.out wi bi
    have HE := HS3.out wi bi (.slice none 0 0) (.slice none 0 0) (.int .i64 1)
    go_wp2_with fail
    refine bodyPost_ret (v := .agg #[.slice none 0 0, .slice none 0 0, .int .i64 1]) (by simp [results, Try.results14, go_sem, r0, r1, r2]) rfl ?_
    exact ⟨_, _, rfl, PolO.nil _ _, HE⟩
  | true =>
  rw [hhb] at HK
  rw [if_pos (show polB rs hs = true ∧ heB r = true from ⟨hpb, hhb⟩)] at HC
  have hTn : hoT hs r ≤ hs.length := tw_le _ _
  have HTl : Hid (hoB hs r = true → hoT hs r < hs.length) := fun h => there_lt h
  have HT1 : Hid (∀ j (h : j < hs.length), j < hoT hs r → hs[j] < r) := fun j h hj => by have := tw_lt (ltI r) hs j hj; simpa [ltI] using this
  have HT2 : Hid (∀ h : hoT hs r < hs.length, ¬ hs[hoT hs r] < r) := fun h => by have := tw_at (ltI r) hs h; unfold ltI at this; exact of_decide_eq_false this
  have HF : Hid (fstI (eqI r) hs = if hoB hs r = true then (hoT hs r : Int) else -1) := fst_there (condI ho2 r)
  cases htb : hoB hs r with
  | true =>
    have e1 : hoC rs hs r = 7 := by rw [HC.out, htb]; rfl
    rw [HRr.out, HHr.out, e1, if_neg (by omega), if_neg (by omega)]
    rw [HF.out, htb, if_pos rfl] at HHe
    generalize hoT hs r = T at *
    clear HC HRr HHr e1 HF HT1 HT2
    have hT0 : decide (0 ≤ (T : Int)) = true := decide_eq_true (by omega)
    go_enter Try.func14, Try.ntmps14
    go_wp2_with fail
    rw [← HW2.out]
    refine hQ.mono ?_
    rintro e w3 ⟨rfl, b3⟩
    go_wp2_with fail
    refine (HK.out w3).mono ?_
    rintro e w4 ⟨rfl, rfl⟩
    obtain ⟨z0, z1⟩ := HP.out w4 b3
    go_wp2_with fail
    refine (HHe.out w4 b3).mono ?_
    rintro e w5 ⟨rfl, b5⟩
    have b5 := chainB b3 b5
    go_wp2_with fail
    refine (l10Ill_any 7 w5).mono ?_
    rintro e wi ⟨rfl, bi⟩
    have bi := chainB b5 bi
    obtain ⟨r0, r1, r2, f0, f1, f2⟩ := HR.out wi bi
    have HE := HS3.out wi bi (.slice none 0 0) (.slice none 0 0) (.int .i64 7)
    go_wp2_with fail
    refine bodyPost_ret (v := .agg #[.slice none 0 0, .slice none 0 0, .int .i64 7]) (by simp [results, Try.results14, go_sem, r0, r1, r2]) rfl ?_
    exact ⟨_, _, rfl, PolO.nil _ _, HE⟩
  | false =>
    have e1 : hoC rs hs r = 0 := by rw [HC.out, htb]; rfl
    rw [HRr.out, HHr.out, e1, if_pos rfl, if_pos rfl]
    rw [HF.out, htb, if_neg (by simp)] at HHe
    generalize hoT hs r = T at *
    clear HC HRr HHr e1 HTl HF
    go_enter Try.func14, Try.ntmps14
    go_wp2_with fail
    rw [← HW2.out]
    refine hQ.mono ?_
    rintro e w3 ⟨rfl, b3⟩
    go_wp2_with fail
    refine (HK.out w3).mono ?_
    rintro e w4 ⟨rfl, rfl⟩
    obtain ⟨z0, z1⟩ := HP.out w4 b3
    go_wp2_with fail
    refine (HHe.out w4 b3).mono ?_
    rintro e w5 ⟨rfl, b5⟩
    have b5 := chainB b3 b5
    have HB5 : Hid (Below W2.heap.size W2 w5) := b5
    clear z0 z1
    obtain ⟨z0, z1⟩ := HP.out w5 b5
    go_wp2_with fail
    go_loopw [5] (fun i wr => ∃ k : Nat, k ≤ T ∧ i = .int .i64 k ∧ Hid (wr = w5)) (fun i _ => T - (intOf i).toNat)
    case atStart => exact ⟨0, Nat.zero_le _, rfl, rfl⟩
    case round =>
    obtain ⟨k, hk, rfl, HWr⟩ := hrel
    have HWr := HWr.out
    subst HWr
    by_cases hlt : k < T
    · have i1 : (k : Int) < hs.length := by omega
      have i2 : decide ((k : Int) < hs.length) = true := decide_eq_true (by omega)
      obtain ⟨b, off, rfl, hb, hc⟩ := (HIn.out.below b5) k (by omega)
      have hx := HT1.out k (by omega) hlt
      generalize hs[k] = x at *
      have i3 : decide (x < r) = true := decide_eq_true hx
      clear hx
      go_wp2_with fail
      go_roundw
      case rel => exact ⟨k + 1, by omega, by go_num, trivial⟩
      case measure => simp [intOf]; omega
    obtain rfl : k = T := by omega
    clear z0 z1 y0 y1 x0 x1
    have b5 := HB5.out
    rcases hA with ⟨rfl, hn0, rfl⟩ | ⟨b, off, rfl⟩
    · obtain ⟨z0, z1⟩ := HP.out wr b5
      obtain rfl : hs = [] := List.length_eq_zero_iff.1 hn0
      obtain rfl : k = 0 := by simpa using hTn
      clear hn0 hTn hk hlt HT1 HT2 m2 n2
      simp only [List.length_nil] at HP HCp z1
      go_wp2_with fail
      refine (HCp.out wr b5).mono ?_
      rintro e w6 ⟨v1, v2, rfl, PO, b6⟩
      have hPf := PO.form
      rw [List.length_nil] at hPf
      obtain ⟨q1, d1, q2, d2, rfl, rfl, l1, l2⟩ := hPf
      obtain ⟨W7, hW7⟩ : ∃ W7, W7 = w6.alloc (.cells #[.slice q1 rs.length d1, .slice q2 0 d2] 26) := ⟨_, rfl⟩
      have b7 : Below w6.heap.size w6 W7 := by rw [hW7]; exact (Below.refl _ _).alloc (Nat.le_refl _) _
      have X7 : Bxs W7 w6.heap.size 26 #[.slice q1 rs.length d1, .slice q2 0 d2] := by rw [hW7]; exact Bxs.new _ _ _
      have P7 := PO.below b7
      have bw7 : Below W2.heap.size W2 W7 := chainB b5 (chainB b6 b7)
      have s6 := b6.size
      have s5 := b5.size
      have hS2 := HS2.out
      have lt1 := PO.lt
      obtain ⟨i0, E⟩ := elI
      obtain ⟨W8, hW8⟩ : ∃ W8, W8 = W7.alloc (.cells #[] 2) := ⟨_, rfl⟩
      have HW8 : Hid (W8 = (w6.alloc (.cells #[.slice q1 rs.length d1, .slice q2 0 d2] 26)).alloc (.cells #[] 2)) := by rw [hW8, hW7]; exact rfl
      have b8 : Below W7.heap.size W7 W8 := by rw [hW8]; exact (Below.refl _ _).alloc (Nat.le_refl _) _
      have hsz7 : W7.heap.size = w6.heap.size + 1 := by rw [hW7]; simp
      have O8 : W8.ownsRow W7.heap.size 2 1 (.slice (some ⟨W7.heap.size, 0, none⟩) 0 0) 0 [] := by rw [hW8]; exact own_empty _ _ _
      obtain ⟨q9, d9, w9, AP1, O9, B9⟩ := app_own E 24 b8 O8 none 0 0 (intRow ([] : List Int)) (CelAt.nil _ _) (by rw [intRow_len]; rfl) (oneI _) (by omega) (by omega)
      rw [List.nil_append] at O9
      obtain ⟨L1, hL1⟩ : ∃ L1, L1 = 0 + 0 := ⟨_, rfl⟩
      rw [← hL1] at O9 AP1
      obtain ⟨WA, hWA⟩ : ∃ WA, WA = w9.alloc (.cells #[.int .i64 r] 2) := ⟨_, rfl⟩
      have HWA : Hid (WA = w9.alloc (.cells #[.int .i64 r] 2)) := hWA
      have bA : Below w9.heap.size w9 WA := by rw [hWA]; exact (Below.refl _ _).alloc (Nat.le_refl _) _
      have VA : Bxs WA w9.heap.size 2 (intRow [r]).toArray := by rw [hWA]; exact Bxs.new _ _ _
      obtain ⟨qB, dB, wB, AP2, OB, BB⟩ := app_own E 24 (chainB B9 bA) (ownS_below O9 bA) (some ⟨w9.heap.size, 0, none⟩) 1 1 (intRow [r]) (fun j hj => by
        have e : (intRow [r]).length = 1 := rfl
        obtain rfl : j = 0 := by omega
        exact ⟨_, 0, rfl, VA.lt, by rw [VA.cell]; rfl⟩) rfl (oneI _) (by omega) (by omega)
      obtain ⟨L2, hL2⟩ : ∃ L2, L2 = L1 + 1 := ⟨_, rfl⟩
      rw [← hL2] at OB AP2
      obtain ⟨qC, dC, wC, AP3, OC, BC⟩ := app_own E 24 BB OB none 0 0 (intRow ([] : List Int)) (CelAt.nil _ _) rfl (oneI _) (by omega) (by omega)
      obtain ⟨L3, hL3⟩ : ∃ L3, L3 = L2 + 0 := ⟨_, rfl⟩
      rw [← hL3] at OC AP3
      have OC : wC.ownsRow W7.heap.size 2 1 (.slice qC L3 dC) ([r]).length (intRow ([r])) := by
        have e : ([r]).length = L3 := by simp; omega
        rw [e]; exact OC
      have PC := P7.put2 BC OC (by omega)
      have XC := X7.below BC
      have RC := K1.out.below (chainB bw7 BC)
      have BCw : Below w.heap.size w wC := chainB (chainB B2.out bw7) BC
      have nz : some w6.heap.size ≠ (Value.slice qC L3 dC).ownBlock := fun e => by have := (OC.lt _ e.symm).1; omega
      have nz1 : some w6.heap.size ≠ (Value.slice q1 rs.length d1).ownBlock := fun e => by have := (lt1.1 _ e.symm).2; omega
      have iC0 : wC.cell? ⟨w6.heap.size, 0, none⟩ = some (.slice q1 rs.length d1) := XC.cell 0
      have iC1 : wC.cell? ⟨w6.heap.size, 1, none⟩ = some (.slice q2 0 d2) := XC.cell 1
      have fi := XC.fr 1
      have r0 : wC.cell? ⟨w.heap.size + 1, 0, none⟩ = some (.slice none 0 0) := RC.cell 0
      have r1 : wC.cell? ⟨w.heap.size + 1, 1, none⟩ = some (.slice none 0 0) := RC.cell 1
      have r2 : wC.cell? ⟨w.heap.size + 1, 2, none⟩ = some (.int .i64 0) := RC.cell 2
      have f0 := RC.fr 0
      have f1 := RC.fr 1
      have f2 := RC.fr 2
      have HEnd : Hid (∀ a b c d : Value, PolO w.heap.size rs ([r]) (.slice q1 rs.length d1) (.slice qC L3 dC) ((((wC.setCell ⟨w6.heap.size, 1, none⟩ a).setCell ⟨w.heap.size + 1, 0, none⟩ b).setCell ⟨w.heap.size + 1, 1, none⟩ c).setCell ⟨w.heap.size + 1, 2, none⟩ d) ∧ Below w.heap.size w ((((wC.setCell ⟨w6.heap.size, 1, none⟩ a).setCell ⟨w.heap.size + 1, 0, none⟩ b).setCell ⟨w.heap.size + 1, 1, none⟩ c).setCell ⟨w.heap.size + 1, 2, none⟩ d)) := fun a b c d =>
        ⟨((((PC.setN nz1 nz 1 a).set (by omega) 0 b).set (by omega) 1 c).set (by omega) 2 d).lower (by omega), (((BCw.setCell (by show w.heap.size ≤ w6.heap.size; omega) _).setCell (by show w.heap.size ≤ w.heap.size + 1; omega) _).setCell (by show w.heap.size ≤ w.heap.size + 1; omega) _).setCell (by show w.heap.size ≤ w.heap.size + 1; omega) _⟩
      have n9 : ¬ w6.heap.size = w.heap.size + 1 := by omega
      have n10 : ¬ w.heap.size + 1 = w6.heap.size := by omega
      have y6 : W8.cell? ⟨w.heap.size, 1, none⟩ = some (.slice none 0 0) := (HP.out W8 (chainB bw7 b8)).2
      have y7 : w9.cell? ⟨w.heap.size, 1, none⟩ = some (.slice none 0 0) := (HP.out w9 (chainB bw7 B9)).2
      have y8 : wB.cell? ⟨w.heap.size, 1, none⟩ = some (.slice none 0 0) := (HP.out wB (chainB bw7 BB)).2
      rw [hW8, hW7] at y6
      rw [hsz7, hW8, hW7] at AP1
      rw [hWA] at AP2
      clear PC XC RC BCw nz nz1 OC BC O9 B9 O8 b8 bw7 b7 b6 P7 X7 PO lt1 E hW7 hW8 hsz7 hL1 hL3 OB BB VA bA hWA hL2 
      go_wp2_with (first | (at_builtin; refine wpList_app rfl (.tmp 40) (.tmp 44) 24 24 rfl _ _ _ _ rfl rfl AP1 ?_) | (at_builtin; refine wpList_app rfl (.tmp 46) (.tmp 48) 24 24 rfl _ _ _ _ rfl rfl AP2 ?_) | (at_builtin; refine wpList_app rfl (.tmp 50) (.tmp 54) 24 24 rfl _ _ _ _ rfl rfl AP3 ?_))
      refine bodyPost_ret (v := .agg #[.slice q1 rs.length d1, .slice qC L3 dC, .int .i64 0]) (by simp [results, Try.results14, go_sem, r0, r1, r2]) rfl ?_
      exact ⟨_, _, rfl, HEnd.out _ _ _ _⟩
    · obtain ⟨z0, z1⟩ := HP.out wr b5
      by_cases hkl : k < hs.length
      · have i1 : (k : Int) < hs.length := by omega
        have i2 : decide ((k : Int) < hs.length) = true := decide_eq_true (by omega)
        have hq : ¬ c2 = k := by omega
        have hc := (HIn.out.below b5).at k hkl
        have hx := HT2.out hkl
        generalize hs[k] = x at hx hc
        have i3 : decide (x < r) = false := decide_eq_false (by omega)
        clear hx HT1 HT2
        go_wp2_with fail
        refine (HCp.out wr b5).mono ?_
        rintro e w6 ⟨v1, v2, rfl, PO, b6⟩
        have hPf := PO.form
        obtain ⟨q1, d1, q2, d2, rfl, rfl, l1, l2⟩ := hPf
        obtain ⟨W7, hW7⟩ : ∃ W7, W7 = w6.alloc (.cells #[.slice q1 rs.length d1, .slice q2 hs.length d2] 26) := ⟨_, rfl⟩
        have b7 : Below w6.heap.size w6 W7 := by rw [hW7]; exact (Below.refl _ _).alloc (Nat.le_refl _) _
        have X7 : Bxs W7 w6.heap.size 26 #[.slice q1 rs.length d1, .slice q2 hs.length d2] := by rw [hW7]; exact Bxs.new _ _ _
        have P7 := PO.below b7
        have bw7 : Below W2.heap.size W2 W7 := chainB b5 (chainB b6 b7)
        have s6 := b6.size
        have s5 := b5.size
        have hS2 := HS2.out
        have lt1 := PO.lt
        obtain ⟨i0, E⟩ := elI
        obtain ⟨W8, hW8⟩ : ∃ W8, W8 = W7.alloc (.cells #[] 2) := ⟨_, rfl⟩
        have HW8 : Hid (W8 = (w6.alloc (.cells #[.slice q1 rs.length d1, .slice q2 hs.length d2] 26)).alloc (.cells #[] 2)) := by rw [hW8, hW7]; exact rfl
        have b8 : Below W7.heap.size W7 W8 := by rw [hW8]; exact (Below.refl _ _).alloc (Nat.le_refl _) _
        have hsz7 : W7.heap.size = w6.heap.size + 1 := by rw [hW7]; simp
        have O8 : W8.ownsRow W7.heap.size 2 1 (.slice (some ⟨W7.heap.size, 0, none⟩) 0 0) 0 [] := by rw [hW8]; exact own_empty _ _ _
        have HIc : ∀ x, Below W2.heap.size W2 x → CelAt x (some ⟨b, off, none⟩) (intRow hs) := fun x hx => (HIn.out.below hx).cel
        obtain ⟨q9, d9, w9, AP1, O9, B9⟩ := app_own E 24 b8 O8 (some ⟨b, off, none⟩) k c2 (intRow (hs.take k)) (by rw [← intRow_take]; exact (HIc W8 (chainB bw7 b8)).take _) (by rw [intRow_len, List.length_take]; omega) (oneI _) (by omega) (by omega)
        rw [List.nil_append] at O9
        obtain ⟨L1, hL1⟩ : ∃ L1, L1 = 0 + k := ⟨_, rfl⟩
        rw [← hL1] at O9 AP1
        obtain ⟨WA, hWA⟩ : ∃ WA, WA = w9.alloc (.cells #[.int .i64 r] 2) := ⟨_, rfl⟩
        have HWA : Hid (WA = w9.alloc (.cells #[.int .i64 r] 2)) := hWA
        have bA : Below w9.heap.size w9 WA := by rw [hWA]; exact (Below.refl _ _).alloc (Nat.le_refl _) _
        have VA : Bxs WA w9.heap.size 2 (intRow [r]).toArray := by rw [hWA]; exact Bxs.new _ _ _
        obtain ⟨qB, dB, wB, AP2, OB, BB⟩ := app_own E 24 (chainB B9 bA) (ownS_below O9 bA) (some ⟨w9.heap.size, 0, none⟩) 1 1 (intRow [r]) (fun j hj => by
          have e : (intRow [r]).length = 1 := rfl
          obtain rfl : j = 0 := by omega
          exact ⟨_, 0, rfl, VA.lt, by rw [VA.cell]; rfl⟩) rfl (oneI _) (by omega) (by omega)
        obtain ⟨L2, hL2⟩ : ∃ L2, L2 = L1 + 1 := ⟨_, rfl⟩
        rw [← hL2] at OB AP2
        obtain ⟨qC, dC, wC, AP3, OC, BC⟩ := app_own E 24 BB OB (some ⟨b, off + k, none⟩) (hs.length - k) (c2 - k) (intRow (hs.drop k)) (by rw [← intRow_drop, Nat.mul_one]; exact (HIc wB (chainB bw7 BB)).drop _) (by rw [intRow_len, List.length_drop]; omega) (oneI _) (by omega) (by omega)
        obtain ⟨L3, hL3⟩ : ∃ L3, L3 = L2 + (hs.length - k) := ⟨_, rfl⟩
        rw [← hL3] at OC AP3
        have OC : wC.ownsRow W7.heap.size 2 1 (.slice qC L3 dC) (hs.take k ++ [r] ++ hs.drop k).length (intRow (hs.take k ++ [r] ++ hs.drop k)) := by
          have e : (hs.take k ++ [r] ++ hs.drop k).length = L3 := by simp only [List.length_append, List.length_take, List.length_drop, List.length_cons, List.length_nil]; omega
          rw [e, intRow_app, intRow_app]; exact OC
        have PC := P7.put2 BC OC (by omega)
        have XC := X7.below BC
        have RC := K1.out.below (chainB bw7 BC)
        have BCw : Below w.heap.size w wC := chainB (chainB B2.out bw7) BC
        have nz : some w6.heap.size ≠ (Value.slice qC L3 dC).ownBlock := fun e => by have := (OC.lt _ e.symm).1; omega
        have nz1 : some w6.heap.size ≠ (Value.slice q1 rs.length d1).ownBlock := fun e => by have := (lt1.1 _ e.symm).2; omega
        have iC0 : wC.cell? ⟨w6.heap.size, 0, none⟩ = some (.slice q1 rs.length d1) := XC.cell 0
        have iC1 : wC.cell? ⟨w6.heap.size, 1, none⟩ = some (.slice q2 hs.length d2) := XC.cell 1
        have fi := XC.fr 1
        have r0 : wC.cell? ⟨w.heap.size + 1, 0, none⟩ = some (.slice none 0 0) := RC.cell 0
        have r1 : wC.cell? ⟨w.heap.size + 1, 1, none⟩ = some (.slice none 0 0) := RC.cell 1
        have r2 : wC.cell? ⟨w.heap.size + 1, 2, none⟩ = some (.int .i64 0) := RC.cell 2
        have f0 := RC.fr 0
        have f1 := RC.fr 1
        have f2 := RC.fr 2
        have HEnd : Hid (∀ a b c d : Value, PolO w.heap.size rs (hs.take k ++ [r] ++ hs.drop k) (.slice q1 rs.length d1) (.slice qC L3 dC) ((((wC.setCell ⟨w6.heap.size, 1, none⟩ a).setCell ⟨w.heap.size + 1, 0, none⟩ b).setCell ⟨w.heap.size + 1, 1, none⟩ c).setCell ⟨w.heap.size + 1, 2, none⟩ d) ∧ Below w.heap.size w ((((wC.setCell ⟨w6.heap.size, 1, none⟩ a).setCell ⟨w.heap.size + 1, 0, none⟩ b).setCell ⟨w.heap.size + 1, 1, none⟩ c).setCell ⟨w.heap.size + 1, 2, none⟩ d)) := fun a b c d =>
          ⟨((((PC.setN nz1 nz 1 a).set (by omega) 0 b).set (by omega) 1 c).set (by omega) 2 d).lower (by omega), (((BCw.setCell (by show w.heap.size ≤ w6.heap.size; omega) _).setCell (by show w.heap.size ≤ w.heap.size + 1; omega) _).setCell (by show w.heap.size ≤ w.heap.size + 1; omega) _).setCell (by show w.heap.size ≤ w.heap.size + 1; omega) _⟩
        have n9 : ¬ w6.heap.size = w.heap.size + 1 := by omega
        have n10 : ¬ w.heap.size + 1 = w6.heap.size := by omega
        have y6 : W8.cell? ⟨w.heap.size, 1, none⟩ = some (.slice (some ⟨b, off, none⟩) hs.length c2) := (HP.out W8 (chainB bw7 b8)).2
        have y7 : w9.cell? ⟨w.heap.size, 1, none⟩ = some (.slice (some ⟨b, off, none⟩) hs.length c2) := (HP.out w9 (chainB bw7 B9)).2
        have y8 : wB.cell? ⟨w.heap.size, 1, none⟩ = some (.slice (some ⟨b, off, none⟩) hs.length c2) := (HP.out wB (chainB bw7 BB)).2
        rw [hW8, hW7] at y6
        have kc : k ≤ c2 := by omega
        have kn : k ≤ hs.length := by omega
        rw [hsz7, hW8, hW7] at AP1
        rw [hWA] at AP2
        clear PC XC RC BCw nz nz1 OC BC O9 B9 O8 b8 bw7 b7 b6 P7 X7 PO lt1 E hW7 hW8 hsz7 hL1 hL3 OB BB VA bA hWA hL2 HIc
        go_wp2_with (first | (at_builtin; refine wpList_app rfl (.tmp 40) (.tmp 44) 24 24 rfl _ _ _ _ rfl rfl AP1 ?_) | (at_builtin; refine wpList_app rfl (.tmp 46) (.tmp 48) 24 24 rfl _ _ _ _ rfl rfl AP2 ?_) | (at_builtin; refine wpList_app rfl (.tmp 50) (.tmp 54) 24 24 rfl _ _ _ _ rfl rfl AP3 ?_))
        refine bodyPost_ret (v := .agg #[.slice q1 rs.length d1, .slice qC L3 dC, .int .i64 0]) (by simp [results, Try.results14, go_sem, r0, r1, r2]) rfl ?_
        exact ⟨_, _, rfl, HEnd.out _ _ _ _⟩
      · obtain rfl : k = hs.length := by omega
        have i2 : decide ((hs.length : Int) < hs.length) = false := decide_eq_false (by omega)
        clear HT1 HT2
        by_cases hq : c2 = hs.length
        · subst hq
          go_wp2_with fail
          refine (HCp.out wr b5).mono ?_
          rintro e w6 ⟨v1, v2, rfl, PO, b6⟩
          have hPf := PO.form
          obtain ⟨q1, d1, q2, d2, rfl, rfl, l1, l2⟩ := hPf
          obtain ⟨W7, hW7⟩ : ∃ W7, W7 = w6.alloc (.cells #[.slice q1 rs.length d1, .slice q2 hs.length d2] 26) := ⟨_, rfl⟩
          have b7 : Below w6.heap.size w6 W7 := by rw [hW7]; exact (Below.refl _ _).alloc (Nat.le_refl _) _
          have X7 : Bxs W7 w6.heap.size 26 #[.slice q1 rs.length d1, .slice q2 hs.length d2] := by rw [hW7]; exact Bxs.new _ _ _
          have P7 := PO.below b7
          have bw7 : Below W2.heap.size W2 W7 := chainB b5 (chainB b6 b7)
          have s6 := b6.size
          have s5 := b5.size
          have hS2 := HS2.out
          have lt1 := PO.lt
          obtain ⟨i0, E⟩ := elI
          obtain ⟨W8, hW8⟩ : ∃ W8, W8 = W7.alloc (.cells #[] 2) := ⟨_, rfl⟩
          have HW8 : Hid (W8 = (w6.alloc (.cells #[.slice q1 rs.length d1, .slice q2 hs.length d2] 26)).alloc (.cells #[] 2)) := by rw [hW8, hW7]; exact rfl
          have b8 : Below W7.heap.size W7 W8 := by rw [hW8]; exact (Below.refl _ _).alloc (Nat.le_refl _) _
          have hsz7 : W7.heap.size = w6.heap.size + 1 := by rw [hW7]; simp
          have O8 : W8.ownsRow W7.heap.size 2 1 (.slice (some ⟨W7.heap.size, 0, none⟩) 0 0) 0 [] := by rw [hW8]; exact own_empty _ _ _
          have HIc : ∀ x, Below W2.heap.size W2 x → CelAt x (some ⟨b, off, none⟩) (intRow hs) := fun x hx => (HIn.out.below hx).cel
          obtain ⟨q9, d9, w9, AP1, O9, B9⟩ := app_own E 24 b8 O8 (some ⟨b, off, none⟩) hs.length hs.length (intRow (hs.take hs.length)) (by rw [← intRow_take]; exact (HIc W8 (chainB bw7 b8)).take _) (by rw [intRow_len, List.length_take]; omega) (oneI _) (by omega) (by omega)
          rw [List.nil_append] at O9
          obtain ⟨L1, hL1⟩ : ∃ L1, L1 = 0 + hs.length := ⟨_, rfl⟩
          rw [← hL1] at O9 AP1
          obtain ⟨WA, hWA⟩ : ∃ WA, WA = w9.alloc (.cells #[.int .i64 r] 2) := ⟨_, rfl⟩
          have HWA : Hid (WA = w9.alloc (.cells #[.int .i64 r] 2)) := hWA
          have bA : Below w9.heap.size w9 WA := by rw [hWA]; exact (Below.refl _ _).alloc (Nat.le_refl _) _
          have VA : Bxs WA w9.heap.size 2 (intRow [r]).toArray := by rw [hWA]; exact Bxs.new _ _ _
          obtain ⟨qB, dB, wB, AP2, OB, BB⟩ := app_own E 24 (chainB B9 bA) (ownS_below O9 bA) (some ⟨w9.heap.size, 0, none⟩) 1 1 (intRow [r]) (fun j hj => by
            have e : (intRow [r]).length = 1 := rfl
            obtain rfl : j = 0 := by omega
            exact ⟨_, 0, rfl, VA.lt, by rw [VA.cell]; rfl⟩) rfl (oneI _) (by omega) (by omega)
          obtain ⟨L2, hL2⟩ : ∃ L2, L2 = L1 + 1 := ⟨_, rfl⟩
          rw [← hL2] at OB AP2
          obtain ⟨qC, dC, wC, AP3, OC, BC⟩ := app_own E 24 BB OB (some ⟨b, off, none⟩) 0 0 (intRow (hs.drop hs.length)) (fun j hj => by rw [intRow_len, List.length_drop] at hj; omega) (by rw [intRow_len, List.length_drop]; omega) (oneI _) (by omega) (by omega)
          obtain ⟨L3, hL3⟩ : ∃ L3, L3 = L2 + 0 := ⟨_, rfl⟩
          rw [← hL3] at OC AP3
          have OC : wC.ownsRow W7.heap.size 2 1 (.slice qC L3 dC) (hs.take hs.length ++ [r] ++ hs.drop hs.length).length (intRow (hs.take hs.length ++ [r] ++ hs.drop hs.length)) := by
            have e : (hs.take hs.length ++ [r] ++ hs.drop hs.length).length = L3 := by simp only [List.length_append, List.length_take, List.length_drop, List.length_cons, List.length_nil]; omega
            rw [e, intRow_app, intRow_app]; exact OC
          have PC := P7.put2 BC OC (by omega)
          have XC := X7.below BC
          have RC := K1.out.below (chainB bw7 BC)
          have BCw : Below w.heap.size w wC := chainB (chainB B2.out bw7) BC
          have nz : some w6.heap.size ≠ (Value.slice qC L3 dC).ownBlock := fun e => by have := (OC.lt _ e.symm).1; omega
          have nz1 : some w6.heap.size ≠ (Value.slice q1 rs.length d1).ownBlock := fun e => by have := (lt1.1 _ e.symm).2; omega
          have iC0 : wC.cell? ⟨w6.heap.size, 0, none⟩ = some (.slice q1 rs.length d1) := XC.cell 0
          have iC1 : wC.cell? ⟨w6.heap.size, 1, none⟩ = some (.slice q2 hs.length d2) := XC.cell 1
          have fi := XC.fr 1
          have r0 : wC.cell? ⟨w.heap.size + 1, 0, none⟩ = some (.slice none 0 0) := RC.cell 0
          have r1 : wC.cell? ⟨w.heap.size + 1, 1, none⟩ = some (.slice none 0 0) := RC.cell 1
          have r2 : wC.cell? ⟨w.heap.size + 1, 2, none⟩ = some (.int .i64 0) := RC.cell 2
          have f0 := RC.fr 0
          have f1 := RC.fr 1
          have f2 := RC.fr 2
          have HEnd : Hid (∀ a b c d : Value, PolO w.heap.size rs (hs.take hs.length ++ [r] ++ hs.drop hs.length) (.slice q1 rs.length d1) (.slice qC L3 dC) ((((wC.setCell ⟨w6.heap.size, 1, none⟩ a).setCell ⟨w.heap.size + 1, 0, none⟩ b).setCell ⟨w.heap.size + 1, 1, none⟩ c).setCell ⟨w.heap.size + 1, 2, none⟩ d) ∧ Below w.heap.size w ((((wC.setCell ⟨w6.heap.size, 1, none⟩ a).setCell ⟨w.heap.size + 1, 0, none⟩ b).setCell ⟨w.heap.size + 1, 1, none⟩ c).setCell ⟨w.heap.size + 1, 2, none⟩ d)) := fun a b c d =>
            ⟨((((PC.setN nz1 nz 1 a).set (by omega) 0 b).set (by omega) 1 c).set (by omega) 2 d).lower (by omega), (((BCw.setCell (by show w.heap.size ≤ w6.heap.size; omega) _).setCell (by show w.heap.size ≤ w.heap.size + 1; omega) _).setCell (by show w.heap.size ≤ w.heap.size + 1; omega) _).setCell (by show w.heap.size ≤ w.heap.size + 1; omega) _⟩
          have n9 : ¬ w6.heap.size = w.heap.size + 1 := by omega
          have n10 : ¬ w.heap.size + 1 = w6.heap.size := by omega
          have y6 : W8.cell? ⟨w.heap.size, 1, none⟩ = some (.slice (some ⟨b, off, none⟩) hs.length hs.length) := (HP.out W8 (chainB bw7 b8)).2
          have y7 : w9.cell? ⟨w.heap.size, 1, none⟩ = some (.slice (some ⟨b, off, none⟩) hs.length hs.length) := (HP.out w9 (chainB bw7 B9)).2
          have y8 : wB.cell? ⟨w.heap.size, 1, none⟩ = some (.slice (some ⟨b, off, none⟩) hs.length hs.length) := (HP.out wB (chainB bw7 BB)).2
          rw [hW8, hW7] at y6
          have kc : hs.length ≤ hs.length := by omega
          have kn : hs.length ≤ hs.length := by omega
          rw [hsz7, hW8, hW7] at AP1
          rw [hWA] at AP2
          clear PC XC RC BCw nz nz1 OC BC O9 B9 O8 b8 bw7 b7 b6 P7 X7 PO lt1 E hW7 hW8 hsz7 hL1 hL3 OB BB VA bA hWA hL2 HIc
          go_wp2_with (first | (at_builtin; refine wpList_app rfl (.tmp 40) (.tmp 44) 24 24 rfl _ _ _ _ rfl rfl AP1 ?_) | (at_builtin; refine wpList_app rfl (.tmp 46) (.tmp 48) 24 24 rfl _ _ _ _ rfl rfl AP2 ?_) | (at_builtin; refine wpList_app rfl (.tmp 50) (.tmp 54) 24 24 rfl _ _ _ _ rfl rfl AP3 ?_))
          refine bodyPost_ret (v := .agg #[.slice q1 rs.length d1, .slice qC L3 dC, .int .i64 0]) (by simp [results, Try.results14, go_sem, r0, r1, r2]) rfl ?_
          exact ⟨_, _, rfl, HEnd.out _ _ _ _⟩
        · skip
          go_wp2_with fail
          refine (HCp.out wr b5).mono ?_
          rintro e w6 ⟨v1, v2, rfl, PO, b6⟩
          have hPf := PO.form
          obtain ⟨q1, d1, q2, d2, rfl, rfl, l1, l2⟩ := hPf
          obtain ⟨W7, hW7⟩ : ∃ W7, W7 = w6.alloc (.cells #[.slice q1 rs.length d1, .slice q2 hs.length d2] 26) := ⟨_, rfl⟩
          have b7 : Below w6.heap.size w6 W7 := by rw [hW7]; exact (Below.refl _ _).alloc (Nat.le_refl _) _
          have X7 : Bxs W7 w6.heap.size 26 #[.slice q1 rs.length d1, .slice q2 hs.length d2] := by rw [hW7]; exact Bxs.new _ _ _
          have P7 := PO.below b7
          have bw7 : Below W2.heap.size W2 W7 := chainB b5 (chainB b6 b7)
          have s6 := b6.size
          have s5 := b5.size
          have hS2 := HS2.out
          have lt1 := PO.lt
          obtain ⟨i0, E⟩ := elI
          obtain ⟨W8, hW8⟩ : ∃ W8, W8 = W7.alloc (.cells #[] 2) := ⟨_, rfl⟩
          have HW8 : Hid (W8 = (w6.alloc (.cells #[.slice q1 rs.length d1, .slice q2 hs.length d2] 26)).alloc (.cells #[] 2)) := by rw [hW8, hW7]; exact rfl
          have b8 : Below W7.heap.size W7 W8 := by rw [hW8]; exact (Below.refl _ _).alloc (Nat.le_refl _) _
          have hsz7 : W7.heap.size = w6.heap.size + 1 := by rw [hW7]; simp
          have O8 : W8.ownsRow W7.heap.size 2 1 (.slice (some ⟨W7.heap.size, 0, none⟩) 0 0) 0 [] := by rw [hW8]; exact own_empty _ _ _
          have HIc : ∀ x, Below W2.heap.size W2 x → CelAt x (some ⟨b, off, none⟩) (intRow hs) := fun x hx => (HIn.out.below hx).cel
          obtain ⟨q9, d9, w9, AP1, O9, B9⟩ := app_own E 24 b8 O8 (some ⟨b, off, none⟩) hs.length c2 (intRow (hs.take hs.length)) (by rw [← intRow_take]; exact (HIc W8 (chainB bw7 b8)).take _) (by rw [intRow_len, List.length_take]; omega) (oneI _) (by omega) (by omega)
          rw [List.nil_append] at O9
          obtain ⟨L1, hL1⟩ : ∃ L1, L1 = 0 + hs.length := ⟨_, rfl⟩
          rw [← hL1] at O9 AP1
          obtain ⟨WA, hWA⟩ : ∃ WA, WA = w9.alloc (.cells #[.int .i64 r] 2) := ⟨_, rfl⟩
          have HWA : Hid (WA = w9.alloc (.cells #[.int .i64 r] 2)) := hWA
          have bA : Below w9.heap.size w9 WA := by rw [hWA]; exact (Below.refl _ _).alloc (Nat.le_refl _) _
          have VA : Bxs WA w9.heap.size 2 (intRow [r]).toArray := by rw [hWA]; exact Bxs.new _ _ _
          obtain ⟨qB, dB, wB, AP2, OB, BB⟩ := app_own E 24 (chainB B9 bA) (ownS_below O9 bA) (some ⟨w9.heap.size, 0, none⟩) 1 1 (intRow [r]) (fun j hj => by
            have e : (intRow [r]).length = 1 := rfl
            obtain rfl : j = 0 := by omega
            exact ⟨_, 0, rfl, VA.lt, by rw [VA.cell]; rfl⟩) rfl (oneI _) (by omega) (by omega)
          obtain ⟨L2, hL2⟩ : ∃ L2, L2 = L1 + 1 := ⟨_, rfl⟩
          rw [← hL2] at OB AP2
          obtain ⟨qC, dC, wC, AP3, OC, BC⟩ := app_own E 24 BB OB (some ⟨b, off + hs.length, none⟩) 0 (c2 - hs.length) (intRow (hs.drop hs.length)) (fun j hj => by rw [intRow_len, List.length_drop] at hj; omega) (by rw [intRow_len, List.length_drop]; omega) (oneI _) (by omega) (by omega)
          obtain ⟨L3, hL3⟩ : ∃ L3, L3 = L2 + 0 := ⟨_, rfl⟩
          rw [← hL3] at OC AP3
          have OC : wC.ownsRow W7.heap.size 2 1 (.slice qC L3 dC) (hs.take hs.length ++ [r] ++ hs.drop hs.length).length (intRow (hs.take hs.length ++ [r] ++ hs.drop hs.length)) := by
            have e : (hs.take hs.length ++ [r] ++ hs.drop hs.length).length = L3 := by simp only [List.length_append, List.length_take, List.length_drop, List.length_cons, List.length_nil]; omega
            rw [e, intRow_app, intRow_app]; exact OC
          have PC := P7.put2 BC OC (by omega)
          have XC := X7.below BC
          have RC := K1.out.below (chainB bw7 BC)
          have BCw : Below w.heap.size w wC := chainB (chainB B2.out bw7) BC
          have nz : some w6.heap.size ≠ (Value.slice qC L3 dC).ownBlock := fun e => by have := (OC.lt _ e.symm).1; omega
          have nz1 : some w6.heap.size ≠ (Value.slice q1 rs.length d1).ownBlock := fun e => by have := (lt1.1 _ e.symm).2; omega
          have iC0 : wC.cell? ⟨w6.heap.size, 0, none⟩ = some (.slice q1 rs.length d1) := XC.cell 0
          have iC1 : wC.cell? ⟨w6.heap.size, 1, none⟩ = some (.slice q2 hs.length d2) := XC.cell 1
          have fi := XC.fr 1
          have r0 : wC.cell? ⟨w.heap.size + 1, 0, none⟩ = some (.slice none 0 0) := RC.cell 0
          have r1 : wC.cell? ⟨w.heap.size + 1, 1, none⟩ = some (.slice none 0 0) := RC.cell 1
          have r2 : wC.cell? ⟨w.heap.size + 1, 2, none⟩ = some (.int .i64 0) := RC.cell 2
          have f0 := RC.fr 0
          have f1 := RC.fr 1
          have f2 := RC.fr 2
          have HEnd : Hid (∀ a b c d : Value, PolO w.heap.size rs (hs.take hs.length ++ [r] ++ hs.drop hs.length) (.slice q1 rs.length d1) (.slice qC L3 dC) ((((wC.setCell ⟨w6.heap.size, 1, none⟩ a).setCell ⟨w.heap.size + 1, 0, none⟩ b).setCell ⟨w.heap.size + 1, 1, none⟩ c).setCell ⟨w.heap.size + 1, 2, none⟩ d) ∧ Below w.heap.size w ((((wC.setCell ⟨w6.heap.size, 1, none⟩ a).setCell ⟨w.heap.size + 1, 0, none⟩ b).setCell ⟨w.heap.size + 1, 1, none⟩ c).setCell ⟨w.heap.size + 1, 2, none⟩ d)) := fun a b c d =>
            ⟨((((PC.setN nz1 nz 1 a).set (by omega) 0 b).set (by omega) 1 c).set (by omega) 2 d).lower (by omega), (((BCw.setCell (by show w.heap.size ≤ w6.heap.size; omega) _).setCell (by show w.heap.size ≤ w.heap.size + 1; omega) _).setCell (by show w.heap.size ≤ w.heap.size + 1; omega) _).setCell (by show w.heap.size ≤ w.heap.size + 1; omega) _⟩
          have n9 : ¬ w6.heap.size = w.heap.size + 1 := by omega
          have n10 : ¬ w.heap.size + 1 = w6.heap.size := by omega
          have y6 : W8.cell? ⟨w.heap.size, 1, none⟩ = some (.slice (some ⟨b, off, none⟩) hs.length c2) := (HP.out W8 (chainB bw7 b8)).2
          have y7 : w9.cell? ⟨w.heap.size, 1, none⟩ = some (.slice (some ⟨b, off, none⟩) hs.length c2) := (HP.out w9 (chainB bw7 B9)).2
          have y8 : wB.cell? ⟨w.heap.size, 1, none⟩ = some (.slice (some ⟨b, off, none⟩) hs.length c2) := (HP.out wB (chainB bw7 BB)).2
          rw [hW8, hW7] at y6
          have kc : hs.length ≤ c2 := by omega
          have kn : hs.length ≤ hs.length := by omega
          rw [hsz7, hW8, hW7] at AP1
          rw [hWA] at AP2
          clear PC XC RC BCw nz nz1 OC BC O9 B9 O8 b8 bw7 b7 b6 P7 X7 PO lt1 E hW7 hW8 hsz7 hL1 hL3 OB BB VA bA hWA hL2 HIc
          go_wp2_with (first | (at_builtin; refine wpList_app rfl (.tmp 40) (.tmp 44) 24 24 rfl _ _ _ _ rfl rfl AP1 ?_) | (at_builtin; refine wpList_app rfl (.tmp 46) (.tmp 48) 24 24 rfl _ _ _ _ rfl rfl AP2 ?_) | (at_builtin; refine wpList_app rfl (.tmp 50) (.tmp 54) 24 24 rfl _ _ _ _ rfl rfl AP3 ?_))
          refine bodyPost_ret (v := .agg #[.slice q1 rs.length d1, .slice qC L3 dC, .int .i64 0]) (by simp [results, Try.results14, go_sem, r0, r1, r2]) rfl ?_
          exact ⟨_, _, rfl, HEnd.out _ _ _ _⟩
end Go.Proofs.Ytbgpkngnlfafcaa
/-
  What the specification's Free answers.
  Conditions: the cells of Rules and Held hold the rules and numbers.
-/
namespace Go.Proofs.Ytbgpkngnlfafcaa
open Go.RowKit Go.Lib
set_option linter.unusedVariables false
set_option maxRecDepth 20000

set_option maxHeartbeats 4000000 in
theorem specFree_any (p1 p2 : Option Addr) (c1 c2 : Nat) (rs : List Rul) (hs : List Int) (r : Int) (w : World) (hr : RulAt w p1 rs) (hh : IntAt w p2 hs) (n1 : rs.length ≤ 1048576) (n2 : hs.length ≤ 1048576) (m1 : rs.length ≤ c1) (m2 : hs.length ≤ c2) (hz : RulsLe rs) (hA : AdOk p2 hs.length c2) :
    Calls Try.prog 16 #[.agg #[.slice p1 rs.length c1, .slice p2 hs.length c2], .int .i64 r] w fun e w' => ∃ v1 v2, e = .returned (.agg #[v1, v2, .int .i64 (frC rs hs r)]) ∧ PolO w.heap.size (frR rs hs r) (frH rs hs r) v1 v2 w' ∧ Below w.heap.size w w' := by
  have HC : Hid (frC rs hs r = if polB rs hs = true ∧ heB r = true then (if hoB hs r = true then 0 else 6) else 1) := rfl
  have HRr : Hid (frR rs hs r = if frC rs hs r = 0 then rs else []) := rfl
  have HHr : Hid (frH rs hs r = if frC rs hs r = 0 then hs.take (hoT hs r) ++ hs.drop (hoT hs r + 1) else []) := rfl
  obtain ⟨W2, hW2⟩ : ∃ W2, W2 = (w.alloc (.cells #[.slice p1 rs.length c1, .slice p2 hs.length c2] 26)).alloc (.cells #[.slice none 0 0, .slice none 0 0, .int .i64 0] 32) := ⟨_, rfl⟩
  have HW2 : Hid (W2 = (w.alloc (.cells #[.slice p1 rs.length c1, .slice p2 hs.length c2] 26)).alloc (.cells #[.slice none 0 0, .slice none 0 0, .int .i64 0] 32)) := hW2
  have hs1 : (w.alloc (.cells #[.slice p1 rs.length c1, .slice p2 hs.length c2] 26)).heap.size = w.heap.size + 1 := by simp
  have HS2 : Hid (W2.heap.size = w.heap.size + 2) := by rw [hW2]; show _ = _; simp
  have K0 : Hid (Bxs W2 w.heap.size 26 #[.slice p1 rs.length c1, .slice p2 hs.length c2]) := by rw [hW2]; exact (Bxs.new _ _ _).alloc _
  have K1 : Hid (Bxs W2 (w.heap.size + 1) 32 #[.slice none 0 0, .slice none 0 0, .int .i64 0]) := by rw [hW2, ← hs1]; exact Bxs.new _ _ _
  have B2 : Hid (Below w.heap.size w W2) := by rw [hW2]; exact ((Below.refl _ _).alloc (Nat.le_refl _) _).alloc (by rw [hs1]; omega) _
  have HP : Hid (∀ x, Below W2.heap.size W2 x → x.cell? ⟨w.heap.size, 0, none⟩ = some (.slice p1 rs.length c1) ∧ x.cell? ⟨w.heap.size, 1, none⟩ = some (.slice p2 hs.length c2)) := fun x hb => (K0.out.below hb).two
  have HR : Hid (∀ x, Below W2.heap.size W2 x → x.cell? ⟨w.heap.size + 1, 0, none⟩ = some (.slice none 0 0) ∧ x.cell? ⟨w.heap.size + 1, 1, none⟩ = some (.slice none 0 0) ∧ x.cell? ⟨w.heap.size + 1, 2, none⟩ = some (.int .i64 0) ∧ x.frozen? ⟨w.heap.size + 1, 0, none⟩ = false ∧ x.frozen? ⟨w.heap.size + 1, 1, none⟩ = false ∧ x.frozen? ⟨w.heap.size + 1, 2, none⟩ = false) := fun x hb => ⟨(K1.out.below hb).cell 0, (K1.out.below hb).cell 1, (K1.out.below hb).cell 2, (K1.out.below hb).fr 0, (K1.out.below hb).fr 1, (K1.out.below hb).fr 2⟩
  have HS3 : Hid (∀ x, Below W2.heap.size W2 x → ∀ a b c : Value, Below w.heap.size w (((x.setCell ⟨w.heap.size + 1, 0, none⟩ a).setCell ⟨w.heap.size + 1, 1, none⟩ b).setCell ⟨w.heap.size + 1, 2, none⟩ c)) := fun x hb a b c => (((chainB B2.out hb).setCell (by show w.heap.size ≤ w.heap.size + 1; omega) _).setCell (by show w.heap.size ≤ w.heap.size + 1; omega) _).setCell (by show w.heap.size ≤ w.heap.size + 1; omega) _
  have HRu : Hid (RulAt W2 p1 rs) := hr.below B2.out
  have HIn : Hid (IntAt W2 p2 hs) := hh.below B2.out
  obtain ⟨x0, x1⟩ := HP.out W2 (Below.refl _ _)
  have y0 := x0
  have y1 := x1
  rw [hW2] at y0 y1
  have hQ := specPolicyRight_any p1 p2 c1 c2 rs hs W2 HRu.out HIn.out n1 n2 m1 m2 hz
  have HK : Hid (∀ x, Calls Try.prog 38 #[.int .i64 r, .int .i64 0, .int .i64 5] x fun e w' => e = .returned (.bool (heB r)) ∧ w' = x) := fun x => l07Is_any r 0 5 x
  have HHe : Hid (∀ x, Below W2.heap.size W2 x → Calls Try.prog 39 #[.agg #[.slice p1 rs.length c1, .slice p2 hs.length c2], .int .i64 r] x fun e w' => e = .returned (.int .i64 (fstI (eqI r) hs)) ∧ Below x.heap.size x w') := fun x hb => l10Held_any p1 p2 rs.length c1 c2 hs r x (HIn.out.below hb) n2 m2
  have HCp : Hid (∀ x, Below W2.heap.size W2 x → Calls Try.prog 34 #[.agg #[.slice p1 rs.length c1, .slice p2 hs.length c2]] x fun e w' => ∃ v1 v2, e = .returned (.agg #[v1, v2]) ∧ PolO x.heap.size rs hs v1 v2 w' ∧ Below x.heap.size x w') := fun x hb => l10Copy_any p1 c1 rs p2 c2 hs x (HRu.out.below hb) (HIn.out.below hb) n1 n2 m1 m2
  clear hW2 hs1 hr hh K0 hz
  cases hpb : polB rs hs with
  | false =>
    have e1 : frC rs hs r = 1 := by rw [HC.out, if_neg (by rw [hpb]; simp)]
    rw [HRr.out, HHr.out, e1, if_neg (by omega), if_neg (by omega)]
    rw [hpb] at hQ
    clear HC HRr HHr e1
    go_enter Try.func16, Try.ntmps16
    go_wp2_with fail
    rw [← HW2.out]
    refine hQ.mono ?_
    rintro e w3 ⟨rfl, b3⟩
    go_wp2_with fail
    refine (l10Ill_any 1 w3).mono ?_
    rintro e wi ⟨rfl, bi⟩
    have bi := chainB b3 bi
    obtain ⟨r0, r1, r2, f0, f1, f2⟩ := HR.out wi bi
    have HE := HS3.out wi bi (.slice none 0 0) (.slice none 0 0) (.int .i64 1)
    go_wp2_with fail
    refine bodyPost_ret (v := .agg #[.slice none 0 0, .slice none 0 0, .int .i64 1]) (by simp [results, Try.results16, go_sem, r0, r1, r2]) rfl ?_
    exact ⟨_, _, rfl, PolO.nil _ _, HE⟩
  | true =>
  obtain ⟨hl6, ho1, ho2, hh6, hsz⟩ := polB_parts hpb
  rw [hpb] at hQ
  cases hhb : heB r with
  | false =>
    have e1 : frC rs hs r = 1 := by rw [HC.out, if_neg (by rw [hhb]; simp)]
    rw [HRr.out, HHr.out, e1, if_neg (by omega), if_neg (by omega)]
    rw [hhb] at HK
    clear HC HRr HHr e1
    go_enter Try.func16, Try.ntmps16
    go_wp2_with fail
    rw [← HW2.out]
    refine hQ.mono ?_
    rintro e w3 ⟨rfl, b3⟩
    go_wp2_with fail
    refine (HK.out w3).mono ?_
    rintro e w4 ⟨rfl, rfl⟩
    go_wp2_with fail
    refine (l10Ill_any 1 w4).mono ?_
    rintro e wi ⟨rfl, bi⟩
    have bi := chainB b3 bi
    obtain ⟨r0, r1, r2, f0, f1, f2⟩ := HR.out wi bi
    have HE := HS3.out wi bi (.slice none 0 0) (.slice none 0 0) (.int .i64 1)
    go_wp2_with fail
    refine bodyPost_ret (v := .agg #[.slice none 0 0, .slice none 0 0, .int .i64 1]) (by simp [results, Try.results16, go_sem, r0, r1, r2]) rfl ?_
    exact ⟨_, _, rfl, PolO.nil _ _, HE⟩
  | true =>
  rw [hhb] at HK
  rw [if_pos (show polB rs hs = true ∧ heB r = true from ⟨hpb, hhb⟩)] at HC
  have hTn : hoT hs r ≤ hs.length := tw_le _ _
  have HTl : Hid (hoB hs r = true → hoT hs r < hs.length) := fun h => there_lt h
  have HT1 : Hid (∀ j (h : j < hs.length), j < hoT hs r → hs[j] < r) := fun j h hj => by have := tw_lt (ltI r) hs j hj; simpa [ltI] using this
  have HT2 : Hid (∀ h : hoT hs r < hs.length, ¬ hs[hoT hs r] < r) := fun h => by have := tw_at (ltI r) hs h; unfold ltI at this; exact of_decide_eq_false this
  have HF : Hid (fstI (eqI r) hs = if hoB hs r = true then (hoT hs r : Int) else -1) := fst_there (condI ho2 r)
  cases htb : hoB hs r with
  | false =>
    have e1 : frC rs hs r = 6 := by rw [HC.out, htb]; rfl
    rw [HRr.out, HHr.out, e1, if_neg (by omega), if_neg (by omega)]
    rw [HF.out, htb, if_neg (by simp)] at HHe
    generalize hoT hs r = T at *
    clear HC HRr HHr e1 HF HT1 HT2
    skip
    go_enter Try.func16, Try.ntmps16
    go_wp2_with fail
    rw [← HW2.out]
    refine hQ.mono ?_
    rintro e w3 ⟨rfl, b3⟩
    go_wp2_with fail
    refine (HK.out w3).mono ?_
    rintro e w4 ⟨rfl, rfl⟩
    obtain ⟨z0, z1⟩ := HP.out w4 b3
    go_wp2_with fail
    refine (HHe.out w4 b3).mono ?_
    rintro e w5 ⟨rfl, b5⟩
    have b5 := chainB b3 b5
    go_wp2_with fail
    refine (l10Ill_any 6 w5).mono ?_
    rintro e wi ⟨rfl, bi⟩
    have bi := chainB b5 bi
    obtain ⟨r0, r1, r2, f0, f1, f2⟩ := HR.out wi bi
    have HE := HS3.out wi bi (.slice none 0 0) (.slice none 0 0) (.int .i64 6)
    go_wp2_with fail
    refine bodyPost_ret (v := .agg #[.slice none 0 0, .slice none 0 0, .int .i64 6]) (by simp [results, Try.results16, go_sem, r0, r1, r2]) rfl ?_
    exact ⟨_, _, rfl, PolO.nil _ _, HE⟩
  | true =>
    have e1 : frC rs hs r = 0 := by rw [HC.out, htb]; rfl
    rw [HRr.out, HHr.out, e1, if_pos rfl, if_pos rfl]
    rw [HF.out, htb, if_pos rfl] at HHe
    have hTl := HTl.out htb
    generalize hoT hs r = T at *
    clear HC HRr HHr e1 HTl HF
    go_enter Try.func16, Try.ntmps16
    go_wp2_with fail
    rw [← HW2.out]
    refine hQ.mono ?_
    rintro e w3 ⟨rfl, b3⟩
    go_wp2_with fail
    refine (HK.out w3).mono ?_
    rintro e w4 ⟨rfl, rfl⟩
    obtain ⟨z0, z1⟩ := HP.out w4 b3
    have hT0 : decide ((T : Int) < 0) = false := decide_eq_false (by omega)
    go_wp2_with fail
    refine (HHe.out w4 b3).mono ?_
    rintro e w5 ⟨rfl, b5⟩
    have b5 := chainB b3 b5
    have HB5 : Hid (Below W2.heap.size W2 w5) := b5
    clear z0 z1
    obtain ⟨z0, z1⟩ := HP.out w5 b5
    clear z0 z1 y0 y1 x0 x1
    have b5 := HB5.out
    rcases hA with ⟨rfl, hn0, rfl⟩ | ⟨b, off, rfl⟩
    · obtain ⟨z0, z1⟩ := HP.out w5 b5
      omega
    · obtain ⟨z0, z1⟩ := HP.out w5 b5
      go_wp2_with fail
      refine (HCp.out w5 b5).mono ?_
      rintro e w6 ⟨v1, v2, rfl, PO, b6⟩
      have hPf := PO.form
      obtain ⟨q1, d1, q2, d2, rfl, rfl, l1, l2⟩ := hPf
      obtain ⟨W7, hW7⟩ : ∃ W7, W7 = w6.alloc (.cells #[.slice q1 rs.length d1, .slice q2 hs.length d2] 26) := ⟨_, rfl⟩
      have b7 : Below w6.heap.size w6 W7 := by rw [hW7]; exact (Below.refl _ _).alloc (Nat.le_refl _) _
      have X7 : Bxs W7 w6.heap.size 26 #[.slice q1 rs.length d1, .slice q2 hs.length d2] := by rw [hW7]; exact Bxs.new _ _ _
      have P7 := PO.below b7
      have bw7 : Below W2.heap.size W2 W7 := chainB b5 (chainB b6 b7)
      have s6 := b6.size
      have s5 := b5.size
      have hS2 := HS2.out
      have lt1 := PO.lt
      obtain ⟨i0, E⟩ := elI
      obtain ⟨W8, hW8⟩ : ∃ W8, W8 = W7.alloc (.cells #[] 2) := ⟨_, rfl⟩
      have HW8 : Hid (W8 = (w6.alloc (.cells #[.slice q1 rs.length d1, .slice q2 hs.length d2] 26)).alloc (.cells #[] 2)) := by rw [hW8, hW7]; exact rfl
      have b8 : Below W7.heap.size W7 W8 := by rw [hW8]; exact (Below.refl _ _).alloc (Nat.le_refl _) _
      have hsz7 : W7.heap.size = w6.heap.size + 1 := by rw [hW7]; simp
      have O8 : W8.ownsRow W7.heap.size 2 1 (.slice (some ⟨W7.heap.size, 0, none⟩) 0 0) 0 [] := by rw [hW8]; exact own_empty _ _ _
      have HIc : ∀ x, Below W2.heap.size W2 x → CelAt x (some ⟨b, off, none⟩) (intRow hs) := fun x hx => (HIn.out.below hx).cel
      obtain ⟨q9, d9, w9, AP1, O9, B9⟩ := app_own E 24 b8 O8 (some ⟨b, off, none⟩) T c2 (intRow (hs.take T)) (by rw [← intRow_take]; exact (HIc W8 (chainB bw7 b8)).take _) (by rw [intRow_len, List.length_take]; omega) (oneI _) (by omega) (by omega)
      rw [List.nil_append] at O9
      obtain ⟨L1, hL1⟩ : ∃ L1, L1 = 0 + T := ⟨_, rfl⟩
      rw [← hL1] at O9 AP1
      obtain ⟨A, hAe, HcA⟩ : ∃ A : Option Addr, (if c2 = T + 1 then some (⟨b, off, none⟩ : Addr) else some ⟨b, off + (T + 1), none⟩) = A ∧ CelAt w9 A (intRow (hs.drop (T + 1))) := by
        by_cases hq : c2 = T + 1
        · exact ⟨_, rfl, fun j hj => by rw [intRow_len, List.length_drop] at hj; omega⟩
        · refine ⟨_, rfl, ?_⟩
          rw [if_neg hq, ← intRow_drop, Nat.mul_one]
          exact (HIc w9 (chainB bw7 B9)).drop _
      obtain ⟨qC, dC, wC, AP3, OC, BC⟩ := app_own E 24 B9 O9 A (hs.length - (T + 1)) (c2 - (T + 1)) (intRow (hs.drop (T + 1))) HcA (by rw [intRow_len, List.length_drop]; omega) (oneI _) (by omega) (by omega)
      obtain ⟨L3, hL3⟩ : ∃ L3, L3 = L1 + (hs.length - (T + 1)) := ⟨_, rfl⟩
      rw [← hL3] at OC AP3
      have OC : wC.ownsRow W7.heap.size 2 1 (.slice qC L3 dC) (hs.take T ++ hs.drop (T + 1)).length (intRow (hs.take T ++ hs.drop (T + 1))) := by
        have e : (hs.take T ++ hs.drop (T + 1)).length = L3 := by simp only [List.length_append, List.length_take, List.length_drop]; omega
        rw [e, intRow_app]; exact OC
      have PC := P7.put2 BC OC (by omega)
      have XC := X7.below BC
      have RC := K1.out.below (chainB bw7 BC)
      have BCw : Below w.heap.size w wC := chainB (chainB B2.out bw7) BC
      have nz : some w6.heap.size ≠ (Value.slice qC L3 dC).ownBlock := fun e => by have := (OC.lt _ e.symm).1; omega
      have nz1 : some w6.heap.size ≠ (Value.slice q1 rs.length d1).ownBlock := fun e => by have := (lt1.1 _ e.symm).2; omega
      have iC0 : wC.cell? ⟨w6.heap.size, 0, none⟩ = some (.slice q1 rs.length d1) := XC.cell 0
      have iC1 : wC.cell? ⟨w6.heap.size, 1, none⟩ = some (.slice q2 hs.length d2) := XC.cell 1
      have fi := XC.fr 1
      have r0 : wC.cell? ⟨w.heap.size + 1, 0, none⟩ = some (.slice none 0 0) := RC.cell 0
      have r1 : wC.cell? ⟨w.heap.size + 1, 1, none⟩ = some (.slice none 0 0) := RC.cell 1
      have r2 : wC.cell? ⟨w.heap.size + 1, 2, none⟩ = some (.int .i64 0) := RC.cell 2
      have f0 := RC.fr 0
      have f1 := RC.fr 1
      have f2 := RC.fr 2
      have HEnd : Hid (∀ a b c d : Value, PolO w.heap.size rs (hs.take T ++ hs.drop (T + 1)) (.slice q1 rs.length d1) (.slice qC L3 dC) ((((wC.setCell ⟨w6.heap.size, 1, none⟩ a).setCell ⟨w.heap.size + 1, 0, none⟩ b).setCell ⟨w.heap.size + 1, 1, none⟩ c).setCell ⟨w.heap.size + 1, 2, none⟩ d) ∧ Below w.heap.size w ((((wC.setCell ⟨w6.heap.size, 1, none⟩ a).setCell ⟨w.heap.size + 1, 0, none⟩ b).setCell ⟨w.heap.size + 1, 1, none⟩ c).setCell ⟨w.heap.size + 1, 2, none⟩ d)) := fun a b c d =>
        ⟨((((PC.setN nz1 nz 1 a).set (by omega) 0 b).set (by omega) 1 c).set (by omega) 2 d).lower (by omega), (((BCw.setCell (by show w.heap.size ≤ w6.heap.size; omega) _).setCell (by show w.heap.size ≤ w.heap.size + 1; omega) _).setCell (by show w.heap.size ≤ w.heap.size + 1; omega) _).setCell (by show w.heap.size ≤ w.heap.size + 1; omega) _⟩
      have n9 : ¬ w6.heap.size = w.heap.size + 1 := by omega
      have n10 : ¬ w.heap.size + 1 = w6.heap.size := by omega
      have y6 : W8.cell? ⟨w.heap.size, 1, none⟩ = some (.slice (some ⟨b, off, none⟩) hs.length c2) := (HP.out W8 (chainB bw7 b8)).2
      have y7 : w9.cell? ⟨w.heap.size, 1, none⟩ = some (.slice (some ⟨b, off, none⟩) hs.length c2) := (HP.out w9 (chainB bw7 B9)).2
      rw [hW8, hW7] at y6
      have kc : T ≤ c2 := by omega
      have kn : T ≤ hs.length := by omega
      have kn1 : T + 1 ≤ hs.length := by omega
      have kc1 : T + 1 ≤ c2 := by omega
      have hck : (T : Int) + 1 ≤ hs.length := by omega
      have hj0 : (0 : Int) ≤ (T : Int) + 1 := by omega
      rw [hsz7, hW8, hW7] at AP1
      clear PC XC RC BCw nz nz1 OC BC O9 B9 O8 b8 bw7 b7 b6 P7 X7 PO lt1 E hW7 hW8 hsz7 hL1 hL3  HcA HIc
      go_wp2_with (first | (at_builtin; refine wpList_app rfl (.tmp 25) (.tmp 29) 24 24 rfl _ _ _ _ rfl rfl AP1 ?_) | (at_builtin; refine wpList_app rfl (.tmp 31) (.tmp 36) 24 24 rfl _ _ _ _ rfl rfl AP3 ?_))
      refine bodyPost_ret (v := .agg #[.slice q1 rs.length d1, .slice qC L3 dC, .int .i64 0]) (by simp [results, Try.results16, go_sem, r0, r1, r2]) rfl ?_
      exact ⟨_, _, rfl, HEnd.out _ _ _ _⟩
end Go.Proofs.Ytbgpkngnlfafcaa
