/-
  The law FnSign returns true at any two codes of at most 2^20 bytes, where the two tables lie as the program's text lays them.
-/
import Derived.Test.YtlmkfjlaakmmpaaDoorRows
import Derived.Test.YtlmkfjlaakmmpaaDoorBytes
import Derived.Test.YtlmkfjlaakmmpaaDoorDigMath
import Derived.Test.YtlmkfjlaakmmpaaDoorTabsOf
import Derived.Test.YtlmkfjlaakmmpaaDoorSlA
import Derived.Test.YtlmkfjlaakmmpaaDoorSlBOwnS
import Derived.Test.YtlmkfjlaakmmpaaDoorSignMath
import Derived.Test.YtlmkfjlaakmmpaaDoorSignSSignD
import Derived.Test.YtlmkfjlaakmmpaaDoorSignGSignV
import Derived.Test.YtlmkfjlaakmmpaaDoorSignRSignW
import Derived.Test.YtlmkfjlaakmmpaaDoorImplVerImplSign
import Derived.Test.YtlmkfjlaakmmpaaDoorLwSigDrawSeed
import Derived.Test.YtlmkfjlaakmmpaaDoorSrcDrawsDrawKit
import Derived.Test.YtlmkfjlaakmmpaaDoorDrawVer
import Derived.Test.YtlmkfjlaakmmpaaDoorBox3DrawSig
import Derived.Handy
import Derived.WalkSpells
import Derived.Deep.RegionLaw
import Derived.BigRegion
import Derived.Deep.RegionHeld3
import Derived.Deep.RegionWith
import Derived.Deep.Cut
import Derived.Deep.CutRange
namespace Go.Proofs.YtlmkfjlaakmmpaaDoor
open Go.RowKit Go.Lib
set_option linter.unusedVariables false
set_option maxRecDepth 20000

theorem root_empty (seed : ByteArray) : (rootA seed).toList.isEmpty = !(seedB seed) := by
  cases h : seedB seed with
  | false =>
    have e : rootA seed = ByteArray.empty := if_neg (by rw [h]; exact Bool.false_ne_true)
    rw [e, ByteArray.toList_eq]; rfl
  | true =>
    have e : rootA seed = treeB (pubsB seed) := if_pos h
    rw [e, Bool.not_true, List.isEmpty_eq_false_iff]
    intro hl
    have h2 := treeB_size (pubsB seed)
    have h3 : treeB (pubsB seed) = ByteArray.empty := toList_inj (by rw [hl, ByteArray.toList_eq]; rfl)
    rw [h3] at h2
    cases h2
theorem rootA_le (seed : ByteArray) : (rootA seed).size ≤ 32 := by
  unfold rootA; split
  · rw [treeB_size]; omega
  · simp
theorem sgE_len (seed : ByteArray) (key : Int) (t : ByteArray) : (sgE seed key t).length ≤ 6 := by
  unfold sgE; split
  · rw [endsTo_len]; exact Nat.le_refl _
  · simp
theorem sgP_len (seed : ByteArray) (key : Int) (t : ByteArray) : (sgP seed key t).length ≤ 3 := by
  unfold sgP; split
  · rename_i h
    obtain ⟨_, hk, _⟩ := signOk_parts h
    rw [pathB_four _ (pubsB_len _) _ (by omega)]; omega
  · simp
theorem sgK_bd (seed : ByteArray) (key : Int) (t : ByteArray) : 0 ≤ sgK seed key t ∧ sgK seed key t ≤ 3 := by
  unfold sgK; split
  · rename_i h
    exact (signOk_parts h).2.1
  · omega

set_option maxHeartbeats 4000000 in
theorem fnSign_any (a0 : Option Addr) (len0 cap0 : Nat) (a1 : Option Addr) (len1 cap1 : Nat) (w : World) (hl0 : len0 ≤ 1048576) (hl1 : len1 ≤ 1048576) (c0 : CodeAt w.heap.size a0 len0 w) (c1 : CodeAt w.heap.size a1 len1 w) (hT : Tabs w) :
    Calls Tryd.prog 7 #[.slice a0 len0 cap0, .slice a1 len1 cap1] w fun e w' => e = .returned (.bool true) ∧ Below w.heap.size w w' := by
  have C0 : Hid (CodeAt w.heap.size a0 len0 w) := c0
  have C1 : Hid (CodeAt w.heap.size a1 len1 w) := c1
  have HT : Hid (Tabs w) := hT
  clear c0 c1 hT
  have d1 : decide (1048576 < (len0 : Int)) = false := by simp; omega
  have d2 : decide (1048576 < (len1 : Int)) = false := by simp; omega
  go_enter Tryd.func7, Tryd.ntmps7
  go_wp2_with fail
  refine (drawSign_any w.heap.size a0 len0 cap0 _ hl0 (Nat.le_refl _) C0.out).mono ?_
  rintro e w1 ⟨⟨seed, key, t, rfl, hsd, k0, k1, ht⟩, b1⟩
  clear d1 d2 C0
  go_wp2_with fail
  refine (implSign_any seed key t w1 (HT.out.below b1 HT.out.1) (by omega) (by omega)).mono ?_
  rintro e w2 ⟨v1, v2, rfl, o1, o2, _, b2⟩
  have b2 := chainB b1 b2
  obtain ⟨q1, c1, rfl, hc1, t1⟩ := ownS_form o1
  obtain ⟨q2, c2, rfl, hc2, t2⟩ := ownS_form o2
  have hSp := fun x => specSign_any seed key t x (by omega) (by omega)
  have hOk := sign_right seed key t
  have hV := @sign_true seed key t
  have hE := sgE_len seed key t
  have hP := sgP_len seed key t
  obtain ⟨hK0, hK1⟩ := sgK_bd seed key t
  generalize sgK seed key t = K at *
  generalize sgE seed key t = E at *
  generalize sgP seed key t = P at *
  obtain ⟨W3, hW3⟩ : ∃ W3, W3 = w2.alloc (.cells #[.int .i64 K, .slice q1 E.length c1, .slice q2 P.length c2] 62) := ⟨_, rfl⟩
  have HW3 : Hid (W3 = w2.alloc (.cells #[.int .i64 K, .slice q1 E.length c1, .slice q2 P.length c2] 62)) := hW3
  have ba : Below w2.heap.size w2 W3 := by rw [hW3]; exact (Below.refl _ _).alloc (Nat.le_refl _) _
  have B3' : Hid (Below w.heap.size w W3) := chainB b2 ba
  have X3 : Hid (B3 W3 w2.heap.size 62 (.int .i64 K) (.slice q1 E.length c1) (.slice q2 P.length c2)) := by rw [hW3]; exact B3.new _ _ _ _ _
  have T1 : Hid (TxtAt W3 q1 E) := t1.below ba
  have T2 : Hid (TxtAt W3 q2 P) := t2.below ba
  have HX : Hid (∀ x, Below W3.heap.size W3 x → x.cell? ⟨w2.heap.size, 0, none⟩ = some (.int .i64 K) ∧ x.cell? ⟨w2.heap.size, 1, none⟩ = some (.slice q1 E.length c1) ∧ x.cell? ⟨w2.heap.size, 2, none⟩ = some (.slice q2 P.length c2)) := fun x hb => ⟨(X3.out.below hb).c0, (X3.out.below hb).c1, (X3.out.below hb).c2⟩
  have QS : Hid (∀ x, Below W3.heap.size W3 x → Calls Tryd.prog 52 #[.string seed, .int .i64 key, .string t] x fun e x1 => ∃ q3 c3 q4 c4, e = .returned (.agg #[.int .i64 K, .slice q3 E.length c3, .slice q4 P.length c4]) ∧ E.length ≤ c3 ∧ P.length ≤ c4 ∧ TxtAt x1 q3 E ∧ TxtAt x1 q4 P ∧ Below W3.heap.size W3 x1) := fun x hb => (hSp x).mono (by
    rintro e x1 ⟨v3, v4, rfl, o3, o4, _, y⟩
    obtain ⟨q3, c3, rfl, hc3, t3⟩ := ownS_form o3
    obtain ⟨q4, c4, rfl, hc4, t4⟩ := ownS_form o4
    exact ⟨q3, c3, q4, c4, rfl, hc3, hc4, t3, t4, chainB hb y⟩)
  have QL : Hid (∀ x q3 c3 q4 c4, Below W3.heap.size W3 x → E.length ≤ c3 → P.length ≤ c4 → TxtAt x q3 E → TxtAt x q4 P → Calls Tryd.prog 51 #[.agg #[.int .i64 K, .slice q1 E.length c1, .slice q2 P.length c2], .agg #[.int .i64 K, .slice q3 E.length c3, .slice q4 P.length c4]] x fun e x1 => e = .returned (.bool true) ∧ Below W3.heap.size W3 x1) := fun x q3 c3 q4 c4 hb h3 h4 t3 t4 => (lwSig_any K q1 q2 q3 q4 c1 c2 c3 c4 E P x (T1.out.below hb) (T2.out.below hb) t3 t4 (by omega) (by omega) hc1 hc2 h3 h4).mono (by
    rintro e x1 ⟨rfl, y⟩
    exact ⟨rfl, chainB hb y⟩)
  have hRe := root_empty seed
  have QK : Hid (∀ x, Below W3.heap.size W3 x → Calls Tryd.prog 53 #[.string seed] x fun e x1 => e = .returned (.string (rootA seed)) ∧ Below W3.heap.size W3 x1) := fun x hb => (specKeyRoot_any seed x (by omega)).mono (by
    rintro e x1 ⟨rfl, y⟩
    exact ⟨rfl, chainB hb y⟩)
  have QR : Hid (∀ x, Below W3.heap.size W3 x → Calls Tryd.prog 54 #[.agg #[.int .i64 K, .slice q1 E.length c1, .slice q2 P.length c2]] x fun e x1 => e = .returned (.bool (signOk seed key t)) ∧ Below W3.heap.size W3 x1) := fun x hb => (implSigRight_any K q1 c1 E q2 c2 P x (T1.out.below hb) (T2.out.below hb) (by omega) (by omega) hc1 hc2).mono (by
    rintro e x1 ⟨rfl, y⟩
    exact ⟨by rw [hOk], chainB hb y⟩)
  have hRs := rootA_le seed
  have QV : Hid (∀ x, Below W3.heap.size W3 x → signOk seed key t = true → Calls Tryd.prog 55 #[.string (rootA seed), .string t, .agg #[.int .i64 K, .slice q1 E.length c1, .slice q2 P.length c2]] x fun e x1 => e = .returned (.bool true) ∧ Below W3.heap.size W3 x1) := fun x hb h => (implVerify_any (rootA seed) t K q1 c1 E q2 c2 P x (HT.out.below (chainB B3'.out hb) HT.out.1) (T1.out.below hb) (T2.out.below hb) (by omega) (by omega) hc1 hc2 (by omega) (by omega) (by omega) (by omega)).mono (by
    rintro e x1 ⟨rfl, y⟩
    exact ⟨by rw [hV h], chainB hb y⟩)
  have hGo : signOk seed key t = (seedB seed && (decide (0 ≤ key) && decide (key < 4))) := by
    unfold signOk
    rw [decide_eq_true (show t.size ≤ 8000 by omega), Bool.and_true]
    congr 1
    by_cases h1 : 0 ≤ key
    · by_cases h2 : key < 4
      · rw [decide_eq_true h1, decide_eq_true h2, decide_eq_true (show 0 ≤ key ∧ key ≤ 3 by omega)]; rfl
      · rw [decide_eq_true h1, decide_eq_false h2, decide_eq_false (show ¬ (0 ≤ key ∧ key ≤ 3) by omega)]; rfl
    · rw [decide_eq_false h1, decide_eq_false (show ¬ (0 ≤ key ∧ key ≤ 3) by omega)]; rfl
  have hKR := implKeyRoot_any seed W3 (HT.out.below B3'.out HT.out.1) (by omega)
  have HGo : Hid (signOk seed key t = (seedB seed && (decide (0 ≤ key) && decide (key < 4)))) := hGo
  have HRe : Hid ((rootA seed).toList.isEmpty = !(seedB seed)) := hRe
  clear hW3 ba o1 o2 t1 t2 b1 b2 hSp hOk hV hGo hRe hRs X3 T1 T2
  generalize rootA seed = R at *
  go_wp2_with fail
  rw [← HW3.out]
  refine hKR.mono ?_
  rintro e w4 ⟨rfl, b4⟩
  have B4 : Hid (Below W3.heap.size W3 w4) := b4
  clear b4 hKR HW3
  go_upto_region 6 with fail
  go_cut [60] from 33 to 60 (fun s60 wx => s60 = .bool false ∧ Hid (Below W3.heap.size W3 wx))
  case first =>
    obtain ⟨x0, x1, x2⟩ := HX.out _ B4.out
    cases hsb : seedB seed with
    | false =>
      have hok : signOk seed key t = false := by rw [HGo.out, hsb]; rfl
      have hem : R.toList.isEmpty = true := by rw [HRe.out, hsb]; rfl
      rw [hok] at QR
      clear hok HGo HRe hsb QV
      first
        | (go_region_with (first
            | (go_at_call 52; refine (QS.out _ (by first | exact B4.out | exact B4.out.drew)).mono ?_; rintro e y1 ⟨q3, c3, q4, c4, rfl, h3, h4, t3, t4, z1⟩; obtain ⟨m0, m1, m2⟩ := HX.out _ z1)
            | (go_at_call 51; refine (QL.out _ q3 c3 q4 c4 (by first | exact z1 | exact z1.drew) h3 h4 (by first | exact t3 | exact t3.below (Below.refl _ _).drew) (by first | exact t4 | exact t4.below (Below.refl _ _).drew)).mono ?_; rintro e y2 ⟨rfl, z2⟩; obtain ⟨m3, m4, m5⟩ := HX.out _ z2)
            | (go_at_call 53; refine (QK.out _ (by first | exact z2 | exact z2.drew)).mono ?_; rintro e y3 ⟨rfl, z3⟩; obtain ⟨m6, m7, m8⟩ := HX.out _ z3)
            | (go_at_call 54; refine (QR.out _ (by first | exact z3 | exact z3.drew)).mono ?_; rintro e y4 ⟨rfl, z4⟩)))
        | fail
      all_goals (go_wp2_with fail; go_meet; exact ⟨rfl, z4⟩)
    | true =>
      have hem : R.toList.isEmpty = false := by rw [HRe.out, hsb]; rfl
      by_cases h1 : 0 ≤ key
      · have d3 : decide (0 ≤ key) = true := decide_eq_true h1
        by_cases h2 : key < 4
        · have d4 : decide (key < 4) = true := decide_eq_true h2
          have hok : signOk seed key t = true := by rw [HGo.out, hsb, d3, d4]; rfl
          rw [hok] at QR
          clear hok HGo HRe hsb QV
          first
            | (go_region_held3 (fun w' => w'.cell? ⟨w2.heap.size, 0, none⟩ = some (.int .i64 K) ∧ w'.cell? ⟨w2.heap.size, 1, none⟩ = some (.slice q1 E.length c1) ∧ w'.cell? ⟨w2.heap.size, 2, none⟩ = some (.slice q2 P.length c2)) (first | exact HX.out _ B4.out.drew | exact HX.out _ z4 | exact HX.out _ z3 | exact HX.out _ z2 | exact HX.out _ z1) (first
                | (go_at_call 52; refine (QS.out _ (by first | exact B4.out | exact B4.out.drew)).mono ?_; rintro e y1 ⟨q3, c3, q4, c4, rfl, h3, h4, t3, t4, z1⟩; obtain ⟨m0, m1, m2⟩ := HX.out _ z1)
                | (go_at_call 51; refine (QL.out _ q3 c3 q4 c4 (by first | exact z1 | exact z1.drew) h3 h4 (by first | exact t3 | exact t3.below (Below.refl _ _).drew) (by first | exact t4 | exact t4.below (Below.refl _ _).drew)).mono ?_; rintro e y2 ⟨rfl, z2⟩; obtain ⟨m3, m4, m5⟩ := HX.out _ z2)
                | (go_at_call 53; refine (QK.out _ (by first | exact z2 | exact z2.drew)).mono ?_; rintro e y3 ⟨rfl, z3⟩; obtain ⟨m6, m7, m8⟩ := HX.out _ z3)
                | (go_at_call 54; refine (QR.out _ (by first | exact z3 | exact z3.drew)).mono ?_; rintro e y4 ⟨rfl, z4⟩)))
            | fail
          all_goals (go_wp2_with fail; go_meet; exact ⟨rfl, z4⟩)
        · have d4 : decide (key < 4) = false := decide_eq_false h2
          have hok : signOk seed key t = false := by rw [HGo.out, hsb, d3, d4]; rfl
          rw [hok] at QR
          clear hok HGo HRe hsb QV
          first
            | (go_region_held3 (fun w' => w'.cell? ⟨w2.heap.size, 0, none⟩ = some (.int .i64 K) ∧ w'.cell? ⟨w2.heap.size, 1, none⟩ = some (.slice q1 E.length c1) ∧ w'.cell? ⟨w2.heap.size, 2, none⟩ = some (.slice q2 P.length c2)) (first | exact HX.out _ B4.out.drew | exact HX.out _ z4 | exact HX.out _ z3 | exact HX.out _ z2 | exact HX.out _ z1) (first
                | (go_at_call 52; refine (QS.out _ (by first | exact B4.out | exact B4.out.drew)).mono ?_; rintro e y1 ⟨q3, c3, q4, c4, rfl, h3, h4, t3, t4, z1⟩; obtain ⟨m0, m1, m2⟩ := HX.out _ z1)
                | (go_at_call 51; refine (QL.out _ q3 c3 q4 c4 (by first | exact z1 | exact z1.drew) h3 h4 (by first | exact t3 | exact t3.below (Below.refl _ _).drew) (by first | exact t4 | exact t4.below (Below.refl _ _).drew)).mono ?_; rintro e y2 ⟨rfl, z2⟩; obtain ⟨m3, m4, m5⟩ := HX.out _ z2)
                | (go_at_call 53; refine (QK.out _ (by first | exact z2 | exact z2.drew)).mono ?_; rintro e y3 ⟨rfl, z3⟩; obtain ⟨m6, m7, m8⟩ := HX.out _ z3)
                | (go_at_call 54; refine (QR.out _ (by first | exact z3 | exact z3.drew)).mono ?_; rintro e y4 ⟨rfl, z4⟩)))
            | fail
          all_goals (go_wp2_with fail; go_meet; exact ⟨rfl, z4⟩)
      · have d3 : decide (0 ≤ key) = false := decide_eq_false h1
        have hok : signOk seed key t = false := by rw [HGo.out, hsb, d3]; rfl
        rw [hok] at QR
        clear hok HGo HRe hsb QV
        first
          | (go_region_with (first
              | (go_at_call 52; refine (QS.out _ (by first | exact B4.out | exact B4.out.drew)).mono ?_; rintro e y1 ⟨q3, c3, q4, c4, rfl, h3, h4, t3, t4, z1⟩; obtain ⟨m0, m1, m2⟩ := HX.out _ z1)
              | (go_at_call 51; refine (QL.out _ q3 c3 q4 c4 (by first | exact z1 | exact z1.drew) h3 h4 (by first | exact t3 | exact t3.below (Below.refl _ _).drew) (by first | exact t4 | exact t4.below (Below.refl _ _).drew)).mono ?_; rintro e y2 ⟨rfl, z2⟩; obtain ⟨m3, m4, m5⟩ := HX.out _ z2)
              | (go_at_call 53; refine (QK.out _ (by first | exact z2 | exact z2.drew)).mono ?_; rintro e y3 ⟨rfl, z3⟩; obtain ⟨m6, m7, m8⟩ := HX.out _ z3)
              | (go_at_call 54; refine (QR.out _ (by first | exact z3 | exact z3.drew)).mono ?_; rintro e y4 ⟨rfl, z4⟩)))
          | fail
        all_goals (go_wp2_with fail; go_meet; exact ⟨rfl, z4⟩)
  case rest =>
  obtain ⟨rfl, B5⟩ := hcut
  clear B4 QS QL QK HGo HRe
  go_upto_region 8 with fail
  go_cut [69] from 61 to 69 (fun s69 wx => s69 = .bool false ∧ Hid (Below W3.heap.size W3 wx))
  case first =>
    obtain ⟨x0, x1, x2⟩ := HX.out _ B5.out
    cases hok : signOk seed key t with
    | false =>
      rw [hok] at QR
      clear hok QV
      go_wp2_with fail
      refine (QR.out _ B5.out).mono ?_
      rintro e y1 ⟨rfl, z1⟩
      go_wp2_with fail
      go_meet
      exact ⟨rfl, z1⟩
    | true =>
      have QV2 := fun x hb => QV.out x hb hok
      rw [hok] at QR
      clear hok QV
      go_wp2_with fail
      refine (QR.out _ B5.out).mono ?_
      rintro e y1 ⟨rfl, z1⟩
      obtain ⟨m0, m1, m2⟩ := HX.out _ z1
      go_wp2_with fail
      refine (QV2 _ z1).mono ?_
      rintro e y2 ⟨rfl, z2⟩
      go_wp2_with fail
      go_meet
      exact ⟨rfl, z2⟩
  case rest =>
  obtain ⟨rfl, B6⟩ := hcut
  have b6 := chainB B3'.out B6.out
  clear B5 B6 QR QV HX
  go_wp2_with fail
  refine (drawVer_any w.heap.size a1 len1 cap1 _ hl1 b6.size (C1.out.below b6)).mono ?_
  rintro e w7 ⟨⟨root, text, k', u1, u2, M1, M2, rfl, hroot, htext, f1, f2, kk0, kk1⟩, b7⟩
  have b7 := chainB b6 b7
  obtain ⟨q3, c3, rfl, hc3, t3, l3, _⟩ := f1
  obtain ⟨q4, c4, rfl, hc4, t4, l4, _⟩ := f2
  obtain ⟨W8, hW8⟩ : ∃ W8, W8 = w7.alloc (.cells #[.int .i64 k', .slice q3 M1.length c3, .slice q4 M2.length c4] 62) := ⟨_, rfl⟩
  have HW8 : Hid (W8 = w7.alloc (.cells #[.int .i64 k', .slice q3 M1.length c3, .slice q4 M2.length c4] 62)) := hW8
  have ba : Below w7.heap.size w7 W8 := by rw [hW8]; exact (Below.refl _ _).alloc (Nat.le_refl _) _
  have B8 : Hid (Below w.heap.size w W8) := chainB b7 ba
  have X8 : Hid (B3 W8 w7.heap.size 62 (.int .i64 k') (.slice q3 M1.length c3) (.slice q4 M2.length c4)) := by rw [hW8]; exact B3.new _ _ _ _ _
  have T3 : Hid (TxtAt W8 q3 M1) := t3.below ba
  have T4 : Hid (TxtAt W8 q4 M2) := t4.below ba
  have HX : Hid (∀ x, Below W8.heap.size W8 x → x.cell? ⟨w7.heap.size, 0, none⟩ = some (.int .i64 k') ∧ x.cell? ⟨w7.heap.size, 1, none⟩ = some (.slice q3 M1.length c3) ∧ x.cell? ⟨w7.heap.size, 2, none⟩ = some (.slice q4 M2.length c4)) := fun x hb => ⟨(X8.out.below hb).c0, (X8.out.below hb).c1, (X8.out.below hb).c2⟩
  have Q1 : Hid (∀ x, Below W8.heap.size W8 x → Calls Tryd.prog 55 #[.string root, .string text, .agg #[.int .i64 k', .slice q3 M1.length c3, .slice q4 M2.length c4]] x fun e x1 => e = .returned (.bool (verA root text k' M1 M2)) ∧ Below W8.heap.size W8 x1) := fun x hb => (implVerify_any root text k' q3 c3 M1 q4 c4 M2 x (HT.out.below (chainB B8.out hb) HT.out.1) (T3.out.below hb) (T4.out.below hb) (by omega) (by omega) hc3 hc4 (by omega) (by omega) (by omega) (by omega)).mono (by
    rintro e x1 ⟨rfl, y⟩
    exact ⟨rfl, chainB hb y⟩)
  have Q2 : Hid (∀ x, Below W8.heap.size W8 x → Calls Tryd.prog 57 #[.string root, .string text, .agg #[.int .i64 k', .slice q3 M1.length c3, .slice q4 M2.length c4]] x fun e x1 => e = .returned (.bool (verA root text k' M1 M2)) ∧ Below W8.heap.size W8 x1) := fun x hb => (specVerify_any root text k' q3 c3 M1 q4 c4 M2 x (T3.out.below hb) (T4.out.below hb) (by omega) (by omega) hc3 hc4 (by omega) (by omega) (by omega) (by omega)).mono (by
    rintro e x1 ⟨rfl, y⟩
    exact ⟨rfl, chainB hb y⟩)
  have Q3 : Hid (∀ x, Below W8.heap.size W8 x → Calls Tryd.prog 54 #[.agg #[.int .i64 k', .slice q3 M1.length c3, .slice q4 M2.length c4]] x fun e x1 => e = .returned (.bool (sgnB k' M1 M2)) ∧ Below W8.heap.size W8 x1) := fun x hb => (implSigRight_any k' q3 c3 M1 q4 c4 M2 x (T3.out.below hb) (T4.out.below hb) (by omega) (by omega) hc3 hc4).mono (by
    rintro e x1 ⟨rfl, y⟩
    exact ⟨rfl, chainB hb y⟩)
  have Q4 : Hid (∀ x, Below W8.heap.size W8 x → Calls Tryd.prog 58 #[.agg #[.int .i64 k', .slice q3 M1.length c3, .slice q4 M2.length c4]] x fun e x1 => e = .returned (.bool (sgnB k' M1 M2)) ∧ Below W8.heap.size W8 x1) := fun x hb => (specSigRight_any k' q3 c3 M1 q4 c4 M2 x (T3.out.below hb) (T4.out.below hb) (by omega) (by omega) hc3 hc4).mono (by
    rintro e x1 ⟨rfl, y⟩
    exact ⟨rfl, chainB hb y⟩)
  generalize verA root text k' M1 M2 = V at *
  generalize sgnB k' M1 M2 = G at *
  obtain ⟨x0, x1, x2⟩ := HX.out _ (Below.refl _ _)
  have HR8 : Hid (Below W8.heap.size W8 W8) := Below.refl _ _
  clear hW8 ba t3 t4 X8 T3 T4 b6 b7 C1
  go_upto_region 11 with fail
  rw [← HW8.out]
  first
    | (go_region_held3 (fun w' => w'.cell? ⟨w7.heap.size, 0, none⟩ = some (.int .i64 k') ∧ w'.cell? ⟨w7.heap.size, 1, none⟩ = some (.slice q3 M1.length c3) ∧ w'.cell? ⟨w7.heap.size, 2, none⟩ = some (.slice q4 M2.length c4)) (first | exact HX.out _ HR8.out.drew | exact HX.out _ z4 | exact HX.out _ z3 | exact HX.out _ z2 | exact HX.out _ z1) (first
        | (go_at_call 55; refine (Q1.out _ (by first | exact HR8.out | exact HR8.out.drew)).mono ?_; rintro e y1 ⟨rfl, z1⟩; obtain ⟨m0, m1, m2⟩ := HX.out _ z1)
        | (go_at_call 57; refine (Q2.out _ (by first | exact z1 | exact z1.drew)).mono ?_; rintro e y2 ⟨rfl, z2⟩; obtain ⟨m3, m4, m5⟩ := HX.out _ z2)
        | (go_at_call 54; refine (Q3.out _ (by first | exact z2 | exact z2.drew)).mono ?_; rintro e y3 ⟨rfl, z3⟩; obtain ⟨m6, m7, m8⟩ := HX.out _ z3)
        | (go_at_call 58; refine (Q4.out _ (by first | exact z3 | exact z3.drew)).mono ?_; rintro e y4 ⟨rfl, z4⟩)))
    | fail
  all_goals
    have z5 := chainB B8.out z4
    go_wp2_with fail
    go_ret
    exact ⟨ret_bool (by simp), z5⟩
end Go.Proofs.YtlmkfjlaakmmpaaDoor
