/-
  What the specification's HearHead answers: 'hhV'.
  Conditions: the cells of Ends, Path and the proof hold the texts.
-/
import Derived.Test.YtonleickhincgaaGreatDoorRows
import Derived.Test.YtonleickhincgaaGreatDoorBytesDigMath
import Derived.Test.YtonleickhincgaaGreatDoorTreeMathSlABxKSlBOwnS
import Derived.Test.YtonleickhincgaaGreatDoorLgAtKLgAnsLgRtAudMathHdMathClaMathHearMathFldGOneKFldBlkRwBlkRowOps
import Derived.Test.YtonleickhincgaaGreatDoorProof2ProofIExtLgHeadLawAudLawAudIAudSRdTextI
import Derived.Test.YtonleickhincgaaGreatDoorImplBrHdIHdSTakeProofConIClaI
import Derived.Test.YtonleickhincgaaGreatDoorImplVerInc2SignRSignWFldRiseScanMath
import Derived.Test.YtonleickhincgaaGreatDoorIsPowCon2PCon2NCon2
import Derived.Handy
import Derived.WalkSpells
import Derived.OwnWalk
import Derived.Deep.Cut
namespace Go.Proofs.YtonleickhincgaaGreatDoor
open Go.RowKit Go.Lib
set_option linter.unusedVariables false
set_option maxRecDepth 20000

set_option maxHeartbeats 8000000 in
theorem specHear_any (k : ByteArray) (s : Int) (r h : ByteArray) (key : Int) (q1 : Option Addr) (c1 : Nat) (ends : List ByteArray) (q2 : Option Addr) (c2 : Nat) (path : List ByteArray) (p : Option Addr) (cap : Nat) (ss : List ByteArray) (w : World) (h1 : TxtAt w q1 ends) (h2 : TxtAt w q2 path) (hp : TxtAt w p ss) (n1 : ends.length ≤ 1048576) (n2 : path.length ≤ 1048576) (hn : ss.length ≤ 1048576) (m1 : ends.length ≤ c1) (m2 : path.length ≤ c2) (hcap : ss.length ≤ cap) (hk : k.size ≤ 1048576) (hr : r.size ≤ 1048576) (hh : h.size ≤ 1048576) (a0 : -9223372036854775808 ≤ s ∧ s ≤ 9223372036854775807) (k0 : -9223372036854775808 ≤ key ∧ key ≤ 9223372036854775807) :
    Calls Tryz.prog 7 #[.agg #[.string k, .int .i64 s, .string r], .string h, .agg #[.int .i64 key, .slice q1 ends.length c1, .slice q2 path.length c2], .slice p ss.length cap] w fun e w' => e = .returned (hhV k s r h key ends path ss) ∧ Below w.heap.size w w' := by
  obtain ⟨W3, hW3⟩ : ∃ W3, W3 = ((w.alloc (.cells #[.string k, .int .i64 s, .string r] 24)).alloc (.cells #[.int .i64 key, .slice q1 ends.length c1, .slice q2 path.length c2] 27)).alloc (.cells #[.string ⟨#[]⟩, .int .i64 0, .string ⟨#[]⟩, .int .i64 0] 31) := ⟨_, rfl⟩
  have HW3 : Hid (W3 = ((w.alloc (.cells #[.string k, .int .i64 s, .string r] 24)).alloc (.cells #[.int .i64 key, .slice q1 ends.length c1, .slice q2 path.length c2] 27)).alloc (.cells #[.string ⟨#[]⟩, .int .i64 0, .string ⟨#[]⟩, .int .i64 0] 31)) := hW3
  obtain ⟨bx, rx⟩ := hear_boxes w k s r key _ _ hW3
  have H3 : Hid (HrB w k s r key (.slice q1 ends.length c1) (.slice q2 path.length c2) W3) := bx
  have R3 : Hid (HrR w W3) := rx
  clear hW3 bx rx
  by_cases hl : 8000 < h.size ∨ 400 < ss.length
  case pos =>
    have HV : Hid (hhV k s r h key ends path ss = .agg #[.string ByteArray.empty, .int .i64 0, .string ByteArray.empty, .int .i64 2]) := hhV_long hl
    rw [HV.out]
    clear h1 h2 hp a0 k0
    by_cases hl1 : 8000 < h.size
    · have d1 : decide (8000 < (h.size : Int)) = true := decide_eq_true (by omega)
      obtain ⟨i0, i1, i2, i3, i4, i5, i6, i7⟩ := (R3.out).eight
      go_enter Tryz.func7, Tryz.ntmps7
      go_upto_region 1 with fail
      rw [← HW3.out]
      go_wp2_with fail
      obtain ⟨K, HEd⟩ := (R3.out).end4 (.string ⟨#[]⟩) (.int .i64 0) (.string ⟨#[]⟩) (.int .i64 2)
      generalize (((W3.setCell ⟨w.heap.size + 2, 0, none⟩ (.string ⟨#[]⟩)).setCell ⟨w.heap.size + 2, 1, none⟩ (.int .i64 0)).setCell ⟨w.heap.size + 2, 2, none⟩ (.string ⟨#[]⟩)).setCell ⟨w.heap.size + 2, 3, none⟩ (.int .i64 2) = zz at *
      have HEn : Hid (Below w.heap.size w zz) := HEd
      have k0 : zz.cell? ⟨w.heap.size + 2, 0, none⟩ = some (.string ByteArray.empty) := K.cell 0
      have k1 : zz.cell? ⟨w.heap.size + 2, 1, none⟩ = some (.int .i64 0) := K.cell 1
      have k2 : zz.cell? ⟨w.heap.size + 2, 2, none⟩ = some (.string ByteArray.empty) := K.cell 2
      have k3 : zz.cell? ⟨w.heap.size + 2, 3, none⟩ = some (.int .i64 2) := K.cell 3
      refine bodyPost_ret (v := .agg #[.string ByteArray.empty, .int .i64 0, .string ByteArray.empty, .int .i64 2]) (by simp [results, Tryz.results7, go_sem, k0, k1, k2, k3]) rfl ?_
      exact ⟨rfl, HEn.out⟩
    · have d1 : decide (8000 < (h.size : Int)) = false := decide_eq_false (by omega)
      have d2 : decide (400 < (ss.length : Int)) = true := decide_eq_true (by omega)
      obtain ⟨i0, i1, i2, i3, i4, i5, i6, i7⟩ := (R3.out).eight
      go_enter Tryz.func7, Tryz.ntmps7
      go_upto_region 1 with fail
      rw [← HW3.out]
      go_wp2_with fail
      obtain ⟨K, HEd⟩ := (R3.out).end4 (.string ⟨#[]⟩) (.int .i64 0) (.string ⟨#[]⟩) (.int .i64 2)
      generalize (((W3.setCell ⟨w.heap.size + 2, 0, none⟩ (.string ⟨#[]⟩)).setCell ⟨w.heap.size + 2, 1, none⟩ (.int .i64 0)).setCell ⟨w.heap.size + 2, 2, none⟩ (.string ⟨#[]⟩)).setCell ⟨w.heap.size + 2, 3, none⟩ (.int .i64 2) = zz at *
      have HEn : Hid (Below w.heap.size w zz) := HEd
      have k0 : zz.cell? ⟨w.heap.size + 2, 0, none⟩ = some (.string ByteArray.empty) := K.cell 0
      have k1 : zz.cell? ⟨w.heap.size + 2, 1, none⟩ = some (.int .i64 0) := K.cell 1
      have k2 : zz.cell? ⟨w.heap.size + 2, 2, none⟩ = some (.string ByteArray.empty) := K.cell 2
      have k3 : zz.cell? ⟨w.heap.size + 2, 3, none⟩ = some (.int .i64 2) := K.cell 3
      refine bodyPost_ret (v := .agg #[.string ByteArray.empty, .int .i64 0, .string ByteArray.empty, .int .i64 2]) (by simp [results, Tryz.results7, go_sem, k0, k1, k2, k3]) rfl ?_
      exact ⟨rfl, HEn.out⟩
  have HV : Hid (hhV k s r h key ends path ss = hhO k (hcH k s r h key ends path ss) (heaS h) (heaR h)) := hhV_some hl
  have d1 : decide (8000 < (h.size : Int)) = false := decide_eq_false (by omega)
  have d2 : decide (400 < (ss.length : Int)) = false := decide_eq_false (by omega)
  obtain ⟨lr, ls0, ls1⟩ := hea_le h
  have HA := specAud_any k s r W3
  have HH : Hid (∀ x, Calls Tryz.prog 11 #[.string h] x fun e w' => e = .returned (.agg #[.string ByteArray.empty, .int .i64 (heaS h), .string (heaR h), .int .i64 (heaC h)]) ∧ Below x.heap.size x w') := fun x => specHead_any h x (by unfold maxLen; omega)
  have HVe : Hid (∀ x, Below w.heap.size w x → Calls Tryz.prog 14 #[.string k, .string h, .agg #[.int .i64 key, .slice q1 ends.length c1, .slice q2 path.length c2]] x fun e w' => e = .returned (.bool (verA k h key ends path)) ∧ Below x.heap.size x w') := fun x hb => specVerify_any k h key q1 c1 ends q2 c2 path x (h1.below hb) (h2.below hb) n1 n2 m1 m2 hk hh k0.1 k0.2
  have HCo : Hid (∀ x, Below w.heap.size w x → Calls Tryz.prog 38 #[.int .i64 s, .int .i64 (heaS h), .slice p ss.length cap, .string r, .string (heaR h)] x fun e w' => e = .returned (.bool (conA s (heaS h) ss r (heaR h))) ∧ Below x.heap.size x w') := fun x hb => specCon_any s (heaS h) p cap ss r (heaR h) x (hp.below hb) (by omega) hcap (by unfold maxLen; omega) (by unfold maxLen; omega) a0.1 a0.2 (by omega) (by omega)
  have HB3 : Hid (heaC h ≠ 0 → heaC h = 3 ∧ heaS h = 0 ∧ heaR h = ByteArray.empty) := fun hc => by
    cases hb : heaB h with
    | true => exact absurd (hea_good (by omega) hb).1 hc
    | false => exact hea_bad (by omega) hb
  rw [HV.out]
  unfold hcH
  clear h1 h2 hp a0 k0 HV hl lr ls0 ls1 hk hr hh
  generalize audB k s r = A at *
  generalize verA k h key ends path = V at *
  generalize conA s (heaS h) ss r (heaR h) = K at *
  generalize heaC h = HC at *
  generalize heaS h = HS at *
  generalize heaR h = HR at *
  obtain ⟨x0, x1, x2, x3, x4, x5⟩ := (H3.out).six
  obtain ⟨i0, i1, i2, i3, i4, i5, i6, i7⟩ := (R3.out).eight
  go_enter Tryz.func7, Tryz.ntmps7
  go_upto_region 3 with fail
  rw [← HW3.out]
  go_wp2_with fail
  with_reducible refine HA.mono ?_
  rintro e y1 ⟨rfl, z1⟩
  have H4 : Hid _ := H3.out.below z1
  have R4 : Hid _ := R3.out.below z1
  clear x0 x1 x2 x3 x4 x5 i0 i1 i2 i3 i4 i5 i6 i7 H3 R3 z1
  obtain ⟨x0, x1, x2, x3, x4, x5⟩ := (H4.out).six
  obtain ⟨i0, i1, i2, i3, i4, i5, i6, i7⟩ := (R4.out).eight
  cases A
  · go_wp2_with fail
    obtain ⟨K, HEd⟩ := (R4.out).end4 (.string ⟨#[]⟩) (.int .i64 0) (.string ⟨#[]⟩) (.int .i64 1)
    generalize (((y1.setCell ⟨w.heap.size + 2, 0, none⟩ (.string ⟨#[]⟩)).setCell ⟨w.heap.size + 2, 1, none⟩ (.int .i64 0)).setCell ⟨w.heap.size + 2, 2, none⟩ (.string ⟨#[]⟩)).setCell ⟨w.heap.size + 2, 3, none⟩ (.int .i64 1) = zz at *
    have HEn : Hid (Below w.heap.size w zz) := HEd
    have k0 : zz.cell? ⟨w.heap.size + 2, 0, none⟩ = some (.string ByteArray.empty) := K.cell 0
    have k1 : zz.cell? ⟨w.heap.size + 2, 1, none⟩ = some (.int .i64 0) := K.cell 1
    have k2 : zz.cell? ⟨w.heap.size + 2, 2, none⟩ = some (.string ByteArray.empty) := K.cell 2
    have k3 : zz.cell? ⟨w.heap.size + 2, 3, none⟩ = some (.int .i64 1) := K.cell 3
    refine bodyPost_ret (v := .agg #[.string ByteArray.empty, .int .i64 0, .string ByteArray.empty, .int .i64 1]) (by simp [results, Tryz.results7, go_sem, k0, k1, k2, k3]) rfl ?_
    exact ⟨by rw [hc1, hhO_bad (by decide)], HEn.out⟩
  go_wp2_with fail
  with_reducible refine (HH.out y1).mono ?_
  rintro e y2 ⟨rfl, z2⟩
  have H5 : Hid (HrB w k s r key (.slice q1 ends.length c1) (.slice q2 path.length c2) (y2.alloc (.cells #[.string ByteArray.empty, .int .i64 HS, .string HR, .int .i64 HC] 31))) := H4.out.below (alB z2 _)
  have R5 : Hid (HrR w (y2.alloc (.cells #[.string ByteArray.empty, .int .i64 HS, .string HR, .int .i64 HC] 31))) := R4.out.below (alB z2 _)
  have X5 : Hid (Bxs (y2.alloc (.cells #[.string ByteArray.empty, .int .i64 HS, .string HR, .int .i64 HC] 31)) y2.heap.size 31 #[.string ByteArray.empty, .int .i64 HS, .string HR, .int .i64 HC]) := Bxs.new _ _ _
  clear x0 x1 x2 x3 x4 x5 i0 i1 i2 i3 i4 i5 i6 i7 H4 R4 z2
  go_upto_region 6 with fail
  generalize y2.heap.size = E at *
  generalize y2.alloc (.cells #[.string ByteArray.empty, .int .i64 HS, .string HR, .int .i64 HC] 31) = y3 at *
  obtain ⟨x0, x1, x2, x3, x4, x5⟩ := (H5.out).six
  obtain ⟨i0, i1, i2, i3, i4, i5, i6, i7⟩ := (R5.out).eight
  obtain ⟨e0, e1, e2, e3⟩ := X5.out.four
  cases hC : (HC == 0)
  case false =>
    obtain ⟨c1, c2, c3⟩ := HB3.out (by simpa using hC)
    subst c1 c2 c3
    clear hC
    go_wp2_with fail
    obtain ⟨K, HEd⟩ := (R5.out).end4 (.string ByteArray.empty) (.int .i64 0) (.string ByteArray.empty) (.int .i64 3)
    generalize (((y3.setCell ⟨w.heap.size + 2, 0, none⟩ (.string ByteArray.empty)).setCell ⟨w.heap.size + 2, 1, none⟩ (.int .i64 0)).setCell ⟨w.heap.size + 2, 2, none⟩ (.string ByteArray.empty)).setCell ⟨w.heap.size + 2, 3, none⟩ (.int .i64 3) = zz at *
    have HEn : Hid (Below w.heap.size w zz) := HEd
    have k0 : zz.cell? ⟨w.heap.size + 2, 0, none⟩ = some (.string ByteArray.empty) := K.cell 0
    have k1 : zz.cell? ⟨w.heap.size + 2, 1, none⟩ = some (.int .i64 0) := K.cell 1
    have k2 : zz.cell? ⟨w.heap.size + 2, 2, none⟩ = some (.string ByteArray.empty) := K.cell 2
    have k3 : zz.cell? ⟨w.heap.size + 2, 3, none⟩ = some (.int .i64 3) := K.cell 3
    refine bodyPost_ret (v := .agg #[.string ByteArray.empty, .int .i64 0, .string ByteArray.empty, .int .i64 3]) (by simp [results, Tryz.results7, go_sem, k0, k1, k2, k3]) rfl ?_
    exact ⟨by rw [hc2 (by decide), hhO_bad (by decide)], HEn.out⟩
  obtain rfl : HC = 0 := by simpa using hC
  clear hC HB3
  have hV := HVe.out y3 R5.out.bel
  go_wp2_with fail
  with_reducible refine hV.mono ?_
  rintro e y4 ⟨rfl, z4⟩
  have H6 : Hid _ := H5.out.below z4
  have R6 : Hid _ := R5.out.below z4
  have X6 : Hid (Bxs y4 E 31 #[.string ByteArray.empty, .int .i64 HS, .string HR, .int .i64 0]) := X5.out.below z4
  clear x0 x1 x2 x3 x4 x5 i0 i1 i2 i3 i4 i5 i6 i7 e0 e1 e2 e3 H5 R5 X5 z4 hV
  obtain ⟨x0, x1, x2, x3, x4, x5⟩ := (H6.out).six
  obtain ⟨i0, i1, i2, i3, i4, i5, i6, i7⟩ := (R6.out).eight
  obtain ⟨e0, e1, e2, e3⟩ := X6.out.four
  cases V
  · go_wp2_with fail
    obtain ⟨K, HEd⟩ := (R6.out).end4 (.string ⟨#[]⟩) (.int .i64 0) (.string ⟨#[]⟩) (.int .i64 5)
    generalize (((y4.setCell ⟨w.heap.size + 2, 0, none⟩ (.string ⟨#[]⟩)).setCell ⟨w.heap.size + 2, 1, none⟩ (.int .i64 0)).setCell ⟨w.heap.size + 2, 2, none⟩ (.string ⟨#[]⟩)).setCell ⟨w.heap.size + 2, 3, none⟩ (.int .i64 5) = zz at *
    have HEn : Hid (Below w.heap.size w zz) := HEd
    have k0 : zz.cell? ⟨w.heap.size + 2, 0, none⟩ = some (.string ByteArray.empty) := K.cell 0
    have k1 : zz.cell? ⟨w.heap.size + 2, 1, none⟩ = some (.int .i64 0) := K.cell 1
    have k2 : zz.cell? ⟨w.heap.size + 2, 2, none⟩ = some (.string ByteArray.empty) := K.cell 2
    have k3 : zz.cell? ⟨w.heap.size + 2, 3, none⟩ = some (.int .i64 5) := K.cell 3
    refine bodyPost_ret (v := .agg #[.string ByteArray.empty, .int .i64 0, .string ByteArray.empty, .int .i64 5]) (by simp [results, Tryz.results7, go_sem, k0, k1, k2, k3]) rfl ?_
    exact ⟨by rw [hc3, hhO_bad (by decide)], HEn.out⟩
  by_cases hL : HS < s
  · have d3 : decide (HS < s) = true := decide_eq_true hL
    have HL : Hid (decide (HS < s) = true) := d3
    clear hL
    go_wp2_with fail
    obtain ⟨K, HEd⟩ := (R6.out).end4 (.string ⟨#[]⟩) (.int .i64 0) (.string ⟨#[]⟩) (.int .i64 8)
    generalize (((y4.setCell ⟨w.heap.size + 2, 0, none⟩ (.string ⟨#[]⟩)).setCell ⟨w.heap.size + 2, 1, none⟩ (.int .i64 0)).setCell ⟨w.heap.size + 2, 2, none⟩ (.string ⟨#[]⟩)).setCell ⟨w.heap.size + 2, 3, none⟩ (.int .i64 8) = zz at *
    have HEn : Hid (Below w.heap.size w zz) := HEd
    have k0 : zz.cell? ⟨w.heap.size + 2, 0, none⟩ = some (.string ByteArray.empty) := K.cell 0
    have k1 : zz.cell? ⟨w.heap.size + 2, 1, none⟩ = some (.int .i64 0) := K.cell 1
    have k2 : zz.cell? ⟨w.heap.size + 2, 2, none⟩ = some (.string ByteArray.empty) := K.cell 2
    have k3 : zz.cell? ⟨w.heap.size + 2, 3, none⟩ = some (.int .i64 8) := K.cell 3
    refine bodyPost_ret (v := .agg #[.string ByteArray.empty, .int .i64 0, .string ByteArray.empty, .int .i64 8]) (by simp [results, Tryz.results7, go_sem, k0, k1, k2, k3]) rfl ?_
    exact ⟨by rw [HL.out, hc4, hhO_bad (by decide)], HEn.out⟩
  have d3 : decide (HS < s) = false := decide_eq_false hL
  have HL : Hid (decide (HS < s) = false) := d3
  clear hL
  by_cases hS : 0 < s
  case neg =>
    have d4 : decide (0 < s) = false := decide_eq_false hS
    have HSz : Hid (decide (0 < s) = false) := d4
    clear hS
    go_wp2_with fail
    obtain ⟨K, HEd⟩ := (R6.out).end4 (.string k) (.int .i64 HS) (.string HR) (.int .i64 0)
    generalize (((y4.setCell ⟨w.heap.size + 2, 0, none⟩ (.string k)).setCell ⟨w.heap.size + 2, 1, none⟩ (.int .i64 HS)).setCell ⟨w.heap.size + 2, 2, none⟩ (.string HR)).setCell ⟨w.heap.size + 2, 3, none⟩ (.int .i64 0) = zz at *
    have HEn : Hid (Below w.heap.size w zz) := HEd
    have k0 : zz.cell? ⟨w.heap.size + 2, 0, none⟩ = some (.string k) := K.cell 0
    have k1 : zz.cell? ⟨w.heap.size + 2, 1, none⟩ = some (.int .i64 HS) := K.cell 1
    have k2 : zz.cell? ⟨w.heap.size + 2, 2, none⟩ = some (.string HR) := K.cell 2
    have k3 : zz.cell? ⟨w.heap.size + 2, 3, none⟩ = some (.int .i64 0) := K.cell 3
    refine bodyPost_ret (v := .agg #[.string k, .int .i64 HS, .string HR, .int .i64 0]) (by simp [results, Tryz.results7, go_sem, k0, k1, k2, k3]) rfl ?_
    exact ⟨by rw [HL.out, HSz.out, hc6, hhO_good], HEn.out⟩
  have d4 : decide (0 < s) = true := decide_eq_true hS
  have HSz : Hid (decide (0 < s) = true) := d4
  clear hS
  have hCo := HCo.out y4 R6.out.bel
  go_wp2_with fail
  with_reducible refine hCo.mono ?_
  rintro e y5 ⟨rfl, z5⟩
  have H7 : Hid _ := H6.out.below z5
  have R7 : Hid _ := R6.out.below z5
  have X7 : Hid (Bxs y5 E 31 #[.string ByteArray.empty, .int .i64 HS, .string HR, .int .i64 0]) := X6.out.below z5
  clear x0 x1 x2 x3 x4 x5 i0 i1 i2 i3 i4 i5 i6 i7 e0 e1 e2 e3 H6 R6 X6 z5 hCo
  obtain ⟨x0, x1, x2, x3, x4, x5⟩ := (H7.out).six
  obtain ⟨i0, i1, i2, i3, i4, i5, i6, i7⟩ := (R7.out).eight
  obtain ⟨e0, e1, e2, e3⟩ := X7.out.four
  cases K
  · go_wp2_with fail
    obtain ⟨K, HEd⟩ := (R7.out).end4 (.string ⟨#[]⟩) (.int .i64 0) (.string ⟨#[]⟩) (.int .i64 10)
    generalize (((y5.setCell ⟨w.heap.size + 2, 0, none⟩ (.string ⟨#[]⟩)).setCell ⟨w.heap.size + 2, 1, none⟩ (.int .i64 0)).setCell ⟨w.heap.size + 2, 2, none⟩ (.string ⟨#[]⟩)).setCell ⟨w.heap.size + 2, 3, none⟩ (.int .i64 10) = zz at *
    have HEn : Hid (Below w.heap.size w zz) := HEd
    have k0 : zz.cell? ⟨w.heap.size + 2, 0, none⟩ = some (.string ByteArray.empty) := K.cell 0
    have k1 : zz.cell? ⟨w.heap.size + 2, 1, none⟩ = some (.int .i64 0) := K.cell 1
    have k2 : zz.cell? ⟨w.heap.size + 2, 2, none⟩ = some (.string ByteArray.empty) := K.cell 2
    have k3 : zz.cell? ⟨w.heap.size + 2, 3, none⟩ = some (.int .i64 10) := K.cell 3
    refine bodyPost_ret (v := .agg #[.string ByteArray.empty, .int .i64 0, .string ByteArray.empty, .int .i64 10]) (by simp [results, Tryz.results7, go_sem, k0, k1, k2, k3]) rfl ?_
    exact ⟨by rw [HL.out, HSz.out, hc5, hhO_bad (by decide)], HEn.out⟩
  go_wp2_with fail
  obtain ⟨K, HEd⟩ := (R7.out).end4 (.string k) (.int .i64 HS) (.string HR) (.int .i64 0)
  generalize (((y5.setCell ⟨w.heap.size + 2, 0, none⟩ (.string k)).setCell ⟨w.heap.size + 2, 1, none⟩ (.int .i64 HS)).setCell ⟨w.heap.size + 2, 2, none⟩ (.string HR)).setCell ⟨w.heap.size + 2, 3, none⟩ (.int .i64 0) = zz at *
  have HEn : Hid (Below w.heap.size w zz) := HEd
  have k0 : zz.cell? ⟨w.heap.size + 2, 0, none⟩ = some (.string k) := K.cell 0
  have k1 : zz.cell? ⟨w.heap.size + 2, 1, none⟩ = some (.int .i64 HS) := K.cell 1
  have k2 : zz.cell? ⟨w.heap.size + 2, 2, none⟩ = some (.string HR) := K.cell 2
  have k3 : zz.cell? ⟨w.heap.size + 2, 3, none⟩ = some (.int .i64 0) := K.cell 3
  refine bodyPost_ret (v := .agg #[.string k, .int .i64 HS, .string HR, .int .i64 0]) (by simp [results, Tryz.results7, go_sem, k0, k1, k2, k3]) rfl ?_
  exact ⟨by rw [HL.out, HSz.out, hc7, hhO_good], HEn.out⟩
end Go.Proofs.YtonleickhincgaaGreatDoor
