/-
  What the program's hearCode and HearHead answer: 'hcH', 'hhV'.
  Conditions: the cells of Ends, Path and the proof hold the texts; the two tables of the digest are laid.
-/
import Derived.Test.YtonleickhincgaaGreatDoorRows
import Derived.Test.YtonleickhincgaaGreatDoorBytesDigMath
import Derived.Test.YtonleickhincgaaGreatDoorTreeMathSlABxKSlBOwnS
import Derived.Test.YtonleickhincgaaGreatDoorTimeBPutMathPutNumJoinedPutTextFldMath
import Derived.Test.YtonleickhincgaaGreatDoorLgAtKLgAnsLgRtAudMathHdMathClaMathHearMathFldGOneKFldBlkRwBlkRowOps
import Derived.Test.YtonleickhincgaaGreatDoorProof2ProofIExtLgHeadLawAudLawAudIAudSRdTextI
import Derived.Test.YtonleickhincgaaGreatDoorImplBrHdIHdSTakeProofConIClaI
import Derived.Test.YtonleickhincgaaGreatDoorImplVerInc2SignRSignWFldRiseScanMath
import Derived.Handy
import Derived.WalkSpells
import Derived.OwnWalk
import Derived.Deep.Cut
namespace Go.Proofs.YtonleickhincgaaGreatDoor
open Go.RowKit Go.Lib
set_option linter.unusedVariables false
set_option maxRecDepth 20000

theorem ret_i64 {a b : Int} (h : a = b) : Ending.returned (.int .i64 a) = .returned (.int .i64 b) := by rw [h]
set_option maxHeartbeats 8000000 in
theorem hearCode_any (k : ByteArray) (s : Int) (r h : ByteArray) (key : Int) (q1 : Option Addr) (c1 : Nat) (ends : List ByteArray) (q2 : Option Addr) (c2 : Nat) (path : List ByteArray) (p : Option Addr) (cap : Nat) (ss : List ByteArray) (w : World) (hT : Tabs w) (h1 : TxtAt w q1 ends) (h2 : TxtAt w q2 path) (hp : TxtAt w p ss) (n1 : ends.length ≤ 1048576) (n2 : path.length ≤ 1048576) (hn : ss.length ≤ 1048576) (m1 : ends.length ≤ c1) (m2 : path.length ≤ c2) (hcap : ss.length ≤ cap) (hk : k.size ≤ 1048576) (hr : r.size ≤ 1048576) (hh : h.size ≤ 1048576) (a0 : -9223372036854775808 ≤ s ∧ s ≤ 9223372036854775807) (k0 : -9223372036854775808 ≤ key ∧ key ≤ 9223372036854775807) (hs : h.size ≤ 8000) :
    Calls Tryz.prog 36 #[.agg #[.string k, .int .i64 s, .string r], .string h, .agg #[.int .i64 key, .slice q1 ends.length c1, .slice q2 path.length c2], .slice p ss.length cap] w fun e w' => e = .returned (.int .i64 (hcH k s r h key ends path ss)) ∧ Below w.heap.size w w' := by
  obtain ⟨W2, hW2⟩ : ∃ W2, W2 = (w.alloc (.cells #[.string k, .int .i64 s, .string r] 24)).alloc (.cells #[.int .i64 key, .slice q1 ends.length c1, .slice q2 path.length c2] 27) := ⟨_, rfl⟩
  have HW2 : Hid (W2 = (w.alloc (.cells #[.string k, .int .i64 s, .string r] 24)).alloc (.cells #[.int .i64 key, .slice q1 ends.length c1, .slice q2 path.length c2] 27)) := hW2
  have H2 : Hid (HrB w k s r key (.slice q1 ends.length c1) (.slice q2 path.length c2) W2) := by rw [hW2]; exact HrB.new w k s r key _ _
  clear hW2
  obtain ⟨lr, ls0, ls1⟩ := hea_le h
  have hH := implHead_any h W2 (by unfold maxLen; omega)
  have HA : Hid (∀ x, Calls Tryz.prog 12 #[.agg #[.string k, .int .i64 s, .string r]] x fun e w' => e = .returned (.bool (audB k s r)) ∧ Below x.heap.size x w') := fun x => implAud_any k s r x
  have HVe : Hid (∀ x, Below w.heap.size w x → Calls Tryz.prog 81 #[.string k, .string h, .agg #[.int .i64 key, .slice q1 ends.length c1, .slice q2 path.length c2]] x fun e w' => e = .returned (.bool (verA k h key ends path)) ∧ Below x.heap.size x w') := fun x hb => implVerify_any k h key q1 c1 ends q2 c2 path x (hT.on hb) (h1.below hb) (h2.below hb) n1 n2 m1 m2 hk hh k0.1 k0.2
  have HSi : Hid (∀ x, Calls Tryz.prog 67 #[.agg #[.string k, .int .i64 s, .string r]] x fun e w' => e = .returned (.bool (decide (0 < s))) ∧ Below x.heap.size x w') := fun x => hasSize_any k s r x
  have HCo : Hid (∀ x, Below w.heap.size w x → Calls Tryz.prog 82 #[.agg #[.string k, .int .i64 s, .string r], .agg #[.string ByteArray.empty, .int .i64 (heaS h), .string (heaR h)], .slice p ss.length cap] x fun e w' => e = .returned (.bool (conA s (heaS h) ss r (heaR h))) ∧ Below x.heap.size x w') := fun x hb => goesOn_any k s r ByteArray.empty (heaS h) (heaR h) p cap ss x (hT.on hb) (hp.below hb) hn hcap a0 ⟨by omega, by omega⟩
  unfold hcH
  clear h1 h2 hp hT a0 k0 lr ls0 ls1 hk hr hh
  generalize audB k s r = A at *
  generalize verA k h key ends path = V at *
  generalize conA s (heaS h) ss r (heaR h) = K at *
  generalize heaC h = HC at *
  generalize heaS h = HS at *
  generalize heaR h = HR at *
  generalize decide (0 < s) = SZ at *
  go_enter Tryz.func36, Tryz.ntmps36
  go_upto_region 1 with fail
  rw [← HW2.out]
  go_wp2_with fail
  with_reducible refine hH.mono ?_
  rintro e y2 ⟨rfl, z2⟩
  have H5 : Hid (HrB w k s r key (.slice q1 ends.length c1) (.slice q2 path.length c2) (y2.alloc (.cells #[.string ByteArray.empty, .int .i64 HS, .string HR, .int .i64 HC] 31))) := H2.out.below (alB z2 _)
  have X5 : Hid (Bxs (y2.alloc (.cells #[.string ByteArray.empty, .int .i64 HS, .string HR, .int .i64 HC] 31)) y2.heap.size 31 #[.string ByteArray.empty, .int .i64 HS, .string HR, .int .i64 HC]) := Bxs.new _ _ _
  clear z2 hH H2
  go_upto_region 2 with fail
  generalize y2.heap.size = E at *
  generalize y2.alloc (.cells #[.string ByteArray.empty, .int .i64 HS, .string HR, .int .i64 HC] 31) = y3 at *
  obtain ⟨x0, x1, x2, x3, x4, x5⟩ := H5.out.six
  obtain ⟨e0, e1, e2, e3⟩ := X5.out.four
  have hA := HA.out y3
  go_wp2_with fail
  with_reducible refine hA.mono ?_
  rintro e y4 ⟨rfl, zq⟩
  have H6 : Hid (HrB w k s r key (.slice q1 ends.length c1) (.slice q2 path.length c2) y4) := H5.out.below zq
  have X6 : Hid (Bxs y4 E 31 #[.string ByteArray.empty, .int .i64 HS, .string HR, .int .i64 HC]) := X5.out.below zq
  clear x0 x1 x2 x3 x4 x5 e0 e1 e2 e3 zq H5 X5
  clear hA
  obtain ⟨x0, x1, x2, x3, x4, x5⟩ := H6.out.six
  obtain ⟨e0, e1, e2, e3⟩ := X6.out.four
  cases A
  · go_wp2_with fail
    go_ret
    exact ⟨ret_i64 (by rw [hc1]), H6.out.bel⟩
  cases hC : (HC == 0)
  case false =>
    have hC2 : HC ≠ 0 := by simpa using hC
    have HC2 : Hid (HC ≠ 0) := hC2
    go_wp2_with fail
    go_ret
    exact ⟨ret_i64 (by rw [hc2 HC2.out]), H6.out.bel⟩
  obtain rfl : HC = 0 := by simpa using hC
  clear hC
  have hV := HVe.out y4 H6.out.bel
  go_wp2_with fail
  with_reducible refine hV.mono ?_
  rintro e y5 ⟨rfl, zq⟩
  have H7 : Hid (HrB w k s r key (.slice q1 ends.length c1) (.slice q2 path.length c2) y5) := H6.out.below zq
  have X7 : Hid (Bxs y5 E 31 #[.string ByteArray.empty, .int .i64 HS, .string HR, .int .i64 0]) := X6.out.below zq
  clear x0 x1 x2 x3 x4 x5 e0 e1 e2 e3 zq H6 X6
  clear hV
  obtain ⟨x0, x1, x2, x3, x4, x5⟩ := H7.out.six
  obtain ⟨e0, e1, e2, e3⟩ := X7.out.four
  cases V
  · go_wp2_with fail
    go_ret
    exact ⟨ret_i64 (by rw [hc3]), H7.out.bel⟩
  by_cases hL : HS < s
  · have d3 : decide (HS < s) = true := decide_eq_true hL
    have HL : Hid (decide (HS < s) = true) := d3
    clear hL
    go_wp2_with fail
    go_ret
    exact ⟨ret_i64 (by rw [HL.out, hc4]), H7.out.bel⟩
  have d3 : decide (HS < s) = false := decide_eq_false hL
  have HL : Hid (decide (HS < s) = false) := d3
  clear hL
  have hSi := HSi.out y5
  go_wp2_with fail
  with_reducible refine hSi.mono ?_
  rintro e y6 ⟨rfl, zq⟩
  have H8 : Hid (HrB w k s r key (.slice q1 ends.length c1) (.slice q2 path.length c2) y6) := H7.out.below zq
  have X8 : Hid (Bxs y6 E 31 #[.string ByteArray.empty, .int .i64 HS, .string HR, .int .i64 0]) := X7.out.below zq
  clear x0 x1 x2 x3 x4 x5 e0 e1 e2 e3 zq H7 X7
  clear hSi
  obtain ⟨x0, x1, x2, x3, x4, x5⟩ := H8.out.six
  obtain ⟨e0, e1, e2, e3⟩ := X8.out.four
  cases SZ
  · go_wp2_with fail
    go_ret
    exact ⟨ret_i64 (by rw [HL.out, hc6]), H8.out.bel⟩
  have hCo := HCo.out y6 H8.out.bel
  go_wp2_with fail
  with_reducible refine hCo.mono ?_
  rintro e y7 ⟨rfl, zq⟩
  have H9 : Hid (HrB w k s r key (.slice q1 ends.length c1) (.slice q2 path.length c2) y7) := H8.out.below zq
  have X9 : Hid (Bxs y7 E 31 #[.string ByteArray.empty, .int .i64 HS, .string HR, .int .i64 0]) := X8.out.below zq
  clear x0 x1 x2 x3 x4 x5 e0 e1 e2 e3 zq H8 X8
  clear hCo
  cases K
  · go_wp2_with fail
    go_ret
    exact ⟨ret_i64 (by rw [HL.out, hc5]), H9.out.bel⟩
  go_wp2_with fail
  go_ret
  exact ⟨ret_i64 (by rw [HL.out, hc7]), H9.out.bel⟩
theorem field_aud (k : ByteArray) (S : Int) (R : ByteArray) (c : Int) (x : World) : (Instr.field 31 (.agg #[.string k, .int .i64 S, .string R, .int .i64 c]) 0).run Tryz.prog x = .ok (.agg #[.string k, .int .i64 S, .string R]) x := by first | rfl | kernel_rfl
theorem joinOne_any (c : ByteArray) (w : World) (g : Nat) (hg : w.heap.size = g) (h : c.size ≤ 70368744177664) : Calls Tryz.prog 37 #[.slice (some ⟨g, 0, none⟩) 1 1] (w.alloc (.cells #[.string c] 9)) fun e w' => e = .returned (.string c) ∧ Below w.heap.size w w' := by
  subst hg
  exact joined_one c w h
set_option maxHeartbeats 8000000 in
theorem implHear_any (k : ByteArray) (s : Int) (r h : ByteArray) (key : Int) (q1 : Option Addr) (c1 : Nat) (ends : List ByteArray) (q2 : Option Addr) (c2 : Nat) (path : List ByteArray) (p : Option Addr) (cap : Nat) (ss : List ByteArray) (w : World) (hT : Tabs w) (h1 : TxtAt w q1 ends) (h2 : TxtAt w q2 path) (hp : TxtAt w p ss) (n1 : ends.length ≤ 1048576) (n2 : path.length ≤ 1048576) (hn : ss.length ≤ 1048576) (m1 : ends.length ≤ c1) (m2 : path.length ≤ c2) (hcap : ss.length ≤ cap) (hk : k.size ≤ 1048576) (hr : r.size ≤ 1048576) (hh : h.size ≤ 1048576) (a0 : -9223372036854775808 ≤ s ∧ s ≤ 9223372036854775807) (k0 : -9223372036854775808 ≤ key ∧ key ≤ 9223372036854775807) :
    Calls Tryz.prog 6 #[.agg #[.string k, .int .i64 s, .string r], .string h, .agg #[.int .i64 key, .slice q1 ends.length c1, .slice q2 path.length c2], .slice p ss.length cap] w fun e w' => e = .returned (hhV k s r h key ends path ss) ∧ Below w.heap.size w w' := by
  obtain ⟨W3, hW3⟩ : ∃ W3, W3 = ((w.alloc (.cells #[.string k, .int .i64 s, .string r] 24)).alloc (.cells #[.int .i64 key, .slice q1 ends.length c1, .slice q2 path.length c2] 27)).alloc (.cells #[.string ⟨#[]⟩, .int .i64 0, .string ⟨#[]⟩, .int .i64 0] 31) := ⟨_, rfl⟩
  have HW3 : Hid (W3 = ((w.alloc (.cells #[.string k, .int .i64 s, .string r] 24)).alloc (.cells #[.int .i64 key, .slice q1 ends.length c1, .slice q2 path.length c2] 27)).alloc (.cells #[.string ⟨#[]⟩, .int .i64 0, .string ⟨#[]⟩, .int .i64 0] 31)) := hW3
  obtain ⟨bx, rx⟩ := hear_boxes w k s r key _ _ hW3
  have H3 : Hid (HrB w k s r key (.slice q1 ends.length c1) (.slice q2 path.length c2) W3) := bx
  have R3 : Hid (HrR w W3) := rx
  clear hW3 bx rx
  by_cases hl : 8000 < h.size ∨ 400 < ss.length
  case pos =>
    have HV : Hid (hhV k s r h key ends path ss = .agg #[.string ByteArray.empty, .int .i64 0, .string ByteArray.empty, .int .i64 2]) := hhV_long hl
    rw [HV.out]
    clear h1 h2 hp a0 k0 hT
    by_cases hl1 : 8000 < h.size
    · have d1 : decide (8000 < (h.size : Int)) = true := decide_eq_true (by omega)
      obtain ⟨i0, i1, i2, i3, i4, i5, i6, i7⟩ := (R3.out).eight
      go_enter Tryz.func6, Tryz.ntmps6
      go_upto_region 1 with fail
      rw [← HW3.out]
      go_wp2_with fail
      obtain ⟨K, HEd⟩ := (R3.out).end4 (.string ⟨#[]⟩) (.int .i64 0) (.string ⟨#[]⟩) (.int .i64 2)
      generalize (((W3.setCell ⟨w.heap.size + 2, 0, none⟩ (.string ⟨#[]⟩)).setCell ⟨w.heap.size + 2, 1, none⟩ (.int .i64 0)).setCell ⟨w.heap.size + 2, 2, none⟩ (.string ⟨#[]⟩)).setCell ⟨w.heap.size + 2, 3, none⟩ (.int .i64 2) = zz at *
      have HEn : Hid (Below w.heap.size w zz) := HEd
      have k0 : zz.cell? ⟨w.heap.size + 2, 0, none⟩ = some (.string ByteArray.empty) := K.cell 0
      have k1 : zz.cell? ⟨w.heap.size + 2, 1, none⟩ = some (.int .i64 0) := K.cell 1
      have k2 : zz.cell? ⟨w.heap.size + 2, 2, none⟩ = some (.string ByteArray.empty) := K.cell 2
      have k3 : zz.cell? ⟨w.heap.size + 2, 3, none⟩ = some (.int .i64 2) := K.cell 3
      refine bodyPost_ret (v := .agg #[.string ByteArray.empty, .int .i64 0, .string ByteArray.empty, .int .i64 2]) (by simp [results, Tryz.results6, go_sem, k0, k1, k2, k3]) rfl ?_
      exact ⟨rfl, HEn.out⟩
    · have d1 : decide (8000 < (h.size : Int)) = false := decide_eq_false (by omega)
      have d2 : decide (400 < (ss.length : Int)) = true := decide_eq_true (by omega)
      obtain ⟨i0, i1, i2, i3, i4, i5, i6, i7⟩ := (R3.out).eight
      go_enter Tryz.func6, Tryz.ntmps6
      go_upto_region 1 with fail
      rw [← HW3.out]
      go_wp2_with fail
      obtain ⟨K, HEd⟩ := (R3.out).end4 (.string ⟨#[]⟩) (.int .i64 0) (.string ⟨#[]⟩) (.int .i64 2)
      generalize (((W3.setCell ⟨w.heap.size + 2, 0, none⟩ (.string ⟨#[]⟩)).setCell ⟨w.heap.size + 2, 1, none⟩ (.int .i64 0)).setCell ⟨w.heap.size + 2, 2, none⟩ (.string ⟨#[]⟩)).setCell ⟨w.heap.size + 2, 3, none⟩ (.int .i64 2) = zz at *
      have HEn : Hid (Below w.heap.size w zz) := HEd
      have k0 : zz.cell? ⟨w.heap.size + 2, 0, none⟩ = some (.string ByteArray.empty) := K.cell 0
      have k1 : zz.cell? ⟨w.heap.size + 2, 1, none⟩ = some (.int .i64 0) := K.cell 1
      have k2 : zz.cell? ⟨w.heap.size + 2, 2, none⟩ = some (.string ByteArray.empty) := K.cell 2
      have k3 : zz.cell? ⟨w.heap.size + 2, 3, none⟩ = some (.int .i64 2) := K.cell 3
      refine bodyPost_ret (v := .agg #[.string ByteArray.empty, .int .i64 0, .string ByteArray.empty, .int .i64 2]) (by simp [results, Tryz.results6, go_sem, k0, k1, k2, k3]) rfl ?_
      exact ⟨rfl, HEn.out⟩
  have HV : Hid (hhV k s r h key ends path ss = hhO k (hcH k s r h key ends path ss) (heaS h) (heaR h)) := hhV_some hl
  have d1 : decide (8000 < (h.size : Int)) = false := decide_eq_false (by omega)
  have d2 : decide (400 < (ss.length : Int)) = false := decide_eq_false (by omega)
  have hb3 := R3.out.bel
  have hCd := hearCode_any k s r h key q1 c1 ends q2 c2 path p cap ss W3 (hT.on hb3) (h1.below hb3) (h2.below hb3) (hp.below hb3) n1 n2 hn m1 m2 hcap hk hr hh a0 k0 (by omega)
  have HH : Hid (∀ x, Calls Tryz.prog 10 #[.string h] x fun e w' => e = .returned (.agg #[.string ByteArray.empty, .int .i64 (heaS h), .string (heaR h), .int .i64 (heaC h)]) ∧ Below x.heap.size x w') := fun x => implHead_any h x (by unfold maxLen; omega)
  have HJ : Hid (∀ x g, x.heap.size = g → Calls Tryz.prog 37 #[.slice (some ⟨g, 0, none⟩) 1 1] (x.alloc (.cells #[.string k] 9)) fun e w' => e = .returned (.string k) ∧ Below x.heap.size x w') := fun x g hg => joinOne_any k x g hg (by omega)
  rw [HV.out]
  clear h1 h2 hp hT a0 k0 HV hl hk hr hh hb3
  generalize hcH k s r h key ends path ss = C at *
  generalize heaC h = HC at *
  generalize heaS h = HS at *
  generalize heaR h = HR at *
  obtain ⟨x0, x1, x2, x3, x4, x5⟩ := (H3.out).six
  obtain ⟨i0, i1, i2, i3, i4, i5, i6, i7⟩ := (R3.out).eight
  go_enter Tryz.func6, Tryz.ntmps6
  go_upto_region 3 with fail
  rw [← HW3.out]
  go_wp2_with fail
  with_reducible refine hCd.mono ?_
  rintro e y1 ⟨rfl, z1⟩
  have H4 : Hid (HrB w k s r key (.slice q1 ends.length c1) (.slice q2 path.length c2) y1) := H3.out.below z1
  have R4 : Hid (HrR w y1) := R3.out.below z1
  clear x0 x1 x2 x3 x4 x5 i0 i1 i2 i3 i4 i5 i6 i7 H3 R3 z1 hCd
  obtain ⟨i0, i1, i2, i3, i4, i5, i6, i7⟩ := (R4.out).eight
  cases hC : (C == 0)
  case false =>
    have hC2 : C ≠ 0 := by simpa using hC
    have HC2 : Hid (C ≠ 0) := hC2
    go_wp2_with fail
    obtain ⟨K, HEd⟩ := (R4.out).end4 (.string ⟨#[]⟩) (.int .i64 0) (.string ⟨#[]⟩) (.int .i64 C)
    generalize (((y1.setCell ⟨w.heap.size + 2, 0, none⟩ (.string ⟨#[]⟩)).setCell ⟨w.heap.size + 2, 1, none⟩ (.int .i64 0)).setCell ⟨w.heap.size + 2, 2, none⟩ (.string ⟨#[]⟩)).setCell ⟨w.heap.size + 2, 3, none⟩ (.int .i64 C) = zz at *
    have HEn : Hid (Below w.heap.size w zz) := HEd
    have k0 : zz.cell? ⟨w.heap.size + 2, 0, none⟩ = some (.string ByteArray.empty) := K.cell 0
    have k1 : zz.cell? ⟨w.heap.size + 2, 1, none⟩ = some (.int .i64 0) := K.cell 1
    have k2 : zz.cell? ⟨w.heap.size + 2, 2, none⟩ = some (.string ByteArray.empty) := K.cell 2
    have k3 : zz.cell? ⟨w.heap.size + 2, 3, none⟩ = some (.int .i64 C) := K.cell 3
    refine bodyPost_ret (v := .agg #[.string ByteArray.empty, .int .i64 0, .string ByteArray.empty, .int .i64 C]) (by simp [results, Tryz.results6, go_sem, k0, k1, k2, k3]) rfl ?_
    exact ⟨by rw [hhO_bad HC2.out], HEn.out⟩
  obtain rfl : C = 0 := by simpa using hC
  clear hC
  go_wp2_with fail
  have hfa := fun x : World => field_aud ByteArray.empty HS HR HC x
  with_reducible refine (HH.out y1).mono ?_
  rintro e y2 ⟨rfl, z2⟩
  have H5 : Hid (HrB w k s r key (.slice q1 ends.length c1) (.slice q2 path.length c2) (y2.alloc (.cells #[.string ByteArray.empty, .int .i64 HS, .string HR] 24))) := H4.out.below (alB z2 _)
  have R5 : Hid (HrR w (y2.alloc (.cells #[.string ByteArray.empty, .int .i64 HS, .string HR] 24))) := R4.out.below (alB z2 _)
  have X5 : Hid (Bxs (y2.alloc (.cells #[.string ByteArray.empty, .int .i64 HS, .string HR] 24)) y2.heap.size 24 #[.string ByteArray.empty, .int .i64 HS, .string HR]) := Bxs.new _ _ _
  have hE : w.heap.size + 2 < y2.heap.size := by
    have := R4.out.rs.lt
    have := z2.size
    omega
  have HEE : Hid (w.heap.size + 2 < y2.heap.size) := hE
  clear i0 i1 i2 i3 i4 i5 i6 i7 H4 R4 z2 hE
  go_upto_region 7 with fail
  generalize y2.heap.size = E at *
  generalize y2.alloc (.cells #[.string ByteArray.empty, .int .i64 HS, .string HR] 24) = y3 at *
  obtain ⟨x0, x1, x2, x3, x4, x5⟩ := (H5.out).six
  have hJ := HJ.out y3 y3.heap.size rfl
  go_wp2_with fail
  with_reducible refine hJ.mono ?_
  rintro e y4 ⟨rfl, z4⟩
  have R6 : Hid (HrR w (y4.setCell ⟨E, 0, none⟩ (.string k))) := by
    have hr := R5.out.below z4
    have he := HEE.out
    exact ⟨hr.rs.other E 0 (by omega) _, hr.bel.setCell (p := ⟨E, 0, none⟩) (by show _ ≤ E; omega) _⟩
  have X6 : Hid (Bxs (y4.setCell ⟨E, 0, none⟩ (.string k)) E 24 #[.string k, .int .i64 HS, .string HR]) := (X5.out.below z4).set 0 _
  have c0 : y4.cell? ⟨E, 0, none⟩ = some (.string ByteArray.empty) := (X5.out.below z4).cell 0
  have f0 := (X5.out.below z4).fr 0
  clear x0 x1 x2 x3 x4 x5 z4 H5 R5 X5 hJ
  go_upto_region 8 with fail
  generalize y4.setCell ⟨E, 0, none⟩ (.string k) = y5 at *
  clear c0 f0
  obtain ⟨c0, c1, c2⟩ : y5.cell? ⟨E, 0, none⟩ = some (.string k) ∧ y5.cell? ⟨E, 1, none⟩ = some (.int .i64 HS) ∧ y5.cell? ⟨E, 2, none⟩ = some (.string HR) := ⟨X6.out.cell 0, X6.out.cell 1, X6.out.cell 2⟩
  obtain ⟨i0, i1, i2, i3, i4, i5, i6, i7⟩ := (R6.out).eight
  go_wp2_with fail
  obtain ⟨K, HEd⟩ := (R6.out).end4 (.string k) (.int .i64 HS) (.string HR) (.int .i64 0)
  generalize (((y5.setCell ⟨w.heap.size + 2, 0, none⟩ (.string k)).setCell ⟨w.heap.size + 2, 1, none⟩ (.int .i64 HS)).setCell ⟨w.heap.size + 2, 2, none⟩ (.string HR)).setCell ⟨w.heap.size + 2, 3, none⟩ (.int .i64 0) = zz at *
  have HEn : Hid (Below w.heap.size w zz) := HEd
  have k0 : zz.cell? ⟨w.heap.size + 2, 0, none⟩ = some (.string k) := K.cell 0
  have k1 : zz.cell? ⟨w.heap.size + 2, 1, none⟩ = some (.int .i64 HS) := K.cell 1
  have k2 : zz.cell? ⟨w.heap.size + 2, 2, none⟩ = some (.string HR) := K.cell 2
  have k3 : zz.cell? ⟨w.heap.size + 2, 3, none⟩ = some (.int .i64 0) := K.cell 3
  refine bodyPost_ret (v := .agg #[.string k, .int .i64 HS, .string HR, .int .i64 0]) (by simp [results, Tryz.results6, go_sem, k0, k1, k2, k3]) rfl ?_
  exact ⟨by rw [hhO_good], HEn.out⟩
end Go.Proofs.YtonleickhincgaaGreatDoor
