/-
  The law FnPolicy returns true at every two codes of at most 2^20 bytes: a right policy stays right; a rule that is put is there once, and goes again; who is held is held once, and is free again.
-/
import Derived.Test.YtbgpkngnlfafcaaRows
import Derived.Test.YtbgpkngnlfafcaaBytes
import Derived.Test.YtbgpkngnlfafcaaSlA
import Derived.Test.YtbgpkngnlfafcaaSlB
import Derived.Test.YtbgpkngnlfafcaaOwnS
import Derived.Test.YtbgpkngnlfafcaaBxK
import Derived.Test.YtbgpkngnlfafcaaSrc
import Derived.Test.YtbgpkngnlfafcaaDraws
import Derived.Test.YtbgpkngnlfafcaaDrawKit
import Derived.Test.YtbgpkngnlfafcaaIntK
import Derived.Test.YtbgpkngnlfafcaaRulMath
import Derived.Test.YtbgpkngnlfafcaaRulBlk
import Derived.Test.YtbgpkngnlfafcaaPolMath
import Derived.Test.YtbgpkngnlfafcaaLawI
import Derived.Test.YtbgpkngnlfafcaaRowOps
import Derived.Test.YtbgpkngnlfafcaaPolO
import Derived.Test.YtbgpkngnlfafcaaPolAns
import Derived.Test.YtbgpkngnlfafcaaPolI
import Derived.Test.YtbgpkngnlfafcaaPolS
import Derived.Test.YtbgpkngnlfafcaaSpecHe
import Derived.Test.YtbgpkngnlfafcaaImplRp
import Derived.Test.YtbgpkngnlfafcaaImplRd
import Derived.Test.YtbgpkngnlfafcaaSrchIInsIImplHoImplFePolCs
import Derived.Test.YtbgpkngnlfafcaaSpecRpSpecRd
import Derived.Test.YtbgpkngnlfafcaaSpecHoSpecFe
import Derived.Test.YtbgpkngnlfafcaaPolLawLwPol
import Derived.Test.YtbgpkngnlfafcaaSomeDrawFldDrawRulDrawPo
import Derived.Test.YtbgpkngnlfafcaaDrawPol
import Derived.Test.YtbgpkngnlfafcaaDrawPols
import Derived.Handy
import Derived.WalkSpells
import Derived.OwnWalk
import Derived.Deep.RegionWith
import Derived.Deep.RegionHeld3
import Derived.Deep.Cut
import Derived.Deep.CutRange
import Derived.Test.YtbgpkngnlfafcaaTakes
namespace Go.Proofs.Ytbgpkngnlfafcaa
open Go.RowKit Go.Lib
set_option linter.unusedVariables false
set_option maxRecDepth 20000

theorem pol_D {rs : List Rul} {hs : List Int} (h : polB rs hs = true) : PlD 6 7 rs hs := by
  obtain ⟨p1, -, -, p4, p5⟩ := polB_parts h
  exact ⟨p1, by omega, fun r hr => by have := p5 r hr; exact ⟨by omega, by omega⟩⟩
theorem ans_D {c : Int} {rs : List Rul} {hs : List Int} (h0 : c = 0 → polB rs hs = true) (h1 : c ≠ 0 → rs = [] ∧ hs = []) : PlD 6 7 rs hs := by
  by_cases h : c = 0
  · exact pol_D (h0 h)
  · rw [(h1 h).1, (h1 h).2]; exact PlD.nil
theorem rp_D (rs : List Rul) (hs : List Int) (R : Rul) : PlD 6 7 (rpR rs hs R) (rpH rs hs R) := ans_D (c := rpC rs hs R) rp_right (fun h => ⟨if_neg h, if_neg h⟩)
theorem rd_D (rs : List Rul) (hs : List Int) (k f : ByteArray) : PlD 6 7 (rdR rs hs k f) (rdH rs hs k f) := ans_D (c := rdC rs hs k f) rd_right (fun h => ⟨if_neg h, if_neg h⟩)
theorem ho_D (rs : List Rul) (hs : List Int) (r : Int) : PlD 6 7 (hoR rs hs r) (hoH rs hs r) := ans_D (c := hoC rs hs r) ho_right (fun h => ⟨if_neg h, if_neg h⟩)
theorem fr_D (rs : List Rul) (hs : List Int) (r : Int) : PlD 6 7 (frR rs hs r) (frH rs hs r) := ans_D (c := frC rs hs r) fr_right (fun h => ⟨if_neg h, if_neg h⟩)
theorem field_code (q1 : Option Addr) (n1 d1 : Nat) (q2 : Option Addr) (n2 d2 : Nat) (c : Int) (x : World) : (Instr.field 32 (.agg #[.slice q1 n1 d1, .slice q2 n2 d2, .int .i64 c]) 1).run Try.prog x = .ok (.int .i64 c) x := by first | rfl | kernel_rfl

set_option maxHeartbeats 32000000 in
theorem fnPolicy_any (a0 : Option Addr) (len0 cap0 : Nat) (a1 : Option Addr) (len1 cap1 : Nat) (w : World) (hl0 : len0 ≤ 1048576) (hl1 : len1 ≤ 1048576) (c0 : CodeAt w.heap.size a0 len0 w) (c1 : CodeAt w.heap.size a1 len1 w) :
    Calls Try.prog 3 #[.slice a0 len0 cap0, .slice a1 len1 cap1] w fun e w' => e = .returned (.bool true) ∧ Below w.heap.size w w' := by
  have C0 : Hid (CodeAt w.heap.size a0 len0 w) := c0
  have C1 : Hid (CodeAt w.heap.size a1 len1 w) := c1
  have z0 : decide (1048576 < (len0 : Int)) = false := decide_eq_false (by omega)
  have z1 : decide (1048576 < (len1 : Int)) = false := decide_eq_false (by omega)
  clear c0 c1
  go_enter Try.func3, Try.ntmps3
  go_wp2_with fail
  refine (drawRulePut_any w.heap.size a0 len0 cap0 w hl0 (Nat.le_refl _) C0.out).mono ?_
  rintro e w1 ⟨⟨v1, v2, dr, dh, R, rfl, od, okd, hR⟩, b1⟩
  obtain ⟨dq1, dc1, dq2, dc2, rfl, rfl, dm1, dm2⟩ := od.form
  have AD1 : Hid (AdOk dq1 dr.length dc1) := own_ad od.own1
  have AD2 : Hid (AdOk dq2 dh.length dc2) := own_ad od.own2
  have TD : Hid (RulAt w1 dq1 dr ∧ IntAt w1 dq2 dh) := od.read
  have B1 : Hid (Below w.heap.size w w1) := b1
  have LD : Hid (PlD 7 8 dr dh) := okd
  have HR : Hid (RuD R) := hR
  clear od okd hR b1
  obtain ⟨W3, hW3⟩ : ∃ W3, W3 = (w1.alloc (.cells #[.slice dq1 dr.length dc1, .slice dq2 dh.length dc2] 26)).alloc (.cells #[.string R.k, .string R.f, .int .i64 R.l, .int .i64 R.m] 28) := ⟨_, rfl⟩
  have HW3 : Hid (W3 = (w1.alloc (.cells #[.slice dq1 dr.length dc1, .slice dq2 dh.length dc2] 26)).alloc (.cells #[.string R.k, .string R.f, .int .i64 R.l, .int .i64 R.m] 28)) := hW3
  have hs1 : (w1.alloc (.cells #[.slice dq1 dr.length dc1, .slice dq2 dh.length dc2] 26)).heap.size = w1.heap.size + 1 := by simp
  have s3 : Hid (Below w1.heap.size w1 W3) := by rw [hW3]; exact ((Below.refl _ _).alloc (Nat.le_refl _) _).alloc (by rw [hs1]; omega) _
  have K5 : Hid (Bxs W3 w1.heap.size 26 #[.slice dq1 dr.length dc1, .slice dq2 dh.length dc2]) := by rw [hW3]; exact (Bxs.new _ _ _).alloc _
  have K6 : Hid (Bxs W3 (w1.heap.size + 1) 28 #[.string R.k, .string R.f, .int .i64 R.l, .int .i64 R.m]) := by rw [hW3, ← hs1]; exact Bxs.new _ _ _
  have hc := implRulePut_any dq1 dq2 dc1 dc2 dr dh R W3 (TD.out.1.below s3.out) (TD.out.2.below s3.out) (by have := LD.out.1; omega) (by have := LD.out.2.1; omega) dm1 dm2 LD.out.le (by have := HR.out.1; have := HR.out.2; unfold maxLen; omega)
  obtain ⟨xr, hxr⟩ : ∃ X, X = rpR dr dh R := ⟨_, rfl⟩
  obtain ⟨xh, hxh⟩ : ∃ X, X = rpH dr dh R := ⟨_, rfl⟩
  obtain ⟨XC, hxc⟩ : ∃ X, X = rpC dr dh R := ⟨_, rfl⟩
  rw [← hxr, ← hxh, ← hxc] at hc
  have HXE : Hid (xr = rpR dr dh R ∧ xh = rpH dr dh R ∧ XC = rpC dr dh R) := ⟨hxr, hxh, hxc⟩
  have LX : Hid (PlD 6 7 xr xh) := by rw [hxr, hxh]; exact rp_D dr dh R
  have HXr : Hid (XC = 0 → polB xr xh = true) := by rw [hxr, hxh, hxc]; exact rp_right
  have k0 : W3.cell? ⟨w1.heap.size, 0, none⟩ = some (.slice dq1 dr.length dc1) := K5.out.cell 0
  have k1 : W3.cell? ⟨w1.heap.size, 1, none⟩ = some (.slice dq2 dh.length dc2) := K5.out.cell 1
  rw [hW3] at k0 k1
  clear hW3 hxr hxh hxc
  go_upto_region 4 with fail
  rw [← HW3.out]
  rw [← HW3.out] at k0 k1
  have k2 : W3.cell? ⟨w1.heap.size + 1, 0, none⟩ = some (.string R.k) := K6.out.cell 0
  have k3 : W3.cell? ⟨w1.heap.size + 1, 1, none⟩ = some (.string R.f) := K6.out.cell 1
  have k4 : W3.cell? ⟨w1.heap.size + 1, 2, none⟩ = some (.int .i64 R.l) := K6.out.cell 2
  have k5 : W3.cell? ⟨w1.heap.size + 1, 3, none⟩ = some (.int .i64 R.m) := K6.out.cell 3
  go_wp2_with fail
  refine hc.mono ?_
  rintro e w4 ⟨xv1, xv2, rfl, ox, b4⟩
  obtain ⟨xq1, xc1, xq2, xc2, rfl, rfl, xm1, xm2⟩ := ox.form
  have AX1 : Hid (AdOk xq1 xr.length xc1) := own_ad ox.own1
  have AX2 : Hid (AdOk xq2 xh.length xc2) := own_ad ox.own2
  have TX : Hid (RulAt w4 xq1 xr ∧ IntAt w4 xq2 xh) := ox.read
  have s4 : Hid (Below W3.heap.size W3 w4) := b4
  clear ox b4 hc k0 k1 k2 k3 k4 k5
  obtain ⟨W5, hW5⟩ : ∃ W5, W5 = w4.alloc (.cells #[.slice xq1 xr.length xc1, .slice xq2 xh.length xc2, .int .i64 XC] 32) := ⟨_, rfl⟩
  have HW5 : Hid (W5 = w4.alloc (.cells #[.slice xq1 xr.length xc1, .slice xq2 xh.length xc2, .int .i64 XC] 32)) := hW5
  have sW5 : Hid (Below w4.heap.size w4 W5) := by rw [hW5]; exact (Below.refl _ _).alloc (Nat.le_refl _) _
  have K7 : Hid (Bxs W5 w4.heap.size 32 #[.slice xq1 xr.length xc1, .slice xq2 xh.length xc2, .int .i64 XC]) := by rw [hW5]; exact Bxs.new _ _ _
  clear hW5
  have B5 : Hid (Below w.heap.size w W5) := chainB (chainB (chainB B1.out s3.out) s4.out) sW5.out
  have hz5 := B5.out.size
  go_wp2_with fail
  rw [← HW5.out]
  refine (drawRuleDrop_any w.heap.size a1 len1 cap1 W5 hl1 hz5 (C1.out.below B5.out)).mono ?_
  rintro e w6 ⟨⟨v1, v2, qr, qh, qk, qf, rfl, oq, okq, hqk, hqf⟩, b6⟩
  obtain ⟨qq1, qc1, qq2, qc2, rfl, rfl, qm1, qm2⟩ := oq.form
  have AQ1 : Hid (AdOk qq1 qr.length qc1) := own_ad oq.own1
  have AQ2 : Hid (AdOk qq2 qh.length qc2) := own_ad oq.own2
  have TQ : Hid (RulAt w6 qq1 qr ∧ IntAt w6 qq2 qh) := oq.read
  have s6 : Hid (Below W5.heap.size W5 w6) := b6
  have LQ : Hid (PlD 7 8 qr qh) := okq
  have HQK : Hid (qk.size ≤ 21 ∧ qf.size ≤ 21) := ⟨hqk, hqf⟩
  clear oq okq b6 hz5 hqk hqf
  obtain ⟨W7, hW7⟩ : ∃ W7, W7 = w6.alloc (.cells #[.slice qq1 qr.length qc1, .slice qq2 qh.length qc2] 26) := ⟨_, rfl⟩
  have HW7 : Hid (W7 = w6.alloc (.cells #[.slice qq1 qr.length qc1, .slice qq2 qh.length qc2] 26)) := hW7
  have sW7 : Hid (Below w6.heap.size w6 W7) := by rw [hW7]; exact (Below.refl _ _).alloc (Nat.le_refl _) _
  have K8 : Hid (Bxs W7 w6.heap.size 26 #[.slice qq1 qr.length qc1, .slice qq2 qh.length qc2]) := by rw [hW7]; exact Bxs.new _ _ _
  clear hW7
  have B7 : Hid (Below w.heap.size w W7) := chainB (chainB B5.out s6.out) sW7.out
  have hz7 := B7.out.size
  go_wp2_with fail
  rw [← HW7.out]
  refine (drawHold_any w.heap.size a0 len0 cap0 W7 hl0 hz7 (C0.out.below B7.out)).mono ?_
  rintro e w8 ⟨⟨v1, v2, er, eh, row, rfl, oe, oke⟩, b8⟩
  obtain ⟨eq1, ec1, eq2, ec2, rfl, rfl, em1, em2⟩ := oe.form
  have AE1 : Hid (AdOk eq1 er.length ec1) := own_ad oe.own1
  have AE2 : Hid (AdOk eq2 eh.length ec2) := own_ad oe.own2
  have TE : Hid (RulAt w8 eq1 er ∧ IntAt w8 eq2 eh) := oe.read
  have s8 : Hid (Below W7.heap.size W7 w8) := b8
  have LE : Hid (PlD 7 8 er eh) := oke
  clear oe oke b8 hz7
  obtain ⟨W9, hW9⟩ : ∃ W9, W9 = w8.alloc (.cells #[.slice eq1 er.length ec1, .slice eq2 eh.length ec2] 26) := ⟨_, rfl⟩
  have HW9 : Hid (W9 = w8.alloc (.cells #[.slice eq1 er.length ec1, .slice eq2 eh.length ec2] 26)) := hW9
  have sW9 : Hid (Below w8.heap.size w8 W9) := by rw [hW9]; exact (Below.refl _ _).alloc (Nat.le_refl _) _
  have K11 : Hid (Bxs W9 w8.heap.size 26 #[.slice eq1 er.length ec1, .slice eq2 eh.length ec2]) := by rw [hW9]; exact Bxs.new _ _ _
  clear hW9
  have hc := implHold_any eq1 eq2 ec1 ec2 er eh row W9 (TE.out.1.below sW9.out) (TE.out.2.below sW9.out) (by have := LE.out.1; omega) (by have := LE.out.2.1; omega) em1 em2 LE.out.le
  obtain ⟨yr, hyr⟩ : ∃ X, X = hoR er eh row := ⟨_, rfl⟩
  obtain ⟨yh, hyh⟩ : ∃ X, X = hoH er eh row := ⟨_, rfl⟩
  obtain ⟨YC, hyc⟩ : ∃ X, X = hoC er eh row := ⟨_, rfl⟩
  rw [← hyr, ← hyh, ← hyc] at hc
  have HYE : Hid (yr = hoR er eh row ∧ yh = hoH er eh row ∧ YC = hoC er eh row) := ⟨hyr, hyh, hyc⟩
  have LY : Hid (PlD 6 7 yr yh) := by rw [hyr, hyh]; exact ho_D er eh row
  have HYr : Hid (YC = 0 → polB yr yh = true) := by rw [hyr, hyh, hyc]; exact ho_right
  have HYa : Hid (YC = 0 → polB er eh = true ∧ hoC yr yh row = 7 ∧ frC yr yh row = 0 ∧ frR yr yh row = er ∧ frH yr yh row = eh) := by rw [hyr, hyh, hyc]; exact fun h => ⟨(hold_parts h).1, ho_again h⟩
  clear hyr hyh hyc
  go_upto_region 7 with fail
  rw [← HW9.out]
  have k0 : W9.cell? ⟨w8.heap.size, 0, none⟩ = some (.slice eq1 er.length ec1) := K11.out.cell 0
  have k1 : W9.cell? ⟨w8.heap.size, 1, none⟩ = some (.slice eq2 eh.length ec2) := K11.out.cell 1
  go_wp2_with fail
  refine hc.mono ?_
  rintro e w10 ⟨yv1, yv2, rfl, oy, b10⟩
  obtain ⟨yq1, yc1, yq2, yc2, rfl, rfl, ym1, ym2⟩ := oy.form
  have AY1 : Hid (AdOk yq1 yr.length yc1) := own_ad oy.own1
  have AY2 : Hid (AdOk yq2 yh.length yc2) := own_ad oy.own2
  have TY : Hid (RulAt w10 yq1 yr ∧ IntAt w10 yq2 yh) := oy.read
  have s10 : Hid (Below W9.heap.size W9 w10) := b10
  clear oy b10 hc k0 k1
  obtain ⟨W11, hW11⟩ : ∃ W11, W11 = w10.alloc (.cells #[.slice yq1 yr.length yc1, .slice yq2 yh.length yc2, .int .i64 YC] 32) := ⟨_, rfl⟩
  have HW11 : Hid (W11 = w10.alloc (.cells #[.slice yq1 yr.length yc1, .slice yq2 yh.length yc2, .int .i64 YC] 32)) := hW11
  have sW11 : Hid (Below w10.heap.size w10 W11) := by rw [hW11]; exact (Below.refl _ _).alloc (Nat.le_refl _) _
  have K13 : Hid (Bxs W11 w10.heap.size 32 #[.slice yq1 yr.length yc1, .slice yq2 yh.length yc2, .int .i64 YC]) := by rw [hW11]; exact Bxs.new _ _ _
  clear hW11
  have B11 : Hid (Below w.heap.size w W11) := chainB (chainB (chainB (chainB B7.out s8.out) sW9.out) s10.out) sW11.out
  have hz11 := B11.out.size
  go_wp2_with fail
  rw [← HW11.out]
  refine (drawFree_any w.heap.size a1 len1 cap1 W11 hl1 hz11 (C1.out.below B11.out)).mono ?_
  rintro e w12 ⟨⟨v1, v2, fr, fh, out, rfl, of, okf⟩, b12⟩
  obtain ⟨fq1, fc1, fq2, fc2, rfl, rfl, fm1, fm2⟩ := of.form
  have AF1 : Hid (AdOk fq1 fr.length fc1) := own_ad of.own1
  have AF2 : Hid (AdOk fq2 fh.length fc2) := own_ad of.own2
  have TF : Hid (RulAt w12 fq1 fr ∧ IntAt w12 fq2 fh) := of.read
  have s12 : Hid (Below W11.heap.size W11 w12) := b12
  have LF : Hid (PlD 7 8 fr fh) := okf
  clear of okf b12 hz11
  obtain ⟨W, hW⟩ : ∃ W, W = w12.alloc (.cells #[.slice fq1 fr.length fc1, .slice fq2 fh.length fc2] 26) := ⟨_, rfl⟩
  have HW : Hid (W = w12.alloc (.cells #[.slice fq1 fr.length fc1, .slice fq2 fh.length fc2] 26)) := hW
  have sW : Hid (Below w12.heap.size w12 W) := by rw [hW]; exact (Below.refl _ _).alloc (Nat.le_refl _) _
  have K14 : Hid (Bxs W w12.heap.size 26 #[.slice fq1 fr.length fc1, .slice fq2 fh.length fc2]) := by rw [hW]; exact Bxs.new _ _ _
  clear hW
  have t12 := sW.out
  have t11 := chainB s12.out t12
  have t10 := chainB sW11.out t11
  have t9 := chainB s10.out t10
  have t8 := chainB sW9.out t9
  have t7 := chainB s8.out t8
  have t6 := chainB sW7.out t7
  have t5 := chainB s6.out t6
  have t4 := chainB sW5.out t5
  have t3 := chainB s4.out t4
  have t1 := chainB s3.out t3
  have BW : Hid (Below w.heap.size w W) := chainB B11.out t11
  have HX : Hid (∀ w', Below W.heap.size W w' → w'.cell? ⟨w1.heap.size, 0, none⟩ = some (.slice dq1 dr.length dc1) ∧ w'.cell? ⟨w1.heap.size, 1, none⟩ = some (.slice dq2 dh.length dc2) ∧ w'.cell? ⟨w1.heap.size + 1, 0, none⟩ = some (.string R.k) ∧ w'.cell? ⟨w1.heap.size + 1, 1, none⟩ = some (.string R.f) ∧ w'.cell? ⟨w1.heap.size + 1, 2, none⟩ = some (.int .i64 R.l) ∧ w'.cell? ⟨w1.heap.size + 1, 3, none⟩ = some (.int .i64 R.m) ∧ w'.cell? ⟨w4.heap.size, 0, none⟩ = some (.slice xq1 xr.length xc1) ∧ w'.cell? ⟨w4.heap.size, 1, none⟩ = some (.slice xq2 xh.length xc2) ∧ w'.cell? ⟨w4.heap.size, 2, none⟩ = some (.int .i64 XC) ∧ w'.cell? ⟨w6.heap.size, 0, none⟩ = some (.slice qq1 qr.length qc1) ∧ w'.cell? ⟨w6.heap.size, 1, none⟩ = some (.slice qq2 qh.length qc2) ∧ w'.cell? ⟨w8.heap.size, 0, none⟩ = some (.slice eq1 er.length ec1) ∧ w'.cell? ⟨w8.heap.size, 1, none⟩ = some (.slice eq2 eh.length ec2) ∧ w'.cell? ⟨w10.heap.size, 0, none⟩ = some (.slice yq1 yr.length yc1) ∧ w'.cell? ⟨w10.heap.size, 1, none⟩ = some (.slice yq2 yh.length yc2) ∧ w'.cell? ⟨w10.heap.size, 2, none⟩ = some (.int .i64 YC) ∧ w'.cell? ⟨w12.heap.size, 0, none⟩ = some (.slice fq1 fr.length fc1) ∧ w'.cell? ⟨w12.heap.size, 1, none⟩ = some (.slice fq2 fh.length fc2)) := fun w' hb => ⟨(K5.out.below (chainB t3 hb)).cell 0, (K5.out.below (chainB t3 hb)).cell 1, (K6.out.below (chainB t3 hb)).cell 0, (K6.out.below (chainB t3 hb)).cell 1, (K6.out.below (chainB t3 hb)).cell 2, (K6.out.below (chainB t3 hb)).cell 3, (K7.out.below (chainB t5 hb)).cell 0, (K7.out.below (chainB t5 hb)).cell 1, (K7.out.below (chainB t5 hb)).cell 2, (K8.out.below (chainB t7 hb)).cell 0, (K8.out.below (chainB t7 hb)).cell 1, (K11.out.below (chainB t9 hb)).cell 0, (K11.out.below (chainB t9 hb)).cell 1, (K13.out.below (chainB t11 hb)).cell 0, (K13.out.below (chainB t11 hb)).cell 1, (K13.out.below (chainB t11 hb)).cell 2, (K14.out.below hb).cell 0, (K14.out.below hb).cell 1⟩
  have HTD : Hid (∀ x, Below W.heap.size W x → RulAt x dq1 dr ∧ IntAt x dq2 dh) := fun x hb => ⟨TD.out.1.below (chainB t1 hb), TD.out.2.below (chainB t1 hb)⟩
  have HTX : Hid (∀ x, Below W.heap.size W x → RulAt x xq1 xr ∧ IntAt x xq2 xh) := fun x hb => ⟨TX.out.1.below (chainB t4 hb), TX.out.2.below (chainB t4 hb)⟩
  have HTQ : Hid (∀ x, Below W.heap.size W x → RulAt x qq1 qr ∧ IntAt x qq2 qh) := fun x hb => ⟨TQ.out.1.below (chainB t6 hb), TQ.out.2.below (chainB t6 hb)⟩
  have HTE : Hid (∀ x, Below W.heap.size W x → RulAt x eq1 er ∧ IntAt x eq2 eh) := fun x hb => ⟨TE.out.1.below (chainB t8 hb), TE.out.2.below (chainB t8 hb)⟩
  have HTY : Hid (∀ x, Below W.heap.size W x → RulAt x yq1 yr ∧ IntAt x yq2 yh) := fun x hb => ⟨TY.out.1.below (chainB t10 hb), TY.out.2.below (chainB t10 hb)⟩
  have HTF : Hid (∀ x, Below W.heap.size W x → RulAt x fq1 fr ∧ IntAt x fq2 fh) := fun x hb => ⟨TF.out.1.below (chainB t12 hb), TF.out.2.below (chainB t12 hb)⟩
  clear t1 t3 t4 t5 t6 t7 t8 t9 t10 t11 t12 TD TX TQ TE TY TF K5 K6 K7 K8 K11 K13 K14 s3 s4 sW5 s6 sW7 s8 sW9 s10 sW11 s12 sW B1 B5 B7 B11 C0 C1 HW3 HW5 HW7 HW9 HW11
  obtain ⟨gr, hgr⟩ : ∃ X, X = rdR qr qh qk qf := ⟨_, rfl⟩
  obtain ⟨gh, hgh⟩ : ∃ X, X = rdH qr qh qk qf := ⟨_, rfl⟩
  obtain ⟨GC, hgc⟩ : ∃ X, X = rdC qr qh qk qf := ⟨_, rfl⟩
  have HGE : Hid (gr = rdR qr qh qk qf ∧ gh = rdH qr qh qk qf ∧ GC = rdC qr qh qk qf) := ⟨hgr, hgh, hgc⟩
  have LG : Hid (PlD 6 7 gr gh) := by rw [hgr, hgh]; exact rd_D qr qh qk qf
  have HGr : Hid (GC = 0 → polB gr gh = true) := by rw [hgr, hgh, hgc]; exact rd_right
  obtain ⟨jr, hjr⟩ : ∃ X, X = frR fr fh out := ⟨_, rfl⟩
  obtain ⟨jh, hjh⟩ : ∃ X, X = frH fr fh out := ⟨_, rfl⟩
  obtain ⟨JC, hjc⟩ : ∃ X, X = frC fr fh out := ⟨_, rfl⟩
  have HJE : Hid (jr = frR fr fh out ∧ jh = frH fr fh out ∧ JC = frC fr fh out) := ⟨hjr, hjh, hjc⟩
  have LJ : Hid (PlD 6 7 jr jh) := by rw [hjr, hjh]; exact fr_D fr fh out
  have HJr : Hid (JC = 0 → polB jr jh = true) := by rw [hjr, hjh, hjc]; exact fr_right
  obtain ⟨DB, hDB⟩ : ∃ X, X = polB dr dh := ⟨_, rfl⟩
  have HDE : Hid (DB = polB dr dh) := hDB
  clear hgr hgh hgc hjr hjh hjc hDB
  have QP : Hid (∀ x, Below W.heap.size W x → Calls Try.prog 11 #[.agg #[.slice dq1 dr.length dc1, .slice dq2 dh.length dc2], .agg #[.string R.k, .string R.f, .int .i64 R.l, .int .i64 R.m]] x fun e x1 => (∃ q1 c1 q2 c2, e = .returned (.agg #[.slice q1 xr.length c1, .slice q2 xh.length c2, .int .i64 XC]) ∧ xr.length ≤ c1 ∧ xh.length ≤ c2 ∧ RulAt x1 q1 xr ∧ IntAt x1 q2 xh) ∧ Below x.heap.size x x1) := fun x hb => by
    have h0 := specRulePut_any dq1 dq2 dc1 dc2 dr dh R x (HTD.out x hb).1 (HTD.out x hb).2 (by have := LD.out.1; omega) (by have := LD.out.2.1; omega) dm1 dm2 LD.out.le (by have := HR.out.1; have := HR.out.2; unfold maxLen; omega) AD1.out
    rw [← HXE.out.1, ← HXE.out.2.1, ← HXE.out.2.2] at h0
    exact h0.mono (by
      rintro e x1 ⟨v1, v2, rfl, ho, h⟩
      obtain ⟨q1, c1, q2, c2, rfl, rfl, m1, m2⟩ := ho.form
      exact ⟨⟨q1, c1, q2, c2, rfl, m1, m2, ho.read.1, ho.read.2⟩, h⟩)
  have QDi : Hid (∀ x, Below W.heap.size W x → Calls Try.prog 12 #[.agg #[.slice qq1 qr.length qc1, .slice qq2 qh.length qc2], .string qk, .string qf] x fun e x1 => (∃ q1 c1 q2 c2, e = .returned (.agg #[.slice q1 gr.length c1, .slice q2 gh.length c2, .int .i64 GC]) ∧ gr.length ≤ c1 ∧ gh.length ≤ c2 ∧ RulAt x1 q1 gr ∧ IntAt x1 q2 gh) ∧ Below x.heap.size x x1) := fun x hb => by
    have h0 := implRuleDrop_any qq1 qq2 qc1 qc2 qr qh qk qf x (HTQ.out x hb).1 (HTQ.out x hb).2 (by have := LQ.out.1; omega) (by have := LQ.out.2.1; omega) qm1 qm2 LQ.out.le (by have := HQK.out.1; omega) (by have := HQK.out.2; omega)
    rw [← HGE.out.1, ← HGE.out.2.1, ← HGE.out.2.2] at h0
    exact h0.mono (by
      rintro e x1 ⟨v1, v2, rfl, ho, h⟩
      obtain ⟨q1, c1, q2, c2, rfl, rfl, m1, m2⟩ := ho.form
      exact ⟨⟨q1, c1, q2, c2, rfl, m1, m2, ho.read.1, ho.read.2⟩, h⟩)
  have QDs : Hid (∀ x, Below W.heap.size W x → Calls Try.prog 13 #[.agg #[.slice qq1 qr.length qc1, .slice qq2 qh.length qc2], .string qk, .string qf] x fun e x1 => (∃ q1 c1 q2 c2, e = .returned (.agg #[.slice q1 gr.length c1, .slice q2 gh.length c2, .int .i64 GC]) ∧ gr.length ≤ c1 ∧ gh.length ≤ c2 ∧ RulAt x1 q1 gr ∧ IntAt x1 q2 gh) ∧ Below x.heap.size x x1) := fun x hb => by
    have h0 := specRuleDrop_any qq1 qq2 qc1 qc2 qr qh qk qf x (HTQ.out x hb).1 (HTQ.out x hb).2 (by have := LQ.out.1; omega) (by have := LQ.out.2.1; omega) qm1 qm2 LQ.out.le (by have := HQK.out.1; omega) (by have := HQK.out.2; omega)
    rw [← HGE.out.1, ← HGE.out.2.1, ← HGE.out.2.2] at h0
    exact h0.mono (by
      rintro e x1 ⟨v1, v2, rfl, ho, h⟩
      obtain ⟨q1, c1, q2, c2, rfl, rfl, m1, m2⟩ := ho.form
      exact ⟨⟨q1, c1, q2, c2, rfl, m1, m2, ho.read.1, ho.read.2⟩, h⟩)
  have QH : Hid (∀ x, Below W.heap.size W x → Calls Try.prog 14 #[.agg #[.slice eq1 er.length ec1, .slice eq2 eh.length ec2], .int .i64 row] x fun e x1 => (∃ q1 c1 q2 c2, e = .returned (.agg #[.slice q1 yr.length c1, .slice q2 yh.length c2, .int .i64 YC]) ∧ yr.length ≤ c1 ∧ yh.length ≤ c2 ∧ RulAt x1 q1 yr ∧ IntAt x1 q2 yh) ∧ Below x.heap.size x x1) := fun x hb => by
    have h0 := specHold_any eq1 eq2 ec1 ec2 er eh row x (HTE.out x hb).1 (HTE.out x hb).2 (by have := LE.out.1; omega) (by have := LE.out.2.1; omega) em1 em2 LE.out.le AE2.out
    rw [← HYE.out.1, ← HYE.out.2.1, ← HYE.out.2.2] at h0
    exact h0.mono (by
      rintro e x1 ⟨v1, v2, rfl, ho, h⟩
      obtain ⟨q1, c1, q2, c2, rfl, rfl, m1, m2⟩ := ho.form
      exact ⟨⟨q1, c1, q2, c2, rfl, m1, m2, ho.read.1, ho.read.2⟩, h⟩)
  have QFi : Hid (∀ x, Below W.heap.size W x → Calls Try.prog 15 #[.agg #[.slice fq1 fr.length fc1, .slice fq2 fh.length fc2], .int .i64 out] x fun e x1 => (∃ q1 c1 q2 c2, e = .returned (.agg #[.slice q1 jr.length c1, .slice q2 jh.length c2, .int .i64 JC]) ∧ jr.length ≤ c1 ∧ jh.length ≤ c2 ∧ RulAt x1 q1 jr ∧ IntAt x1 q2 jh) ∧ Below x.heap.size x x1) := fun x hb => by
    have h0 := implFree_any fq1 fq2 fc1 fc2 fr fh out x (HTF.out x hb).1 (HTF.out x hb).2 (by have := LF.out.1; omega) (by have := LF.out.2.1; omega) fm1 fm2 LF.out.le
    rw [← HJE.out.1, ← HJE.out.2.1, ← HJE.out.2.2] at h0
    exact h0.mono (by
      rintro e x1 ⟨v1, v2, rfl, ho, h⟩
      obtain ⟨q1, c1, q2, c2, rfl, rfl, m1, m2⟩ := ho.form
      exact ⟨⟨q1, c1, q2, c2, rfl, m1, m2, ho.read.1, ho.read.2⟩, h⟩)
  have QFs : Hid (∀ x, Below W.heap.size W x → Calls Try.prog 16 #[.agg #[.slice fq1 fr.length fc1, .slice fq2 fh.length fc2], .int .i64 out] x fun e x1 => (∃ q1 c1 q2 c2, e = .returned (.agg #[.slice q1 jr.length c1, .slice q2 jh.length c2, .int .i64 JC]) ∧ jr.length ≤ c1 ∧ jh.length ≤ c2 ∧ RulAt x1 q1 jr ∧ IntAt x1 q2 jh) ∧ Below x.heap.size x x1) := fun x hb => by
    have h0 := specFree_any fq1 fq2 fc1 fc2 fr fh out x (HTF.out x hb).1 (HTF.out x hb).2 (by have := LF.out.1; omega) (by have := LF.out.2.1; omega) fm1 fm2 LF.out.le AF2.out
    rw [← HJE.out.1, ← HJE.out.2.1, ← HJE.out.2.2] at h0
    exact h0.mono (by
      rintro e x1 ⟨v1, v2, rfl, ho, h⟩
      obtain ⟨q1, c1, q2, c2, rfl, rfl, m1, m2⟩ := ho.form
      exact ⟨⟨q1, c1, q2, c2, rfl, m1, m2, ho.read.1, ho.read.2⟩, h⟩)
  have QRi : Hid (∀ x, Below W.heap.size W x → Calls Try.prog 17 #[.agg #[.slice dq1 dr.length dc1, .slice dq2 dh.length dc2]] x fun e x1 => e = .returned (.bool DB) ∧ Below x.heap.size x x1) := fun x hb => by
    have h0 := implPolicyRight_any dq1 dq2 dc1 dc2 dr dh x (HTD.out x hb).1 (HTD.out x hb).2 (by have := LD.out.1; omega) (by have := LD.out.2.1; omega) dm1 dm2 LD.out.le
    rw [← HDE.out] at h0
    exact h0
  have QRs : Hid (∀ x, Below W.heap.size W x → Calls Try.prog 18 #[.agg #[.slice dq1 dr.length dc1, .slice dq2 dh.length dc2]] x fun e x1 => e = .returned (.bool DB) ∧ Below x.heap.size x x1) := fun x hb => by
    have h0 := specPolicyRight_any dq1 dq2 dc1 dc2 dr dh x (HTD.out x hb).1 (HTD.out x hb).2 (by have := LD.out.1; omega) (by have := LD.out.2.1; omega) dm1 dm2 LD.out.le
    rw [← HDE.out] at h0
    exact h0
  have QLx : Hid (∀ x q1 c1 q2 c2, Below W.heap.size W x → xr.length ≤ c1 → xh.length ≤ c2 → RulAt x q1 xr → IntAt x q2 xh → Calls Try.prog 10 #[.agg #[.slice xq1 xr.length xc1, .slice xq2 xh.length xc2, .int .i64 XC], .agg #[.slice q1 xr.length c1, .slice q2 xh.length c2, .int .i64 XC]] x fun e x1 => e = .returned (.bool true) ∧ Below x.heap.size x x1) := fun x q1 c1 q2 c2 hb g1 g2 t1 t2 => lwPolicy_any _ _ _ _ _ _ _ _ xr xh XC x (HTX.out x hb).1 (HTX.out x hb).2 t1 t2 (by have := LX.out.1; omega) (by have := LX.out.2.1; omega) xm1 xm2 g1 g2 LX.out.le HXr.out
  have QLg : Hid (∀ x p1 d1 p2 d2 q1 c1 q2 c2, gr.length ≤ d1 → gh.length ≤ d2 → gr.length ≤ c1 → gh.length ≤ c2 → RulAt x p1 gr → IntAt x p2 gh → RulAt x q1 gr → IntAt x q2 gh → Calls Try.prog 10 #[.agg #[.slice p1 gr.length d1, .slice p2 gh.length d2, .int .i64 GC], .agg #[.slice q1 gr.length c1, .slice q2 gh.length c2, .int .i64 GC]] x fun e x1 => e = .returned (.bool true) ∧ Below x.heap.size x x1) := fun x p1 d1 p2 d2 q1 c1 q2 c2 j1 j2 g1 g2 r1 r2 t1 t2 => lwPolicy_any _ _ _ _ _ _ _ _ gr gh GC x r1 r2 t1 t2 (by have := LG.out.1; omega) (by have := LG.out.2.1; omega) j1 j2 g1 g2 LG.out.le HGr.out
  have QLy : Hid (∀ x q1 c1 q2 c2, Below W.heap.size W x → yr.length ≤ c1 → yh.length ≤ c2 → RulAt x q1 yr → IntAt x q2 yh → Calls Try.prog 10 #[.agg #[.slice yq1 yr.length yc1, .slice yq2 yh.length yc2, .int .i64 YC], .agg #[.slice q1 yr.length c1, .slice q2 yh.length c2, .int .i64 YC]] x fun e x1 => e = .returned (.bool true) ∧ Below x.heap.size x x1) := fun x q1 c1 q2 c2 hb g1 g2 t1 t2 => lwPolicy_any _ _ _ _ _ _ _ _ yr yh YC x (HTY.out x hb).1 (HTY.out x hb).2 t1 t2 (by have := LY.out.1; omega) (by have := LY.out.2.1; omega) ym1 ym2 g1 g2 LY.out.le HYr.out
  have QLj : Hid (∀ x p1 d1 p2 d2 q1 c1 q2 c2, jr.length ≤ d1 → jh.length ≤ d2 → jr.length ≤ c1 → jh.length ≤ c2 → RulAt x p1 jr → IntAt x p2 jh → RulAt x q1 jr → IntAt x q2 jh → Calls Try.prog 10 #[.agg #[.slice p1 jr.length d1, .slice p2 jh.length d2, .int .i64 JC], .agg #[.slice q1 jr.length c1, .slice q2 jh.length c2, .int .i64 JC]] x fun e x1 => e = .returned (.bool true) ∧ Below x.heap.size x x1) := fun x p1 d1 p2 d2 q1 c1 q2 c2 j1 j2 g1 g2 r1 r2 t1 t2 => lwPolicy_any _ _ _ _ _ _ _ _ jr jh JC x r1 r2 t1 t2 (by have := LJ.out.1; omega) (by have := LJ.out.2.1; omega) j1 j2 g1 g2 LJ.out.le HJr.out
  have BR : Hid (Below W.heap.size W W) := Below.refl _ _
  have hdb : (DB != DB) = false := by cases DB <;> rfl
  go_upto_region 9 with fail
  rw [← HW.out]
  go_cut [94] from 52 to 94 (fun s94 wx => s94 = .bool false ∧ Hid (Below W.heap.size W wx))
  case first =>
    first
      | (go_region_held3 (fun w' => w'.cell? ⟨w1.heap.size, 0, none⟩ = some (.slice dq1 dr.length dc1) ∧ w'.cell? ⟨w1.heap.size, 1, none⟩ = some (.slice dq2 dh.length dc2) ∧ w'.cell? ⟨w1.heap.size + 1, 0, none⟩ = some (.string R.k) ∧ w'.cell? ⟨w1.heap.size + 1, 1, none⟩ = some (.string R.f) ∧ w'.cell? ⟨w1.heap.size + 1, 2, none⟩ = some (.int .i64 R.l) ∧ w'.cell? ⟨w1.heap.size + 1, 3, none⟩ = some (.int .i64 R.m) ∧ w'.cell? ⟨w4.heap.size, 0, none⟩ = some (.slice xq1 xr.length xc1) ∧ w'.cell? ⟨w4.heap.size, 1, none⟩ = some (.slice xq2 xh.length xc2) ∧ w'.cell? ⟨w4.heap.size, 2, none⟩ = some (.int .i64 XC) ∧ w'.cell? ⟨w6.heap.size, 0, none⟩ = some (.slice qq1 qr.length qc1) ∧ w'.cell? ⟨w6.heap.size, 1, none⟩ = some (.slice qq2 qh.length qc2) ∧ w'.cell? ⟨w8.heap.size, 0, none⟩ = some (.slice eq1 er.length ec1) ∧ w'.cell? ⟨w8.heap.size, 1, none⟩ = some (.slice eq2 eh.length ec2) ∧ w'.cell? ⟨w10.heap.size, 0, none⟩ = some (.slice yq1 yr.length yc1) ∧ w'.cell? ⟨w10.heap.size, 1, none⟩ = some (.slice yq2 yh.length yc2) ∧ w'.cell? ⟨w10.heap.size, 2, none⟩ = some (.int .i64 YC) ∧ w'.cell? ⟨w12.heap.size, 0, none⟩ = some (.slice fq1 fr.length fc1) ∧ w'.cell? ⟨w12.heap.size, 1, none⟩ = some (.slice fq2 fh.length fc2)) ((refine HX.out _ ?hq; (case hq => first | with_reducible assumption | exact BR.out | exact BR.out.drew))) (first
          | (go_at_call 11; with_reducible refine (QP.out _ ?hb).mono ?_; (case hb => first | with_reducible assumption | exact BR.out | exact BR.out.drew); rintro e y1 ⟨⟨a1q, a1c, a2q, a2c, rfl, am1, am2, at1, at2⟩, z1⟩; have z1 : Below W.heap.size W y1 := chainB (by first | assumption | exact BR.out | exact BR.out.drew) z1)
          | (go_at_call 10; with_reducible refine (QLx.out _ _ _ _ _ ?hb am1 am2 at1 at2).mono ?_; (case hb => first | with_reducible assumption | exact BR.out | exact BR.out.drew); rintro e y2 ⟨rfl, z2⟩; have z2 : Below W.heap.size W y2 := chainB z1 z2)
          | (go_at_call 12; with_reducible refine (QDi.out _ ?hb).mono ?_; (case hb => first | with_reducible assumption | exact BR.out | exact BR.out.drew); rintro e y3 ⟨⟨b1q, b1c, b2q, b2c, rfl, bm1, bm2, bt1, bt2⟩, z3⟩; have z3 : Below W.heap.size W y3 := chainB z2 z3)
          | (go_at_call 13; with_reducible refine (QDs.out _ ?hb).mono ?_; (case hb => first | with_reducible assumption | exact BR.out | exact BR.out.drew); rintro e y4 ⟨⟨c1q, c1c, c2q, c2c, rfl, cm1, cm2, ct1, ct2⟩, z4⟩; have bt1 := bt1.below z4; have bt2 := bt2.below z4; have z4 : Below W.heap.size W y4 := chainB z3 z4)
          | (go_at_call 10; with_reducible refine (QLg.out _ _ _ _ _ _ _ _ _ bm1 bm2 cm1 cm2 bt1 bt2 ct1 ct2).mono ?_; rintro e y5 ⟨rfl, z5⟩; have z5 : Below W.heap.size W y5 := chainB z4 z5)
          | (go_at_call 14; with_reducible refine (QH.out _ ?hb).mono ?_; (case hb => first | with_reducible assumption | exact BR.out | exact BR.out.drew); rintro e y6 ⟨⟨d1q, d1c, d2q, d2c, rfl, dn1, dn2, dt1, dt2⟩, z6⟩; have z6 : Below W.heap.size W y6 := chainB z5 z6)
          | (go_at_call 10; with_reducible refine (QLy.out _ _ _ _ _ ?hb dn1 dn2 dt1 dt2).mono ?_; (case hb => first | with_reducible assumption | exact BR.out | exact BR.out.drew); rintro e y7 ⟨rfl, z7⟩; have z7 : Below W.heap.size W y7 := chainB z6 z7)
          | (go_at_call 15; with_reducible refine (QFi.out _ ?hb).mono ?_; (case hb => first | with_reducible assumption | exact BR.out | exact BR.out.drew); rintro e y8 ⟨⟨f1q, f1c, f2q, f2c, rfl, fn1, fn2, ft1, ft2⟩, z8⟩; have z8 : Below W.heap.size W y8 := chainB z7 z8)
          | (go_at_call 16; with_reducible refine (QFs.out _ ?hb).mono ?_; (case hb => first | with_reducible assumption | exact BR.out | exact BR.out.drew); rintro e y9 ⟨⟨g1q, g1c, g2q, g2c, rfl, gm1, gm2, gt1, gt2⟩, z9⟩; have ft1 := ft1.below z9; have ft2 := ft2.below z9; have z9 : Below W.heap.size W y9 := chainB z8 z9)
          | (go_at_call 10; with_reducible refine (QLj.out _ _ _ _ _ _ _ _ _ fn1 fn2 gm1 gm2 ft1 ft2 gt1 gt2).mono ?_; rintro e y10 ⟨rfl, z10⟩; have z10 : Below W.heap.size W y10 := chainB z9 z10)
          | (go_at_call 17; with_reducible refine (QRi.out _ ?hb).mono ?_; (case hb => first | with_reducible assumption | exact BR.out | exact BR.out.drew); rintro e y11 ⟨rfl, z11⟩; have z11 : Below W.heap.size W y11 := chainB z10 z11)
          | (go_at_call 18; with_reducible refine (QRs.out _ ?hb).mono ?_; (case hb => first | with_reducible assumption | exact BR.out | exact BR.out.drew); rintro e y12 ⟨rfl, z12⟩; have z12 : Below W.heap.size W y12 := chainB z11 z12)))
      | fail
    all_goals (go_wp2_with fail; go_meet; exact ⟨rfl, z12⟩)
  case rest =>
  obtain ⟨rfl, B0⟩ := hcut
  obtain ⟨W9, rfl⟩ : ∃ W9 : World, W9 = wc := ⟨_, rfl⟩
  clear QP QDi QDs QH QFi QFs QRi QRs QLx QLg QLy QLj BR hdb HDE HGE HJE HW LG LJ HGr HJr
  have fc := field_code
  have HX9 : Hid (∀ w', Below W9.heap.size W9 w' → w'.cell? ⟨w1.heap.size, 0, none⟩ = some (.slice dq1 dr.length dc1) ∧ w'.cell? ⟨w1.heap.size, 1, none⟩ = some (.slice dq2 dh.length dc2) ∧ w'.cell? ⟨w1.heap.size + 1, 0, none⟩ = some (.string R.k) ∧ w'.cell? ⟨w1.heap.size + 1, 1, none⟩ = some (.string R.f) ∧ w'.cell? ⟨w1.heap.size + 1, 2, none⟩ = some (.int .i64 R.l) ∧ w'.cell? ⟨w1.heap.size + 1, 3, none⟩ = some (.int .i64 R.m) ∧ w'.cell? ⟨w4.heap.size, 0, none⟩ = some (.slice xq1 xr.length xc1) ∧ w'.cell? ⟨w4.heap.size, 1, none⟩ = some (.slice xq2 xh.length xc2) ∧ w'.cell? ⟨w4.heap.size, 2, none⟩ = some (.int .i64 XC) ∧ w'.cell? ⟨w6.heap.size, 0, none⟩ = some (.slice qq1 qr.length qc1) ∧ w'.cell? ⟨w6.heap.size, 1, none⟩ = some (.slice qq2 qh.length qc2) ∧ w'.cell? ⟨w8.heap.size, 0, none⟩ = some (.slice eq1 er.length ec1) ∧ w'.cell? ⟨w8.heap.size, 1, none⟩ = some (.slice eq2 eh.length ec2) ∧ w'.cell? ⟨w10.heap.size, 0, none⟩ = some (.slice yq1 yr.length yc1) ∧ w'.cell? ⟨w10.heap.size, 1, none⟩ = some (.slice yq2 yh.length yc2) ∧ w'.cell? ⟨w10.heap.size, 2, none⟩ = some (.int .i64 YC) ∧ w'.cell? ⟨w12.heap.size, 0, none⟩ = some (.slice fq1 fr.length fc1) ∧ w'.cell? ⟨w12.heap.size, 1, none⟩ = some (.slice fq2 fh.length fc2)) := fun w' hb => HX.out w' (chainB B0.out hb)
  have hb9 := Below.refl W9.heap.size W9
  have XB9 := HX9.out _ hb9
  go_upto_region 11 with fail
  go_cut [115] from 95 to 115 (fun s115 wx => s115 = .bool false ∧ Hid (Below W9.heap.size W9 wx))
  case first =>
    by_cases hy : YC = 0
    · obtain ⟨hp1, ha1, ha2, ha3, ha4⟩ := HYa.out hy
      have HEr : Hid (polB er eh = true) := hp1
      have hbe : (YC == 0) = true := beq_iff_eq.2 hy
      have QHa : Hid (∀ x, Below W9.heap.size W9 x → Calls Try.prog 8 #[.agg #[.slice yq1 yr.length yc1, .slice yq2 yh.length yc2], .int .i64 row] x fun e x1 => (∃ q1 n1 c1 q2 n2 c2, e = .returned (.agg #[.slice q1 n1 c1, .slice q2 n2 c2, .int .i64 7])) ∧ Below x.heap.size x x1) := fun x hb => by
        have h0 := implHold_any yq1 yq2 yc1 yc2 yr yh row x (HTY.out x (chainB B0.out hb)).1 (HTY.out x (chainB B0.out hb)).2 (by have := LY.out.1; omega) (by have := LY.out.2.1; omega) ym1 ym2 LY.out.le
        rw [ha1] at h0
        exact h0.mono (by
          rintro e x1 ⟨v1, v2, rfl, ho, h⟩
          obtain ⟨q1, c1, q2, c2, rfl, rfl, -, -⟩ := ho.form
          exact ⟨⟨q1, _, c1, q2, _, c2, rfl⟩, h⟩)
      have QFa : Hid (∀ x, Below W9.heap.size W9 x → Calls Try.prog 15 #[.agg #[.slice yq1 yr.length yc1, .slice yq2 yh.length yc2], .int .i64 row] x fun e x1 => (∃ q1 c1 q2 c2, e = .returned (.agg #[.slice q1 er.length c1, .slice q2 eh.length c2, .int .i64 0]) ∧ er.length ≤ c1 ∧ eh.length ≤ c2 ∧ RulAt x1 q1 er ∧ IntAt x1 q2 eh) ∧ Below x.heap.size x x1) := fun x hb => by
        have h0 := implFree_any yq1 yq2 yc1 yc2 yr yh row x (HTY.out x (chainB B0.out hb)).1 (HTY.out x (chainB B0.out hb)).2 (by have := LY.out.1; omega) (by have := LY.out.2.1; omega) ym1 ym2 LY.out.le
        rw [ha2, ha3, ha4] at h0
        exact h0.mono (by
          rintro e x1 ⟨v1, v2, rfl, ho, h⟩
          obtain ⟨q1, c1, q2, c2, rfl, rfl, m1, m2⟩ := ho.form
          exact ⟨⟨q1, c1, q2, c2, rfl, m1, m2, ho.read.1, ho.read.2⟩, h⟩)
      have QLa : Hid (∀ x q1 c1 q2 c2, Below W9.heap.size W9 x → er.length ≤ c1 → eh.length ≤ c2 → RulAt x q1 er → IntAt x q2 eh → Calls Try.prog 10 #[.agg #[.slice q1 er.length c1, .slice q2 eh.length c2, .int .i64 0], .agg #[.slice eq1 er.length ec1, .slice eq2 eh.length ec2, .int .i64 0]] x fun e x1 => e = .returned (.bool true) ∧ Below x.heap.size x x1) := fun x q1 c1 q2 c2 hb g1 g2 t1 t2 => lwPolicy_any _ _ _ _ _ _ _ _ er eh 0 x t1 t2 (HTE.out x (chainB B0.out hb)).1 (HTE.out x (chainB B0.out hb)).2 (by have := LE.out.1; omega) (by have := LE.out.2.1; omega) g1 g2 em1 em2 LE.out.le (fun _ => HEr.out)
      have BR : Hid (Below W9.heap.size W9 W9) := Below.refl _ _
      subst hy
      clear hp1 ha1 ha2 ha3 ha4
      obtain ⟨p0, p1, p2, p3, p4, p5, p6, p7, p8, p9, p10, p11, p12, p13, p14, p15, p16, p17⟩ := XB9
      first
        | (go_region_held3 (fun w' => w'.cell? ⟨w1.heap.size, 0, none⟩ = some (.slice dq1 dr.length dc1) ∧ w'.cell? ⟨w1.heap.size, 1, none⟩ = some (.slice dq2 dh.length dc2) ∧ w'.cell? ⟨w1.heap.size + 1, 0, none⟩ = some (.string R.k) ∧ w'.cell? ⟨w1.heap.size + 1, 1, none⟩ = some (.string R.f) ∧ w'.cell? ⟨w1.heap.size + 1, 2, none⟩ = some (.int .i64 R.l) ∧ w'.cell? ⟨w1.heap.size + 1, 3, none⟩ = some (.int .i64 R.m) ∧ w'.cell? ⟨w4.heap.size, 0, none⟩ = some (.slice xq1 xr.length xc1) ∧ w'.cell? ⟨w4.heap.size, 1, none⟩ = some (.slice xq2 xh.length xc2) ∧ w'.cell? ⟨w4.heap.size, 2, none⟩ = some (.int .i64 XC) ∧ w'.cell? ⟨w6.heap.size, 0, none⟩ = some (.slice qq1 qr.length qc1) ∧ w'.cell? ⟨w6.heap.size, 1, none⟩ = some (.slice qq2 qh.length qc2) ∧ w'.cell? ⟨w8.heap.size, 0, none⟩ = some (.slice eq1 er.length ec1) ∧ w'.cell? ⟨w8.heap.size, 1, none⟩ = some (.slice eq2 eh.length ec2) ∧ w'.cell? ⟨w10.heap.size, 0, none⟩ = some (.slice yq1 yr.length yc1) ∧ w'.cell? ⟨w10.heap.size, 1, none⟩ = some (.slice yq2 yh.length yc2) ∧ w'.cell? ⟨w10.heap.size, 2, none⟩ = some (.int .i64 0) ∧ w'.cell? ⟨w12.heap.size, 0, none⟩ = some (.slice fq1 fr.length fc1) ∧ w'.cell? ⟨w12.heap.size, 1, none⟩ = some (.slice fq2 fh.length fc2)) ((refine HX9.out _ ?hq; (case hq => first | with_reducible assumption | exact BR.out | exact BR.out.drew))) (first
            | (go_at_call 8; with_reducible refine (QHa.out _ ?hb).mono ?_; (case hb => first | with_reducible assumption | exact BR.out | exact BR.out.drew); rintro e y1 ⟨⟨h1q, h1n, h1c, h2q, h2n, h2c, rfl⟩, z1⟩; have z1 : Below W9.heap.size W9 y1 := chainB (by first | assumption | exact BR.out | exact BR.out.drew) z1)
            | (go_at_call 15; with_reducible refine (QFa.out _ ?hb).mono ?_; (case hb => first | with_reducible assumption | exact BR.out | exact BR.out.drew); rintro e y2 ⟨⟨i1q, i1c, i2q, i2c, rfl, im1, im2, it1, it2⟩, z2⟩; have z2 : Below W9.heap.size W9 y2 := chainB z1 z2)
            | (go_at_call 10; with_reducible refine (QLa.out _ _ _ _ _ ?hb im1 im2 it1 it2).mono ?_; (case hb => first | with_reducible assumption | exact BR.out | exact BR.out.drew); rintro e y3 ⟨rfl, z3⟩; have z3 : Below W9.heap.size W9 y3 := chainB z2 z3)))
        | fail
      all_goals (go_wp2_with fail; go_meet; exact ⟨rfl, z3⟩)
    · have hbe : (YC == 0) = false := beq_eq_false_iff_ne.2 hy
      clear hy
      refine wp_region_held_drew (S := fun w' => w'.cell? ⟨w10.heap.size, 2, none⟩ = some (.int .i64 YC)) (by kernel_rfl) ((HX9.out _ hb9.drew).2.2.2.2.2.2.2.2.2.2.2.2.2.2.2.1) (fun hHeld => ?_)
      refine take_at 0 (v := ?_) rfl (by kernel_rfl) (by kernel_rfl) (by kernel_rfl) (fun _ _ _ h => h) hHeld (Or.inl ⟨by rfl, ?_⟩) ?_
      rotate_left
      · (intro w hSw; (try dsimp only at hSw); go_simp; try with_reducible rfl)
      simp only [Act.put, List.setIfInBounds_toArray, List.set_cons_zero, List.set_cons_succ]
      refine take_at 1 (v := ?_) rfl (by kernel_rfl) (by kernel_rfl) (by kernel_rfl) (fun _ _ _ h => h) hHeld (Or.inl ⟨by rfl, ?_⟩) ?_
      rotate_left
      · (intro w hSw; (try dsimp only at hSw); go_simp; try with_reducible rfl)
      simp only [Act.put, List.setIfInBounds_toArray, List.set_cons_zero, List.set_cons_succ]
      refine take_at 2 (v := ?_) rfl (by kernel_rfl) (by kernel_rfl) (by kernel_rfl) (fun _ _ _ h => h) hHeld (Or.inl ⟨by rfl, ?_⟩) ?_
      rotate_left
      · (intro w hSw; (try dsimp only at hSw); go_simp; try with_reducible rfl)
      simp only [Act.put, List.setIfInBounds_toArray, List.set_cons_zero, List.set_cons_succ]
      refine take_at 3 (v := ?_) rfl (by kernel_rfl) (by kernel_rfl) (by kernel_rfl) (fun _ _ _ h => h) hHeld (Or.inl ⟨by rfl, ?_⟩) ?_
      rotate_left
      · (intro w hSw; (try dsimp only at hSw); go_simp; try with_reducible rfl)
      simp only [Act.put, List.setIfInBounds_toArray, List.set_cons_zero, List.set_cons_succ]
      refine take_at 4 (v := undef) rfl (by kernel_rfl) (by kernel_rfl) (by kernel_rfl) (fun _ _ _ h => h) hHeld (Or.inr ⟨by rfl, rfl⟩) ?_
      simp only [Act.put, List.setIfInBounds_toArray, List.set_cons_zero, List.set_cons_succ]
      refine take_at 5 (v := undef) rfl (by kernel_rfl) (by kernel_rfl) (by kernel_rfl) (fun _ _ _ h => h) hHeld (Or.inr ⟨by rfl, rfl⟩) ?_
      simp only [Act.put, List.setIfInBounds_toArray, List.set_cons_zero, List.set_cons_succ]
      refine take_at 6 (v := undef) rfl (by kernel_rfl) (by kernel_rfl) (by kernel_rfl) (fun _ _ _ h => h) hHeld (Or.inr ⟨by rfl, rfl⟩) ?_
      simp only [Act.put, List.setIfInBounds_toArray, List.set_cons_zero, List.set_cons_succ]
      refine take_at 7 (v := undef) rfl (by kernel_rfl) (by kernel_rfl) (by kernel_rfl) (fun _ _ _ h => h) hHeld (Or.inr ⟨by rfl, rfl⟩) ?_
      simp only [Act.put, List.setIfInBounds_toArray, List.set_cons_zero, List.set_cons_succ]
      refine take_at 8 (v := undef) rfl (by kernel_rfl) (by kernel_rfl) (by kernel_rfl) (fun _ _ _ h => h) hHeld (Or.inr ⟨by rfl, rfl⟩) ?_
      simp only [Act.put, List.setIfInBounds_toArray, List.set_cons_zero, List.set_cons_succ]
      refine take_at 9 (v := undef) rfl (by kernel_rfl) (by kernel_rfl) (by kernel_rfl) (fun _ _ _ h => h) hHeld (Or.inr ⟨by rfl, rfl⟩) ?_
      simp only [Act.put, List.setIfInBounds_toArray, List.set_cons_zero, List.set_cons_succ]
      refine take_at 10 (v := undef) rfl (by kernel_rfl) (by kernel_rfl) (by kernel_rfl) (fun _ _ _ h => h) hHeld (Or.inr ⟨by rfl, rfl⟩) ?_
      simp only [Act.put, List.setIfInBounds_toArray, List.set_cons_zero, List.set_cons_succ]
      refine take_at 11 (v := undef) rfl (by kernel_rfl) (by kernel_rfl) (by kernel_rfl) (fun _ _ _ h => h) hHeld (Or.inr ⟨by rfl, rfl⟩) ?_
      simp only [Act.put, List.setIfInBounds_toArray, List.set_cons_zero, List.set_cons_succ]
      refine take_at 12 (v := undef) rfl (by kernel_rfl) (by kernel_rfl) (by kernel_rfl) (fun _ _ _ h => h) hHeld (Or.inr ⟨by rfl, rfl⟩) ?_
      simp only [Act.put, List.setIfInBounds_toArray, List.set_cons_zero, List.set_cons_succ]
      refine take_at 13 (v := undef) rfl (by kernel_rfl) (by kernel_rfl) (by kernel_rfl) (fun _ _ _ h => h) hHeld (Or.inr ⟨by rfl, rfl⟩) ?_
      simp only [Act.put, List.setIfInBounds_toArray, List.set_cons_zero, List.set_cons_succ]
      refine take_at 14 (v := undef) rfl (by kernel_rfl) (by kernel_rfl) (by kernel_rfl) (fun _ _ _ h => h) hHeld (Or.inr ⟨by rfl, rfl⟩) ?_
      simp only [Act.put, List.setIfInBounds_toArray, List.set_cons_zero, List.set_cons_succ]
      refine take_at 15 (v := undef) rfl (by kernel_rfl) (by kernel_rfl) (by kernel_rfl) (fun _ _ _ h => h) hHeld (Or.inr ⟨by rfl, rfl⟩) ?_
      simp only [Act.put, List.setIfInBounds_toArray, List.set_cons_zero, List.set_cons_succ]
      refine take_at 16 (v := undef) rfl (by kernel_rfl) (by kernel_rfl) (by kernel_rfl) (fun _ _ _ h => h) hHeld (Or.inr ⟨by rfl, rfl⟩) ?_
      simp only [Act.put, List.setIfInBounds_toArray, List.set_cons_zero, List.set_cons_succ]
      refine take_at 17 (v := undef) rfl (by kernel_rfl) (by kernel_rfl) (by kernel_rfl) (fun _ _ _ h => h) hHeld (Or.inr ⟨by rfl, rfl⟩) ?_
      simp only [Act.put, List.setIfInBounds_toArray, List.set_cons_zero, List.set_cons_succ]
      refine take_at 18 (v := undef) rfl (by kernel_rfl) (by kernel_rfl) (by kernel_rfl) (fun _ _ _ h => h) hHeld (Or.inr ⟨by rfl, rfl⟩) ?_
      simp only [Act.put, List.setIfInBounds_toArray, List.set_cons_zero, List.set_cons_succ]
      refine take_at 19 (v := undef) rfl (by kernel_rfl) (by kernel_rfl) (by kernel_rfl) (fun _ _ _ h => h) hHeld (Or.inr ⟨by rfl, rfl⟩) ?_
      simp only [Act.put, List.setIfInBounds_toArray, List.set_cons_zero, List.set_cons_succ]
      refine take_at 20 (v := ?_) rfl (by kernel_rfl) (by kernel_rfl) (by kernel_rfl) (fun _ _ _ h => h) hHeld (Or.inl ⟨by rfl, ?_⟩) ?_
      rotate_left
      · (intro w hSw; (try dsimp only at hSw); go_simp; try with_reducible rfl)
      simp only [Act.put, List.setIfInBounds_toArray, List.set_cons_zero, List.set_cons_succ]
      refine wpAnyH_done (by kernel_rfl) ?_ _
      go_wp2_with fail
      go_meet
      exact ⟨rfl, hb9.drew⟩
  case rest =>
  obtain ⟨rfl, B1⟩ := hcut
  obtain ⟨Wa, rfl⟩ : ∃ Wa : World, Wa = wc := ⟨_, rfl⟩
  have BA : Hid (Below W.heap.size W Wa) := chainB B0.out B1.out
  clear XB9 hb9 HX9 B0 B1 HYE HYr HYa
  obtain ⟨p0, p1, p2, p3, p4, p5, p6, p7, p8, p9, p10, p11, p12, p13, p14, p15, p16, p17⟩ := HX.out Wa BA.out
  by_cases hx : XC = 0
  · have hxb : (XC != 0) = false := by rw [hx]; rfl
    have hd := rp_drop (show rpC dr dh R = 0 by rw [← HXE.out.2.2]; exact hx)
    rw [← HXE.out.1, ← HXE.out.2.1] at hd
    obtain ⟨d1, d2⟩ := hd
    obtain ⟨ur, hur⟩ : ∃ X, X = rdR xr xh R.k R.f := ⟨_, rfl⟩
    obtain ⟨uh, huh⟩ : ∃ X, X = rdH xr xh R.k R.f := ⟨_, rfl⟩
    have LU : Hid (PlD 6 7 ur uh) := by rw [hur, huh]; exact rd_D xr xh R.k R.f
    have h0 := implRuleDrop_any xq1 xq2 xc1 xc2 xr xh R.k R.f Wa (HTX.out Wa BA.out).1 (HTX.out Wa BA.out).2 (by have := LX.out.1; omega) (by have := LX.out.2.1; omega) xm1 xm2 LX.out.le (by have := HR.out.1; omega) (by have := HR.out.2; omega)
    rw [d1, ← hur, ← huh] at h0
    have HD2 : Hid (rdC ur uh R.k R.f = 6) := by rw [hur, huh]; exact d2
    clear d1 d2 hur huh hx
    go_wp2_with fail
    refine h0.mono ?_
    rintro e wb ⟨v1, v2, rfl, ho, bb⟩
    obtain ⟨uq1, uc1, uq2, uc2, rfl, rfl, um1, um2⟩ := ho.form
    obtain ⟨Wc, hWc⟩ : ∃ Wc, Wc = wb.alloc (.cells #[.slice uq1 ur.length uc1, .slice uq2 uh.length uc2, .int .i64 0] 32) := ⟨_, rfl⟩
    have HWc : Hid (Wc = wb.alloc (.cells #[.slice uq1 ur.length uc1, .slice uq2 uh.length uc2, .int .i64 0] 32)) := hWc
    have sc : Below wb.heap.size wb Wc := by rw [hWc]; exact (Below.refl _ _).alloc (Nat.le_refl _) _
    have Kc : Bxs Wc wb.heap.size 32 #[.slice uq1 ur.length uc1, .slice uq2 uh.length uc2, .int .i64 0] := by rw [hWc]; exact Bxs.new _ _ _
    have e0 : Wc.cell? ⟨wb.heap.size, 0, none⟩ = some (.slice uq1 ur.length uc1) := Kc.cell 0
    have e1 : Wc.cell? ⟨wb.heap.size, 1, none⟩ = some (.slice uq2 uh.length uc2) := Kc.cell 1
    have e2 : Wc.cell? ⟨wb.heap.size, 2, none⟩ = some (.int .i64 0) := Kc.cell 2
    have bc := chainB BA.out (chainB bb sc)
    have h1 := implRuleDrop_any uq1 uq2 uc1 uc2 ur uh R.k R.f Wc (ho.read.1.below sc) (ho.read.2.below sc) (by have := LU.out.1; omega) (by have := LU.out.2.1; omega) um1 um2 LU.out.le (by have := HR.out.1; omega) (by have := HR.out.2; omega)
    rw [HD2.out] at h1
    have BC : Hid (Below w.heap.size w Wc) := chainB BW.out bc
    clear p0 p1 p2 p3 p4 p5 p6 p7 p8 p9 p10 p11 p12 p13 p14 p15 p16 p17
    obtain ⟨p0, p1, p2, p3, p4, p5, p6, p7, p8, p9, p10, p11, p12, p13, p14, p15, p16, p17⟩ := HX.out Wc bc
    clear h0 ho bb sc Kc hWc HX bc
    go_upto_region 16 with fail
    rw [← HWc.out]
    go_wp2_with fail
    refine h1.mono ?_
    rintro e wd ⟨v1, v2, rfl, ho, bd⟩
    obtain ⟨eq1', ec1', eq2', ec2', rfl, rfl, -, -⟩ := ho.form
    have BD := chainB BC.out bd
    clear h1 ho bd
    go_wp2_with fail
    go_ret
    exact ⟨rfl, BD⟩
  · have hxb : (XC != 0) = true := bne_iff_ne.2 hx
    have BD := chainB BW.out BA.out
    clear hx HX
    go_wp2_with fail
    go_ret
    exact ⟨rfl, BD⟩
end Go.Proofs.Ytbgpkngnlfafcaa
