/-
  The law FnDisk returns true at every two codes of at most 2^20 bytes: what is written is read, what is flushed is there behind any crash, and a crash leaves of each sector what was flushed or written since.
-/
import Derived.Test.YthiokdiodgdamabRows
import Derived.Test.YthiokdiodgdamabBytes
import Derived.Test.YthiokdiodgdamabSlA
import Derived.Test.YthiokdiodgdamabSlB
import Derived.Test.YthiokdiodgdamabOwnS
import Derived.Test.YthiokdiodgdamabOwnB
import Derived.Test.YthiokdiodgdamabSrc
import Derived.Test.YthiokdiodgdamabDraws
import Derived.Test.YthiokdiodgdamabDrawKit
import Derived.Test.YthiokdiodgdamabDskMath
import Derived.Test.YthiokdiodgdamabDskR
import Derived.Test.YthiokdiodgdamabDskS
import Derived.Test.YthiokdiodgdamabDskC
import Derived.Test.YthiokdiodgdamabDskT
import Derived.Test.YthiokdiodgdamabDskW
import Derived.Test.YthiokdiodgdamabDskF
import Derived.Test.YthiokdiodgdamabDskK
import Derived.Test.YthiokdiodgdamabDskLaw
import Derived.Test.YthiokdiodgdamabLwDsk
import Derived.Test.YthiokdiodgdamabLawD
import Derived.Test.YthiokdiodgdamabLawI
import Derived.Test.YthiokdiodgdamabImplDR
import Derived.Test.YthiokdiodgdamabImplDisk
import Derived.Test.YthiokdiodgdamabImplDW
import Derived.Test.YthiokdiodgdamabImplFlush
import Derived.Test.YthiokdiodgdamabImplCrash
import Derived.Test.YthiokdiodgdamabDrawDsk
import Derived.Test.YthiokdiodgdamabDrawDskF
import Derived.Test.YthiokdiodgdamabDrawDskG
import Derived.Test.YthiokdiodgdamabDrawKeep
import Derived.Test.YthiokdiodgdamabDrawDisks
import Derived.Handy
import Derived.WalkSpells
import Derived.OwnWalk
import Derived.Deep.RegionWith
import Derived.Deep.RegionHeld3
import Derived.Deep.Cut
import Derived.Deep.CutRange
namespace Go.Proofs.Ythiokdiodgdamab
open Go.RowKit Go.Lib
set_option linter.unusedVariables false
set_option maxRecDepth 20000

theorem rdC_right {ss : List ByteArray} {ps : List Pnd} {at_ : Int} (h : rdC ss ps at_ = 0) : dskB (rdS ss ps at_) (rdP ss ps at_) = true := by
  have h1 : rdS ss ps at_ = ss := if_pos h
  have h2 : rdP ss ps at_ = ps := if_pos h
  rw [h1, h2]
  unfold rdC at h
  split at h
  · assumption
  · cases h
theorem wrC_right {ss : List ByteArray} {ps : List Pnd} {at_ : Int} {t : ByteArray} (h : wrC ss ps at_ t = 0) : dskB (wrS ss ps at_ t) (wrP ss ps at_ t) = true := by
  have h1 : wrS ss ps at_ t = ss := if_pos h
  have h2 : wrP ss ps at_ t = ps ++ [(at_, t)] := if_pos h
  rw [h1, h2]; exact write_right h
theorem flC_right {ss : List ByteArray} {ps : List Pnd} (h : flC ss ps = 0) : dskB (flS ss ps) [] = true := by
  have hd : dskB ss ps = true := by
    unfold flC at h
    split at h
    · assumption
    · cases h
  rw [show flS ss ps = flushB ss ps from if_pos hd]; exact flush_right hd
theorem field_data (q1 : Option Addr) (n1 d1 : Nat) (q2 : Option Addr) (n2 d2 : Nat) (u : ByteArray) (c : Int) (x : World) : (Instr.field 30 (.agg #[.slice q1 n1 d1, .slice q2 n2 d2, .string u, .int .i64 c]) 1).run Try.prog x = .ok (.string u) x := by first | rfl | kernel_rfl
theorem toL_inj {a b : ByteArray} : a.toList = b.toList ↔ a = b := by
  constructor
  · intro h
    rw [ByteArray.toList_eq, ByteArray.toList_eq] at h
    obtain ⟨a⟩ := a
    obtain ⟨b⟩ := b
    have e : a = b := Array.ext' h
    rw [e]
  · intro h; rw [h]
theorem toL_ne {a b : ByteArray} (h : a ≠ b) : (a.toList == b.toList) = false := beq_eq_false_iff_ne.2 (fun e => h (toL_inj.1 e))
theorem len_small {α : Type} {l : List α} {n : Nat} (h : l.length ≤ n) (hn : n ≤ 1048576) : l.length ≤ 1048576 := Nat.le_trans h hn
theorem wrS_len (ss : List ByteArray) (ps : List Pnd) (at_ : Int) (t : ByteArray) (h : ss.length ≤ 64) : (wrS ss ps at_ t).length ≤ 64 := by unfold wrS; split; exact h; simp
theorem wrP_len (ss : List ByteArray) (ps : List Pnd) (at_ : Int) (t : ByteArray) (h : ps.length ≤ 300) : (wrP ss ps at_ t).length ≤ 301 := by unfold wrP; split; simp; omega; simp
theorem rdS_len (ss : List ByteArray) (ps : List Pnd) (at_ : Int) (h : ss.length ≤ 64) : (rdS ss ps at_).length ≤ 64 := by unfold rdS; split; exact h; simp
theorem rdP_len (ss : List ByteArray) (ps : List Pnd) (at_ : Int) (h : ps.length ≤ 300) : (rdP ss ps at_).length ≤ 300 := by unfold rdP; split; exact h; simp
theorem crS_len (ss : List ByteArray) (ps : List Pnd) (ks : List Int) (h : ss.length ≤ 64) : (crS ss ps ks).length ≤ 64 := by
  unfold crS; split
  · simp
  · split
    · rw [crashB_len]; exact h
    · exact h
theorem crP_len (ss : List ByteArray) (ps : List Pnd) (ks : List Int) (h : ps.length ≤ 300) : (crP ss ps ks).length ≤ 300 := by
  unfold crP; split
  · simp
  · split
    · simp
    · exact h
theorem flS_len (ss : List ByteArray) (ps : List Pnd) (h : ss.length ≤ 64) : (flS ss ps).length ≤ 64 := by unfold flS; split; rw [flushB_len]; exact h; simp
theorem newS_len (n : Int) : (newS n).length ≤ 64 := by unfold newS; split; simp; omega; simp

set_option maxHeartbeats 32000000 in
theorem fnDisk_any (a0 : Option Addr) (len0 cap0 : Nat) (a1 : Option Addr) (len1 cap1 : Nat) (w : World) (hl0 : len0 ≤ 1048576) (hl1 : len1 ≤ 1048576) (c0 : CodeAt w.heap.size a0 len0 w) (c1 : CodeAt w.heap.size a1 len1 w) :
    Calls Try.prog 3 #[.slice a0 len0 cap0, .slice a1 len1 cap1] w fun e w' => e = .returned (.bool true) ∧ Below w.heap.size w w' := by
  have C0 : Hid (CodeAt w.heap.size a0 len0 w) := c0
  have C1 : Hid (CodeAt w.heap.size a1 len1 w) := c1
  have z0 : decide (1048576 < (len0 : Int)) = false := decide_eq_false (by omega)
  have z1 : decide (1048576 < (len1 : Int)) = false := decide_eq_false (by omega)
  clear c0 c1
  go_enter Try.func3, Try.ntmps3
  go_wp2_with fail
  refine (drawWrite_any w.heap.size a0 len0 cap0 w hl0 (Nat.le_refl _) C0.out).mono ?_
  rintro e w1 ⟨⟨dq1, dc1, dq2, dc2, ds, dp, at9, tx, rfl, D1, D2, dm1, dm2, htx, hdS⟩, b1⟩
  have D1 : Hid (TxtAt w1 dq1 ds) := D1
  have D2 : Hid (PndAt w1 dq2 dp) := D2
  have HDS : Hid (SmallD ds dp) := hdS
  have B1 : Hid (Below w.heap.size w w1) := b1
  have ld1 := hdS.l1
  have ld2 := hdS.l2
  clear hdS b1
  obtain ⟨W2, hW2⟩ : ∃ W2, W2 = w1.alloc (.cells #[.slice dq1 ds.length dc1, .slice dq2 dp.length dc2] 26) := ⟨_, rfl⟩
  have HW2 : Hid (W2 = w1.alloc (.cells #[.slice dq1 ds.length dc1, .slice dq2 dp.length dc2] 26)) := hW2
  have sW2 : Hid (Below w1.heap.size w1 W2) := by rw [hW2]; exact (Below.refl _ _).alloc (Nat.le_refl _) _
  have K5 : Hid (Bxs W2 w1.heap.size 26 #[.slice dq1 ds.length dc1, .slice dq2 dp.length dc2]) := by rw [hW2]; exact Bxs.new _ _ _
  have hw := implDiskWrite_any dq1 dc1 ds dq2 dc2 dp at9 tx W2 (D1.out.below sW2.out) (D2.out.below sW2.out) (by omega) (by omega) dm1 dm2 (by omega)
  obtain ⟨XS, hXS⟩ : ∃ XS, XS = wrS ds dp at9 tx := ⟨_, rfl⟩
  obtain ⟨XP, hXP⟩ : ∃ XP, XP = wrP ds dp at9 tx := ⟨_, rfl⟩
  obtain ⟨XC, hXC⟩ : ∃ XC, XC = wrC ds dp at9 tx := ⟨_, rfl⟩
  rw [← hXS, ← hXP, ← hXC] at hw
  have HXE : Hid (XS = wrS ds dp at9 tx ∧ XP = wrP ds dp at9 tx ∧ XC = wrC ds dp at9 tx) := ⟨hXS, hXP, hXC⟩
  have lx1 : XS.length ≤ 64 := by rw [hXS]; exact wrS_len ds dp at9 tx ld1
  have lx2 : XP.length ≤ 301 := by rw [hXP]; exact wrP_len ds dp at9 tx ld2
  have k0 := K5.out.cell 0
  have k1 := K5.out.cell 1
  rw [hW2] at k0 k1
  clear hW2 hXS hXP hXC
  go_wp2_with fail
  rw [← HW2.out]
  refine hw.mono ?_
  rintro e w3 ⟨xv1, xv2, rfl, ox, b3⟩
  obtain ⟨xq1, xc1, rfl, xm1, X1⟩ := ownS_form ox.own1
  obtain ⟨xq2, xc2, rfl, xm2, X2⟩ := ownP_form ox.own2
  have X1 : Hid (TxtAt w3 xq1 XS) := X1
  have X2 : Hid (PndAt w3 xq2 XP) := X2
  have s3 : Hid (Below W2.heap.size W2 w3) := b3
  clear ox b3 hw k0 k1
  obtain ⟨W4, hW4⟩ : ∃ W4, W4 = w3.alloc (.cells #[.slice xq1 XS.length xc1, .slice xq2 XP.length xc2, .string ByteArray.empty, .int .i64 XC] 30) := ⟨_, rfl⟩
  have HW4 : Hid (W4 = w3.alloc (.cells #[.slice xq1 XS.length xc1, .slice xq2 XP.length xc2, .string ByteArray.empty, .int .i64 XC] 30)) := hW4
  have sW4 : Hid (Below w3.heap.size w3 W4) := by rw [hW4]; exact (Below.refl _ _).alloc (Nat.le_refl _) _
  have K8 : Hid (Bxs W4 w3.heap.size 30 #[.slice xq1 XS.length xc1, .slice xq2 XP.length xc2, .string ByteArray.empty, .int .i64 XC]) := by rw [hW4]; exact Bxs.new _ _ _
  have B4 : Hid (Below w.heap.size w W4) := chainB (chainB (chainB B1.out sW2.out) s3.out) sW4.out
  have hz4 := B4.out.size
  clear hW4
  go_wp2_with fail
  rw [← HW4.out]
  refine (drawCrash_any w.heap.size a1 len1 cap1 W4 hl1 hz4 (C1.out.below B4.out)).mono ?_
  rintro e w5 ⟨⟨eq1, ec1, eq2, ec2, kq, kc, es, ep, L, rfl, E1, E2, E3, em1, em2, em3, hL, heS⟩, b5⟩
  have E1 : Hid (TxtAt w5 eq1 es) := E1
  have E2 : Hid (PndAt w5 eq2 ep) := E2
  have E3 : Hid (IntAt w5 kq L) := E3
  have HES : Hid (SmallD es ep) := heS
  have s5 : Hid (Below W4.heap.size W4 w5) := b5
  have le1 := heS.l1
  have le2 := heS.l2
  clear heS b5 hz4
  obtain ⟨W6, hW6⟩ : ∃ W6, W6 = w5.alloc (.cells #[.slice eq1 es.length ec1, .slice eq2 ep.length ec2] 26) := ⟨_, rfl⟩
  have HW6 : Hid (W6 = w5.alloc (.cells #[.slice eq1 es.length ec1, .slice eq2 ep.length ec2] 26)) := hW6
  have sW6 : Hid (Below w5.heap.size w5 W6) := by rw [hW6]; exact (Below.refl _ _).alloc (Nat.le_refl _) _
  have K9 : Hid (Bxs W6 w5.heap.size 26 #[.slice eq1 es.length ec1, .slice eq2 ep.length ec2]) := by rw [hW6]; exact Bxs.new _ _ _
  have hc := implDiskCrash_any eq1 ec1 es eq2 ec2 ep kq kc L W6 (E1.out.below sW6.out) (E2.out.below sW6.out) (E3.out.below sW6.out) (by omega) (by omega) (by omega) em1 em2 em3 (fun x hx => by have := HES.out.l3 x hx; omega) (fun q hq => by have := HES.out.l4 q hq; omega)
  obtain ⟨CS, hCS⟩ : ∃ CS, CS = crS es ep L := ⟨_, rfl⟩
  obtain ⟨CP, hCP⟩ : ∃ CP, CP = crP es ep L := ⟨_, rfl⟩
  rw [← hCS, ← hCP] at hc
  have HCE : Hid (CS = crS es ep L ∧ CP = crP es ep L) := ⟨hCS, hCP⟩
  have lc1 : CS.length ≤ 64 := by rw [hCS]; exact crS_len es ep L le1
  have lc2 : CP.length ≤ 300 := by rw [hCP]; exact crP_len es ep L le2
  have k0 := K9.out.cell 0
  have k1 := K9.out.cell 1
  rw [hW6] at k0 k1
  clear hW6 hCS hCP
  go_wp2_with fail
  rw [← HW6.out]
  refine hc.mono ?_
  rintro e w7 ⟨cv1, cv2, rfl, oc, b7⟩
  obtain ⟨cq1, cc1, rfl, cm1, Y1⟩ := ownS_form oc.own1
  obtain ⟨cq2, cc2, rfl, cm2, Y2⟩ := ownP_form oc.own2
  have Y1 : Hid (TxtAt w7 cq1 CS) := Y1
  have Y2 : Hid (PndAt w7 cq2 CP) := Y2
  have s7 : Hid (Below W6.heap.size W6 w7) := b7
  clear oc b7 hc k0 k1
  obtain ⟨W8, hW8⟩ : ∃ W8, W8 = w7.alloc (.cells #[.slice cq1 CS.length cc1, .slice cq2 CP.length cc2] 26) := ⟨_, rfl⟩
  have HW8 : Hid (W8 = w7.alloc (.cells #[.slice cq1 CS.length cc1, .slice cq2 CP.length cc2] 26)) := hW8
  have sW8 : Hid (Below w7.heap.size w7 W8) := by rw [hW8]; exact (Below.refl _ _).alloc (Nat.le_refl _) _
  have K11 : Hid (Bxs W8 w7.heap.size 26 #[.slice cq1 CS.length cc1, .slice cq2 CP.length cc2]) := by rw [hW8]; exact Bxs.new _ _ _
  have s68 := chainB s7.out sW8.out
  have hf := implDiskFlush_any eq1 ec1 es eq2 ec2 ep W8 ((E1.out.below sW6.out).below s68) ((E2.out.below sW6.out).below s68) (by omega) (by omega) em1 em2
  obtain ⟨FS, hFS⟩ : ∃ FS, FS = flS es ep := ⟨_, rfl⟩
  obtain ⟨FC, hFC⟩ : ∃ FC, FC = flC es ep := ⟨_, rfl⟩
  rw [← hFS, ← hFC] at hf
  have HFE : Hid (FS = flS es ep ∧ FC = flC es ep) := ⟨hFS, hFC⟩
  have lf1 : FS.length ≤ 64 := by rw [hFS]; exact flS_len es ep le1
  have k0 := (K9.out.below s68).cell 0
  have k1 := (K9.out.below s68).cell 1
  rw [hW8] at k0 k1
  clear hW8 hFS hFC s68
  go_wp2_with fail
  rw [← HW8.out]
  refine hf.mono ?_
  rintro e w9 ⟨fv1, rfl, of, b9⟩
  obtain ⟨fq1, fc1, rfl, fm1, F1⟩ := ownS_form of.own1
  have F1 : Hid (TxtAt w9 fq1 FS) := F1
  have s9 : Hid (Below W8.heap.size W8 w9) := b9
  clear of b9 hf k0 k1
  obtain ⟨W10, hW10⟩ : ∃ W10, W10 = w9.alloc (.cells #[.slice fq1 FS.length fc1, .slice none 0 0, .string ByteArray.empty, .int .i64 FC] 30) := ⟨_, rfl⟩
  have HW10 : Hid (W10 = w9.alloc (.cells #[.slice fq1 FS.length fc1, .slice none 0 0, .string ByteArray.empty, .int .i64 FC] 30)) := hW10
  have sW10 : Hid (Below w9.heap.size w9 W10) := by rw [hW10]; exact (Below.refl _ _).alloc (Nat.le_refl _) _
  have K12 : Hid (Bxs W10 w9.heap.size 30 #[.slice fq1 FS.length fc1, .slice none 0 0, .string ByteArray.empty, .int .i64 FC]) := by rw [hW10]; exact Bxs.new _ _ _
  have B10 : Hid (Below w.heap.size w W10) := chainB (chainB (chainB (chainB (chainB (chainB (chainB B4.out s5.out) sW6.out) s7.out) sW8.out) s9.out) sW10.out) (Below.refl _ _)
  have hz10 := B10.out.size
  clear hW10
  go_wp2_with fail
  rw [← HW10.out]
  refine (drawNew_any w.heap.size a1 len1 cap1 W10 hl1 hz10 (C1.out.below B10.out)).mono ?_
  rintro e w11 ⟨⟨nn, rfl⟩, b11⟩
  have s11 : Hid (Below W10.heap.size W10 w11) := b11
  have B11 : Hid (Below w.heap.size w w11) := chainB B10.out b11
  have hz11 := B11.out.size
  clear b11 hz10
  go_wp2_with fail
  refine (drawRead_any w.heap.size a0 len0 cap0 w11 hl0 hz11 (C0.out.below B11.out)).mono ?_
  rintro e w12 ⟨⟨gq1, gc1, gq2, gc2, gs, gp, kk, rfl, G1, G2, gm1, gm2, hgS⟩, b12⟩
  have G1 : Hid (TxtAt w12 gq1 gs) := G1
  have G2 : Hid (PndAt w12 gq2 gp) := G2
  have lg1 := hgS.l1
  have lg2 := hgS.l2
  have s12 : Hid (Below w11.heap.size w11 w12) := b12
  clear hgS b12 hz11
  obtain ⟨W13, hW13⟩ : ∃ W13, W13 = w12.alloc (.cells #[.slice gq1 gs.length gc1, .slice gq2 gp.length gc2] 26) := ⟨_, rfl⟩
  have HW13 : Hid (W13 = w12.alloc (.cells #[.slice gq1 gs.length gc1, .slice gq2 gp.length gc2] 26)) := hW13
  have sW13 : Hid (Below w12.heap.size w12 W13) := by rw [hW13]; exact (Below.refl _ _).alloc (Nat.le_refl _) _
  have K14 : Hid (Bxs W13 w12.heap.size 26 #[.slice gq1 gs.length gc1, .slice gq2 gp.length gc2]) := by rw [hW13]; exact Bxs.new _ _ _
  have t12 := sW13.out
  have t11 := chainB s12.out t12
  have t10 := chainB s11.out t11
  have t9 := chainB sW10.out t10
  have t8 := chainB s9.out t9
  have t7 := chainB sW8.out t8
  have t6 := chainB s7.out t7
  have t5 := chainB sW6.out t6
  have t4 := chainB s5.out t5
  have t3 := chainB sW4.out t4
  have t2 := chainB s3.out t3
  have BW : Hid (Below w.heap.size w W13) := chainB B11.out t11
  have HX : Hid (∀ x, Below W13.heap.size W13 x → x.cell? ⟨w1.heap.size, 0, none⟩ = some (.slice dq1 ds.length dc1) ∧ x.cell? ⟨w1.heap.size, 1, none⟩ = some (.slice dq2 dp.length dc2) ∧ x.cell? ⟨w3.heap.size, 0, none⟩ = some (.slice xq1 XS.length xc1) ∧ x.cell? ⟨w3.heap.size, 1, none⟩ = some (.slice xq2 XP.length xc2) ∧ x.cell? ⟨w3.heap.size, 2, none⟩ = some (.string ByteArray.empty) ∧ x.cell? ⟨w3.heap.size, 3, none⟩ = some (.int .i64 XC) ∧ x.cell? ⟨w5.heap.size, 0, none⟩ = some (.slice eq1 es.length ec1) ∧ x.cell? ⟨w5.heap.size, 1, none⟩ = some (.slice eq2 ep.length ec2) ∧ x.cell? ⟨w7.heap.size, 0, none⟩ = some (.slice cq1 CS.length cc1) ∧ x.cell? ⟨w7.heap.size, 1, none⟩ = some (.slice cq2 CP.length cc2) ∧ x.cell? ⟨w9.heap.size, 0, none⟩ = some (.slice fq1 FS.length fc1) ∧ x.cell? ⟨w9.heap.size, 1, none⟩ = some (.slice none 0 0) ∧ x.cell? ⟨w9.heap.size, 2, none⟩ = some (.string ByteArray.empty) ∧ x.cell? ⟨w9.heap.size, 3, none⟩ = some (.int .i64 FC) ∧ x.cell? ⟨w12.heap.size, 0, none⟩ = some (.slice gq1 gs.length gc1) ∧ x.cell? ⟨w12.heap.size, 1, none⟩ = some (.slice gq2 gp.length gc2)) := fun x hb =>
    ⟨(K5.out.below (chainB t2 hb)).cell 0, (K5.out.below (chainB t2 hb)).cell 1, (K8.out.below (chainB t4 hb)).cell 0, (K8.out.below (chainB t4 hb)).cell 1, (K8.out.below (chainB t4 hb)).cell 2, (K8.out.below (chainB t4 hb)).cell 3, (K9.out.below (chainB t6 hb)).cell 0, (K9.out.below (chainB t6 hb)).cell 1, (K11.out.below (chainB t8 hb)).cell 0, (K11.out.below (chainB t8 hb)).cell 1, (K12.out.below (chainB t10 hb)).cell 0, (K12.out.below (chainB t10 hb)).cell 1, (K12.out.below (chainB t10 hb)).cell 2, (K12.out.below (chainB t10 hb)).cell 3, (K14.out.below hb).cell 0, (K14.out.below hb).cell 1⟩
  have HT : Hid (∀ x, Below W13.heap.size W13 x → (TxtAt x dq1 ds ∧ PndAt x dq2 dp) ∧ (TxtAt x xq1 XS ∧ PndAt x xq2 XP) ∧ (TxtAt x eq1 es ∧ PndAt x eq2 ep ∧ IntAt x kq L) ∧ (TxtAt x cq1 CS ∧ PndAt x cq2 CP) ∧ TxtAt x fq1 FS ∧ TxtAt x gq1 gs ∧ PndAt x gq2 gp) := fun x hb =>
    ⟨⟨(D1.out.below sW2.out).below (chainB t2 hb), (D2.out.below sW2.out).below (chainB t2 hb)⟩, ⟨X1.out.below (chainB t3 hb), X2.out.below (chainB t3 hb)⟩, ⟨E1.out.below (chainB t5 hb), E2.out.below (chainB t5 hb), E3.out.below (chainB t5 hb)⟩, ⟨Y1.out.below (chainB t7 hb), Y2.out.below (chainB t7 hb)⟩, F1.out.below (chainB t9 hb), G1.out.below (chainB t12 hb), G2.out.below (chainB t12 hb)⟩
  clear hW13 t2 t3 t4 t5 t6 t7 t8 t9 t10 t11 t12 D1 D2 X1 X2 E1 E2 E3 Y1 Y2 F1 G1 G2 K5 K8 K9 K11 K12 K14 sW2 s3 sW4 s5 sW6 s7 sW8 s9 sW10 s11 s12 sW13 B1 B4 B10 B11 C0 C1 HW2 HW4 HW6 HW8 HW10
  obtain ⟨NS, hNS⟩ : ∃ NS, NS = newS nn := ⟨_, rfl⟩
  have HNE : Hid (NS = newS nn) := hNS
  have ln1 : NS.length ≤ 64 := by rw [hNS]; exact newS_len nn
  obtain ⟨RS, hRS⟩ : ∃ RS, RS = rdS gs gp kk := ⟨_, rfl⟩
  obtain ⟨RP, hRP⟩ : ∃ RP, RP = rdP gs gp kk := ⟨_, rfl⟩
  obtain ⟨RT, hRT⟩ : ∃ RT, RT = rdT gs gp kk := ⟨_, rfl⟩
  obtain ⟨RC, hRC⟩ : ∃ RC, RC = rdC gs gp kk := ⟨_, rfl⟩
  have HRE : Hid (RS = rdS gs gp kk ∧ RP = rdP gs gp kk ∧ RT = rdT gs gp kk ∧ RC = rdC gs gp kk) := ⟨hRS, hRP, hRT, hRC⟩
  have lr1 : RS.length ≤ 64 := by rw [hRS]; exact rdS_len gs gp kk lg1
  have lr2 : RP.length ≤ 300 := by rw [hRP]; exact rdP_len gs gp kk lg2
  obtain ⟨DB, hDB⟩ : ∃ DB, DB = dskB es ep := ⟨_, rfl⟩
  have HDE : Hid (DB = dskB es ep) := hDB
  clear hNS hRS hRP hRT hRC hDB
  have QW : Hid (∀ x, Below W13.heap.size W13 x → Calls Try.prog 12 #[.agg #[.slice dq1 ds.length dc1, .slice dq2 dp.length dc2], .int .i64 at9, .string tx] x fun e x1 => (∃ q1 c1 q2 c2, e = .returned (.agg #[.slice q1 (XS).length c1, .slice q2 (XP).length c2, .string ByteArray.empty, .int .i64 XC]) ∧ (XS).length ≤ c1 ∧ (XP).length ≤ c2 ∧ TxtAt x1 q1 (XS) ∧ PndAt x1 q2 (XP)) ∧ Below x.heap.size x x1) := fun x hb => by
    have h0 := specDiskWrite_any dq1 dc1 ds dq2 dc2 dp at9 tx x (HT.out x hb).1.1 (HT.out x hb).1.2 (by omega) (by omega) dm1 dm2 (by omega)
    rw [← HXE.out.1, ← HXE.out.2.1, ← HXE.out.2.2] at h0
    exact h0.mono (by
    rintro e x1 ⟨v1, v2, rfl, ho, h⟩
    obtain ⟨q1, c1, rfl, m1, t1⟩ := ownS_form ho.own1
    obtain ⟨q2, c2, rfl, m2, t2⟩ := ownP_form ho.own2
    exact ⟨⟨q1, c1, q2, c2, rfl, m1, m2, t1, t2⟩, h⟩)
  have QC : Hid (∀ x, Below W13.heap.size W13 x → Calls Try.prog 14 #[.agg #[.slice eq1 es.length ec1, .slice eq2 ep.length ec2], .slice kq L.length kc] x fun e x1 => (∃ q1 c1 q2 c2, e = .returned (.agg #[.slice q1 (CS).length c1, .slice q2 (CP).length c2]) ∧ (CS).length ≤ c1 ∧ (CP).length ≤ c2 ∧ TxtAt x1 q1 (CS) ∧ PndAt x1 q2 (CP)) ∧ Below x.heap.size x x1) := fun x hb => by
    have h0 := specDiskCrash_any eq1 ec1 es eq2 ec2 ep kq kc L x (HT.out x hb).2.2.1.1 (HT.out x hb).2.2.1.2.1 (HT.out x hb).2.2.1.2.2 (by omega) (by omega) (by omega) em1 em2 em3
    rw [← HCE.out.1, ← HCE.out.2] at h0
    exact h0.mono (by
    rintro e x1 ⟨v1, v2, rfl, ho, h⟩
    obtain ⟨q1, c1, rfl, m1, t1⟩ := ownS_form ho.own1
    obtain ⟨q2, c2, rfl, m2, t2⟩ := ownP_form ho.own2
    exact ⟨⟨q1, c1, q2, c2, rfl, m1, m2, t1, t2⟩, h⟩)
  have QF : Hid (∀ x, Below W13.heap.size W13 x → Calls Try.prog 15 #[.agg #[.slice eq1 es.length ec1, .slice eq2 ep.length ec2]] x fun e x1 => (∃ q1 c1, e = .returned (.agg #[.slice q1 FS.length c1, .slice none 0 0, .string ByteArray.empty, .int .i64 FC]) ∧ FS.length ≤ c1 ∧ TxtAt x1 q1 FS) ∧ Below x.heap.size x x1) := fun x hb => by
    have h0 := specDiskFlush_any eq1 ec1 es eq2 ec2 ep x (HT.out x hb).2.2.1.1 (HT.out x hb).2.2.1.2.1 (by omega) (by omega) em1 em2
    rw [← HFE.out.1, ← HFE.out.2] at h0
    exact h0.mono (by
    rintro e x1 ⟨v1, rfl, ho, h⟩
    obtain ⟨q1, c1, rfl, m1, t1⟩ := ownS_form ho.own1
    exact ⟨⟨q1, c1, rfl, m1, t1⟩, h⟩)
  have QNi : Hid (∀ x, Below W13.heap.size W13 x → Calls Try.prog 16 #[.int .i64 nn] x fun e x1 => (∃ q1 c1, e = .returned (.agg #[.slice q1 NS.length c1, .slice none 0 0]) ∧ NS.length ≤ c1 ∧ TxtAt x1 q1 NS) ∧ Below x.heap.size x x1) := fun x hb => by
    have h0 := implDiskNew_any nn x
    rw [← HNE.out] at h0
    exact h0.mono (by
    rintro e x1 ⟨v1, rfl, ho, h⟩
    obtain ⟨q1, c1, rfl, m1, t1⟩ := ownS_form ho
    exact ⟨⟨q1, c1, rfl, m1, t1⟩, h⟩)
  have QNs : Hid (∀ x, Below W13.heap.size W13 x → Calls Try.prog 17 #[.int .i64 nn] x fun e x1 => (∃ q1 c1, e = .returned (.agg #[.slice q1 NS.length c1, .slice none 0 0]) ∧ NS.length ≤ c1 ∧ TxtAt x1 q1 NS) ∧ Below x.heap.size x x1) := fun x hb => by
    have h0 := specDiskNew_any nn x
    rw [← HNE.out] at h0
    exact h0.mono (by
    rintro e x1 ⟨v1, rfl, ho, h⟩
    obtain ⟨q1, c1, rfl, m1, t1⟩ := ownS_form ho
    exact ⟨⟨q1, c1, rfl, m1, t1⟩, h⟩)
  have QRi : Hid (∀ x, Below W13.heap.size W13 x → Calls Try.prog 18 #[.agg #[.slice gq1 gs.length gc1, .slice gq2 gp.length gc2], .int .i64 kk] x fun e x1 => (∃ q1 c1 q2 c2, e = .returned (.agg #[.slice q1 (RS).length c1, .slice q2 (RP).length c2, .string RT, .int .i64 RC]) ∧ (RS).length ≤ c1 ∧ (RP).length ≤ c2 ∧ TxtAt x1 q1 (RS) ∧ PndAt x1 q2 (RP)) ∧ Below x.heap.size x x1) := fun x hb => by
    have h0 := implDiskRead_any gq1 gc1 gs gq2 gc2 gp kk x (HT.out x hb).2.2.2.2.2.1 (HT.out x hb).2.2.2.2.2.2 (by omega) (by omega) gm1 gm2
    rw [← HRE.out.1, ← HRE.out.2.1, ← HRE.out.2.2.1, ← HRE.out.2.2.2] at h0
    exact h0.mono (by
    rintro e x1 ⟨v1, v2, rfl, ho, h⟩
    obtain ⟨q1, c1, rfl, m1, t1⟩ := ownS_form ho.own1
    obtain ⟨q2, c2, rfl, m2, t2⟩ := ownP_form ho.own2
    exact ⟨⟨q1, c1, q2, c2, rfl, m1, m2, t1, t2⟩, h⟩)
  have QRs : Hid (∀ x, Below W13.heap.size W13 x → Calls Try.prog 19 #[.agg #[.slice gq1 gs.length gc1, .slice gq2 gp.length gc2], .int .i64 kk] x fun e x1 => (∃ q1 c1 q2 c2, e = .returned (.agg #[.slice q1 (RS).length c1, .slice q2 (RP).length c2, .string RT, .int .i64 RC]) ∧ (RS).length ≤ c1 ∧ (RP).length ≤ c2 ∧ TxtAt x1 q1 (RS) ∧ PndAt x1 q2 (RP)) ∧ Below x.heap.size x x1) := fun x hb => by
    have h0 := specDiskRead_any gq1 gc1 gs gq2 gc2 gp kk x (HT.out x hb).2.2.2.2.2.1 (HT.out x hb).2.2.2.2.2.2 (by omega) (by omega) gm1 gm2
    rw [← HRE.out.1, ← HRE.out.2.1, ← HRE.out.2.2.1, ← HRE.out.2.2.2] at h0
    exact h0.mono (by
    rintro e x1 ⟨v1, v2, rfl, ho, h⟩
    obtain ⟨q1, c1, rfl, m1, t1⟩ := ownS_form ho.own1
    obtain ⟨q2, c2, rfl, m2, t2⟩ := ownP_form ho.own2
    exact ⟨⟨q1, c1, q2, c2, rfl, m1, m2, t1, t2⟩, h⟩)
  have QDi : Hid (∀ x, Below W13.heap.size W13 x → Calls Try.prog 20 #[.agg #[.slice eq1 es.length ec1, .slice eq2 ep.length ec2]] x fun e x1 => e = .returned (.bool DB) ∧ Below x.heap.size x x1) := fun x hb => by
    have h0 := implDiskRight_any eq1 ec1 es eq2 ec2 ep x (HT.out x hb).2.2.1.1 (HT.out x hb).2.2.1.2.1 (by omega) (by omega) em1 em2
    rw [← HDE.out] at h0
    exact h0
  have QDs : Hid (∀ x, Below W13.heap.size W13 x → Calls Try.prog 21 #[.agg #[.slice eq1 es.length ec1, .slice eq2 ep.length ec2]] x fun e x1 => e = .returned (.bool DB) ∧ Below x.heap.size x x1) := fun x hb => by
    have h0 := specDiskRight_any eq1 ec1 es eq2 ec2 ep x (HT.out x hb).2.2.1.1 (HT.out x hb).2.2.1.2.1 (by omega) (by omega) em1 em2
    rw [← HDE.out] at h0
    exact h0
  have QLx : Hid (∀ x q1 c1 q2 c2, Below W13.heap.size W13 x → XS.length ≤ c1 → XP.length ≤ c2 → TxtAt x q1 XS → PndAt x q2 XP → Calls Try.prog 11 #[.agg #[.slice xq1 XS.length xc1, .slice xq2 XP.length xc2, .string ByteArray.empty, .int .i64 XC], .agg #[.slice q1 XS.length c1, .slice q2 XP.length c2, .string ByteArray.empty, .int .i64 XC]] x fun e x1 => e = .returned (.bool true) ∧ Below x.heap.size x x1) := fun x q1 c1 q2 c2 hb m1 m2 h1 h2 => lwDisks_any ByteArray.empty XC xq1 xq2 q1 q2 xc1 xc2 c1 c2 XS XP x (HT.out x hb).2.1.1 (HT.out x hb).2.1.2 h1 h2 (by omega) (by omega) xm1 xm2 m1 m2 (fun hc => by rw [HXE.out.1, HXE.out.2.1]; exact wrC_right (by rw [← HXE.out.2.2]; exact hc))
  have QLc : Hid (∀ x q1 c1 q2 c2, Below W13.heap.size W13 x → CS.length ≤ c1 → CP.length ≤ c2 → TxtAt x q1 CS → PndAt x q2 CP → Calls Try.prog 13 #[.agg #[.slice cq1 CS.length cc1, .slice cq2 CP.length cc2], .agg #[.slice q1 CS.length c1, .slice q2 CP.length c2]] x fun e x1 => e = .returned (.bool true) ∧ Below x.heap.size x x1) := fun x q1 c1 q2 c2 hb m1 m2 h1 h2 => lwDisk_any cq1 cq2 q1 q2 cc1 cc2 c1 c2 CS CP x (HT.out x hb).2.2.2.1.1 (HT.out x hb).2.2.2.1.2 h1 h2 (by omega) (by omega) cm1 cm2 m1 m2
  have QLf : Hid (∀ x q1 c1, Below W13.heap.size W13 x → FS.length ≤ c1 → TxtAt x q1 FS → Calls Try.prog 11 #[.agg #[.slice fq1 FS.length fc1, .slice none 0 0, .string ByteArray.empty, .int .i64 FC], .agg #[.slice q1 FS.length c1, .slice none 0 0, .string ByteArray.empty, .int .i64 FC]] x fun e x1 => e = .returned (.bool true) ∧ Below x.heap.size x x1) := fun x q1 c1 hb m1 h1 => lwDisks_any ByteArray.empty FC fq1 none q1 none fc1 0 c1 0 FS [] x (HT.out x hb).2.2.2.2.1 (PndAt.nil _ _) h1 (PndAt.nil _ _) (by omega) (by simp) fm1 (Nat.le_refl _) m1 (Nat.le_refl _) (fun hc => by rw [HFE.out.1]; exact flC_right (by rw [← HFE.out.2]; exact hc))
  have QLn : Hid (∀ x p1 d1 q1 c1, NS.length ≤ d1 → NS.length ≤ c1 → TxtAt x p1 NS → TxtAt x q1 NS → Calls Try.prog 13 #[.agg #[.slice p1 NS.length d1, .slice none 0 0], .agg #[.slice q1 NS.length c1, .slice none 0 0]] x fun e x1 => e = .returned (.bool true) ∧ Below x.heap.size x x1) := fun x p1 d1 q1 c1 n1 m1 h0 h1 => lwDisk_any p1 none q1 none d1 0 c1 0 NS [] x h0 (PndAt.nil _ _) h1 (PndAt.nil _ _) (by omega) (by simp) n1 (Nat.le_refl _) m1 (Nat.le_refl _)
  have QLr : Hid (∀ x p1 d1 p2 d2 q1 c1 q2 c2, RS.length ≤ d1 → RP.length ≤ d2 → RS.length ≤ c1 → RP.length ≤ c2 → TxtAt x p1 RS → PndAt x p2 RP → TxtAt x q1 RS → PndAt x q2 RP → Calls Try.prog 11 #[.agg #[.slice p1 RS.length d1, .slice p2 RP.length d2, .string RT, .int .i64 RC], .agg #[.slice q1 RS.length c1, .slice q2 RP.length c2, .string RT, .int .i64 RC]] x fun e x1 => e = .returned (.bool true) ∧ Below x.heap.size x x1) := fun x p1 d1 p2 d2 q1 c1 q2 c2 n1 n2 m1 m2 g1 g2 h1 h2 => lwDisks_any RT RC p1 p2 q1 q2 d1 d2 c1 c2 RS RP x g1 g2 h1 h2 (by omega) (by omega) n1 n2 m1 m2 (fun hc => by rw [HRE.out.1, HRE.out.2.1]; exact rdC_right (by rw [← HRE.out.2.2.2]; exact hc))
  have BR : Hid (Below W13.heap.size W13 W13) := Below.refl _ _
  have hdb : (DB != DB) = false := by cases DB <;> rfl
  go_upto_region 10 with fail
  rw [← HW13.out]
  go_cut [103] from 57 to 103 (fun s103 wx => s103 = .bool false ∧ Hid (Below W13.heap.size W13 wx))
  case first =>
    first
      | (go_region_held3 (fun w' => w'.cell? ⟨w1.heap.size, 0, none⟩ = some (.slice dq1 ds.length dc1) ∧ w'.cell? ⟨w1.heap.size, 1, none⟩ = some (.slice dq2 dp.length dc2) ∧ w'.cell? ⟨w3.heap.size, 0, none⟩ = some (.slice xq1 XS.length xc1) ∧ w'.cell? ⟨w3.heap.size, 1, none⟩ = some (.slice xq2 XP.length xc2) ∧ w'.cell? ⟨w3.heap.size, 2, none⟩ = some (.string ByteArray.empty) ∧ w'.cell? ⟨w3.heap.size, 3, none⟩ = some (.int .i64 XC) ∧ w'.cell? ⟨w5.heap.size, 0, none⟩ = some (.slice eq1 es.length ec1) ∧ w'.cell? ⟨w5.heap.size, 1, none⟩ = some (.slice eq2 ep.length ec2) ∧ w'.cell? ⟨w7.heap.size, 0, none⟩ = some (.slice cq1 CS.length cc1) ∧ w'.cell? ⟨w7.heap.size, 1, none⟩ = some (.slice cq2 CP.length cc2) ∧ w'.cell? ⟨w9.heap.size, 0, none⟩ = some (.slice fq1 FS.length fc1) ∧ w'.cell? ⟨w9.heap.size, 1, none⟩ = some (.slice none 0 0) ∧ w'.cell? ⟨w9.heap.size, 2, none⟩ = some (.string ByteArray.empty) ∧ w'.cell? ⟨w9.heap.size, 3, none⟩ = some (.int .i64 FC) ∧ w'.cell? ⟨w12.heap.size, 0, none⟩ = some (.slice gq1 gs.length gc1) ∧ w'.cell? ⟨w12.heap.size, 1, none⟩ = some (.slice gq2 gp.length gc2)) (exact HX.out _ (by first | with_reducible assumption | exact BR.out.drew)) (first
          | (go_at_call 12; with_reducible refine (QW.out _ ?hb).mono ?_; (case hb => first | with_reducible assumption | exact BR.out | exact BR.out.drew); rintro e y1 ⟨⟨a1q, a1c, a2q, a2c, rfl, am1, am2, at1, at2⟩, z1⟩; have z1 : Below W13.heap.size W13 y1 := chainB (by first | assumption | exact BR.out | exact BR.out.drew) z1)
          | (go_at_call 11; with_reducible refine (QLx.out _ _ _ _ _ ?hb am1 am2 at1 at2).mono ?_; (case hb => first | with_reducible assumption | exact BR.out | exact BR.out.drew); rintro e y2 ⟨rfl, z2⟩; have z2 : Below W13.heap.size W13 y2 := chainB z1 z2)
          | (go_at_call 14; with_reducible refine (QC.out _ ?hb).mono ?_; (case hb => first | with_reducible assumption | exact BR.out | exact BR.out.drew); rintro e y3 ⟨⟨b1q, b1c, b2q, b2c, rfl, bm1, bm2, bt1, bt2⟩, z3⟩; have z3 : Below W13.heap.size W13 y3 := chainB z2 z3)
          | (go_at_call 13; with_reducible refine (QLc.out _ _ _ _ _ ?hb bm1 bm2 bt1 bt2).mono ?_; (case hb => first | with_reducible assumption | exact BR.out | exact BR.out.drew); rintro e y4 ⟨rfl, z4⟩; have z4 : Below W13.heap.size W13 y4 := chainB z3 z4)
          | (go_at_call 15; with_reducible refine (QF.out _ ?hb).mono ?_; (case hb => first | with_reducible assumption | exact BR.out | exact BR.out.drew); rintro e y5 ⟨⟨f1q, f1c, rfl, fm9, ft1⟩, z5⟩; have z5 : Below W13.heap.size W13 y5 := chainB z4 z5)
          | (go_at_call 11; with_reducible refine (QLf.out _ _ _ ?hb fm9 ft1).mono ?_; (case hb => first | with_reducible assumption | exact BR.out | exact BR.out.drew); rintro e y6 ⟨rfl, z6⟩; have z6 : Below W13.heap.size W13 y6 := chainB z5 z6)
          | (go_at_call 16; with_reducible refine (QNi.out _ ?hb).mono ?_; (case hb => first | with_reducible assumption | exact BR.out | exact BR.out.drew); rintro e y7 ⟨⟨n1q, n1c, rfl, nm1, nt1⟩, z7⟩; have z7 : Below W13.heap.size W13 y7 := chainB z6 z7)
          | (go_at_call 17; with_reducible refine (QNs.out _ ?hb).mono ?_; (case hb => first | with_reducible assumption | exact BR.out | exact BR.out.drew); rintro e y8 ⟨⟨n2q, n2c, rfl, nm2, nt2⟩, z8⟩; have nt1 := nt1.below z8; have z8 : Below W13.heap.size W13 y8 := chainB z7 z8)
          | (go_at_call 13; with_reducible refine (QLn.out _ _ _ _ _ nm1 nm2 nt1 nt2).mono ?_; rintro e y9 ⟨rfl, z9⟩; have z9 : Below W13.heap.size W13 y9 := chainB z8 z9)
          | (go_at_call 18; with_reducible refine (QRi.out _ ?hb).mono ?_; (case hb => first | with_reducible assumption | exact BR.out | exact BR.out.drew); rintro e y10 ⟨⟨r1q, r1c, r2q, r2c, rfl, rm1, rm2, rt1, rt2⟩, z10⟩; have z10 : Below W13.heap.size W13 y10 := chainB z9 z10)
          | (go_at_call 19; with_reducible refine (QRs.out _ ?hb).mono ?_; (case hb => first | with_reducible assumption | exact BR.out | exact BR.out.drew); rintro e y11 ⟨⟨r3q, r3c, r4q, r4c, rfl, rm3, rm4, rt3, rt4⟩, z11⟩; have rt1 := rt1.below z11; have rt2 := rt2.below z11; have z11 : Below W13.heap.size W13 y11 := chainB z10 z11)
          | (go_at_call 11; with_reducible refine (QLr.out _ _ _ _ _ _ _ _ _ rm1 rm2 rm3 rm4 rt1 rt2 rt3 rt4).mono ?_; rintro e y12 ⟨rfl, z12⟩; have z12 : Below W13.heap.size W13 y12 := chainB z11 z12)
          | (go_at_call 20; with_reducible refine (QDi.out _ ?hb).mono ?_; (case hb => first | with_reducible assumption | exact BR.out | exact BR.out.drew); rintro e y13 ⟨rfl, z13⟩; have z13 : Below W13.heap.size W13 y13 := chainB z12 z13)
          | (go_at_call 21; with_reducible refine (QDs.out _ ?hb).mono ?_; (case hb => first | with_reducible assumption | exact BR.out | exact BR.out.drew); rintro e y14 ⟨rfl, z14⟩; have z14 : Below W13.heap.size W13 y14 := chainB z13 z14)))
      | fail
    all_goals (go_wp2_with fail; go_meet; exact ⟨rfl, z14⟩)
  case rest =>
  obtain ⟨rfl, B0⟩ := hcut
  clear QW QC QF QNi QNs QRi QRs QDi QDs QLx QLc QLf QLn QLr BR hdb HNE HRE HDE HW13
  have hfd := field_data
  by_cases hx : XC = 0
  · have hwc : wrC ds dp at9 tx = 0 := by rw [← HXE.out.2.2]; exact hx
    have hXS : XS = ds := HXE.out.1.trans (if_pos hwc)
    have hXP : XP = dp ++ [(at9, tx)] := HXE.out.2.1.trans (if_pos hwc)
    have HWR : Hid (∀ k, k < ds.length → rdT XS XP (k : Int) = if (k : Int) = at9 then tx else rdT ds dp (k : Int)) := fun k hk => by rw [hXS, hXP]; exact write_read hwc k hk
    clear hXS hXP hwc HXE
    subst hx
    have k8 := (HX.out wc B0.out).2.2.2.2.2.1
    go_wp2_with fail
    go_loopw [16] (fun i wr => ∃ k : Nat, k ≤ ds.length ∧ i = .int .i64 k ∧ Hid (Below W13.heap.size W13 wr)) (fun i _ => ds.length - (intOf i).toNat)
    case atStart => exact ⟨0, Nat.zero_le _, rfl, B0⟩
    case round =>
      clear k8 B0
      obtain ⟨k, hk, rfl, HB⟩ := hrel
      obtain ⟨m0, m1', -⟩ := HX.out wr HB.out
      by_cases hlt : k < ds.length
      · have hW := HWR.out k hlt
        have QD : Hid (∀ x, Below W13.heap.size W13 x → Calls Try.prog 19 #[.agg #[.slice dq1 ds.length dc1, .slice dq2 dp.length dc2], .int .i64 (k : Int)] x fun e x1 => (∃ o1 n1 d1 o2 n2 d2 c, e = .returned (.agg #[.slice o1 n1 d1, .slice o2 n2 d2, .string (rdT ds dp (k : Int)), .int .i64 c])) ∧ Below x.heap.size x x1) := fun x hb => by
          have h0 := specDiskRead_any dq1 dc1 ds dq2 dc2 dp (k : Int) x (HT.out x hb).1.1 (HT.out x hb).1.2 (by omega) (by omega) dm1 dm2
          rw [show rdT ds dp (k : Int) = rdT ds dp (k : Int) from rfl] at h0
          exact h0.mono (by
        rintro e x1 ⟨v1, v2, rfl, ho, h⟩
        obtain ⟨o1, d1, rfl, -, -⟩ := ownS_form ho.own1
        obtain ⟨o2, d2, rfl, -, -⟩ := ownP_form ho.own2
        exact ⟨⟨o1, _, d1, o2, _, d2, _, rfl⟩, h⟩)
        have QX : Hid (∀ x, Below W13.heap.size W13 x → Calls Try.prog 18 #[.agg #[.slice xq1 XS.length xc1, .slice xq2 XP.length xc2], .int .i64 (k : Int)] x fun e x1 => (∃ o1 n1 d1 o2 n2 d2 c, e = .returned (.agg #[.slice o1 n1 d1, .slice o2 n2 d2, .string (if (k : Int) = at9 then tx else rdT ds dp (k : Int)), .int .i64 c])) ∧ Below x.heap.size x x1) := fun x hb => by
          have h0 := implDiskRead_any xq1 xc1 XS xq2 xc2 XP (k : Int) x (HT.out x hb).2.1.1 (HT.out x hb).2.1.2 (by omega) (by omega) xm1 xm2
          rw [hW] at h0
          exact h0.mono (by
        rintro e x1 ⟨v1, v2, rfl, ho, h⟩
        obtain ⟨o1, d1, rfl, -, -⟩ := ownS_form ho.own1
        obtain ⟨o2, d2, rfl, -, -⟩ := ownP_form ho.own2
        exact ⟨⟨o1, _, d1, o2, _, d2, _, rfl⟩, h⟩)
        generalize rdT ds dp (k : Int) = U at *
        go_wp2_with fail
        refine (QD.out _ HB.out).mono ?_
        rintro e y1 ⟨⟨o1, n1, d1, o2, n2, d2, c9, rfl⟩, b1⟩
        have b1 := chainB HB.out b1
        obtain ⟨-, -, j2, j3, -⟩ := HX.out y1 b1
        clear m0 m1' hW
        by_cases hat : (k : Int) = at9
        · have hbe : ((k : Int) == at9) = true := beq_iff_eq.2 hat
          rw [if_pos hat] at QX
          clear hat
          go_wp2_with fail
          refine (QX.out _ b1).mono ?_
          rintro e y2 ⟨⟨o3, n3, d3, o4, n4, d4, c8, rfl⟩, b2⟩
          have HB2 : Hid (Below W13.heap.size W13 y2) := chainB b1 b2
          clear b1 b2 QX QD
          go_wp2_with fail
          go_roundw
          case rel => exact ⟨k + 1, by omega, by go_num, HB2⟩
          case measure => simp [intOf]; omega
        · have hbe : ((k : Int) == at9) = false := beq_eq_false_iff_ne.2 hat
          rw [if_neg hat] at QX
          clear hat
          go_wp2_with fail
          refine (QX.out _ b1).mono ?_
          rintro e y2 ⟨⟨o3, n3, d3, o4, n4, d4, c8, rfl⟩, b2⟩
          have HB2 : Hid (Below W13.heap.size W13 y2) := chainB b1 b2
          clear b1 b2 QX QD
          go_wp2_with fail
          go_roundw
          case rel => exact ⟨k + 1, by omega, by go_num, HB2⟩
          case measure => simp [intOf]; omega
      · clear HWR
        obtain rfl : k = ds.length := by omega
        cases hde : dskB es ep with
        | false =>
          have hFC : FC = 1 := by rw [HFE.out.2]; exact if_neg (by rw [hde]; exact Bool.false_ne_true)
          subst hFC
          have k9 := (HX.out wr HB.out).2.2.2.2.2.2.2.2.2.2.2.2.2.1
          have HE := chainB BW.out HB.out
          clear HX HT hde
          go_wp2_with fail
          go_ret
          exact ⟨rfl, HE⟩
        | true =>
        have hFC : FC = 0 := by rw [HFE.out.2]; exact if_pos hde
        subst hFC
        obtain ⟨⟨p1, p2⟩, p3, p4, p5⟩ := dskB_parts hde
        have hFS : FS = flushB es ep := by rw [HFE.out.1]; exact if_pos hde
        have hFR : dskB FS [] = true := by rw [hFS]; exact flush_right hde
        obtain ⟨-, -, pf4, -⟩ := dskB_parts hFR
        have hCr := crash_of hde L (by omega)
        have hCS : CS = crashB es ep L := HCE.out.1.trans hCr.1
        have hCP : CP = [] := HCE.out.2.trans hCr.2
        have HCl : Hid (CS.length = es.length) := by show _ = _; rw [hCS, crashB_len]
        have hT := HT.out wr HB.out
        have hh := implDiskCrash_any fq1 fc1 FS none 0 [] kq kc L wr hT.2.2.2.2.1 (PndAt.nil _ _) hT.2.2.1.2.2 (by omega) (by simp) (by omega) fm1 (Nat.le_refl _) em3 (fun z hz => by have := pf4 z hz; omega) (fun z hz => by cases hz)
        rw [(crash_flushed hFR L (by omega)).1, (crash_flushed hFR L (by omega)).2, List.length_nil] at hh
        have HRd : Hid (∀ k, k < es.length → rdT FS [] (k : Int) = rdT es ep (k : Int)) := fun k hk => by rw [hFS]; exact flush_there hde k hk
        have HSome : Hid (∀ k, (hk : k < es.length) → (hc : k < CS.length) → CS[k] = es[k] ∨ ∃ j, ∃ hj : j < ep.length, ep[j].1 = (k : Int) ∧ ep[j].2 = CS[k]) := fun k hk hc => by
          have h := crash_some es ep L k p5
          rw [← hCS] at h
          have e1 : secAt CS (k : Int) = CS[k] := by show CS.getD _ _ = _; simp [List.getD_eq_getElem?_getD, hc]
          have e2 : secAt es (k : Int) = es[k] := by show es.getD _ _ = _; simp [List.getD_eq_getElem?_getD, hk]
          rw [e1, e2] at h
          exact h
        obtain ⟨-, -, -, -, -, -, -, -, -, -, k20, k21, -, k23, -, -⟩ := HX.out wr HB.out
        clear hde p4 p5 pf4 hFR hFS hCr hCS hT
        subst hCP
        go_wp2_with fail
        refine hh.mono ?_
        rintro e h1 ⟨hv1, hv2, rfl, oh, bh⟩
        obtain ⟨hq1, hc1, rfl, hm1, -⟩ := ownS_form oh.own1
        obtain ⟨hq2, hc2, hv2e, hm2, -⟩ := ownP_form oh.own2
        rw [List.length_nil] at hv2e
        subst hv2e
        obtain ⟨W18, hW18⟩ : ∃ W18, W18 = h1.alloc (.cells #[.slice hq1 FS.length hc1, .slice hq2 0 hc2] 26) := ⟨_, rfl⟩
        have HW18 : Hid (W18 = h1.alloc (.cells #[.slice hq1 FS.length hc1, .slice hq2 0 hc2] 26)) := hW18
        have bq : Below h1.heap.size h1 W18 := by rw [hW18]; exact (Below.refl _ _).alloc (Nat.le_refl _) _
        have K18 : Bxs W18 h1.heap.size 26 #[.slice hq1 FS.length hc1, .slice hq2 0 hc2] := by rw [hW18]; exact Bxs.new _ _ _
        have B18 : Below W13.heap.size W13 W18 := chainB (chainB HB.out bh) bq
        have oh8 := oh.below bq
        obtain ⟨_, _, he1, -, th1⟩ := ownS_form oh8.own1
        cases he1
        have HX8 : Hid (∀ x, Below W18.heap.size W18 x → x.cell? ⟨h1.heap.size, 0, none⟩ = some (.slice hq1 FS.length hc1) ∧ x.cell? ⟨h1.heap.size, 1, none⟩ = some (.slice hq2 0 hc2) ∧ TxtAt x hq1 FS) := fun x hb => ⟨(K18.below hb).cell 0, (K18.below hb).cell 1, th1.below hb⟩
        have HX9 : Hid (∀ x, Below W18.heap.size W18 x → x.cell? ⟨w9.heap.size, 0, none⟩ = some (.slice fq1 FS.length fc1) ∧ x.cell? ⟨w9.heap.size, 1, none⟩ = some (.slice none 0 0) ∧ x.cell? ⟨w5.heap.size, 0, none⟩ = some (.slice eq1 es.length ec1) ∧ x.cell? ⟨w5.heap.size, 1, none⟩ = some (.slice eq2 ep.length ec2) ∧ x.cell? ⟨w7.heap.size, 0, none⟩ = some (.slice cq1 CS.length cc1) ∧ x.cell? ⟨w7.heap.size, 1, none⟩ = some (.slice cq2 ([] : List Pnd).length cc2)) := fun x hb => by
          obtain ⟨-, -, -, -, -, -, q7, q8, q9, q10, q11, q12, -, -, -, -⟩ := HX.out x (chainB B18 hb)
          exact ⟨q11, q12, q7, q8, q9, q10⟩
        have HT8 : Hid (∀ x, Below W18.heap.size W18 x → TxtAt x fq1 FS ∧ TxtAt x eq1 es ∧ PndAt x eq2 ep ∧ TxtAt x cq1 CS) := fun x hb => by
          obtain ⟨-, -, ⟨q1, q2, -⟩, ⟨q3, -⟩, q4, -, -⟩ := HT.out x (chainB B18 hb)
          exact ⟨q4, q1, q2, q3⟩
        have HXA : Hid (∀ x, Below W18.heap.size W18 x → x.cell? ⟨w9.heap.size, 0, none⟩ = some (.slice fq1 FS.length fc1) ∧ x.cell? ⟨w9.heap.size, 1, none⟩ = some (.slice none 0 0) ∧ x.cell? ⟨w5.heap.size, 0, none⟩ = some (.slice eq1 es.length ec1) ∧ x.cell? ⟨w5.heap.size, 1, none⟩ = some (.slice eq2 ep.length ec2) ∧ x.cell? ⟨h1.heap.size, 0, none⟩ = some (.slice hq1 FS.length hc1) ∧ x.cell? ⟨h1.heap.size, 1, none⟩ = some (.slice hq2 0 hc2)) := fun x hb => ⟨(HX9.out x hb).1, (HX9.out x hb).2.1, (HX9.out x hb).2.2.1, (HX9.out x hb).2.2.2.1, (HX8.out x hb).1, (HX8.out x hb).2.1⟩
        have BE : Hid (Below w.heap.size w W18) := chainB BW.out B18
        have BR8 : Hid (Below W18.heap.size W18 W18) := Below.refl _ _
        clear hW18 bq K18 B18 oh oh8 bh hh th1 HX HT BW k20 k21 k23
        go_wp2_with fail
        rw [← HW18.out]
        go_loopw [19] (fun i wr => ∃ k : Nat, k ≤ es.length ∧ i = .int .i64 k ∧ Hid (Below W18.heap.size W18 wr)) (fun i _ => es.length - (intOf i).toNat)
        case atStart => exact ⟨0, Nat.zero_le _, rfl, BR8⟩
        case round =>
          obtain ⟨k, hk, rfl, HB⟩ := hrel
          obtain ⟨-, -, m0, -, -, m5⟩ := HX9.out wr HB.out
          by_cases hlt : k < es.length
          · have hU := HRd.out k hlt
            have hcl : k < CS.length := by have := HCl.out; omega
            have hsm := HSome.out k hlt hcl
            have QE : Hid (∀ x, Below W18.heap.size W18 x → Calls Try.prog 19 #[.agg #[.slice eq1 es.length ec1, .slice eq2 ep.length ec2], .int .i64 (k : Int)] x fun e x1 => (∃ o1 n1 d1 o2 n2 d2 c, e = .returned (.agg #[.slice o1 n1 d1, .slice o2 n2 d2, .string (rdT es ep (k : Int)), .int .i64 c])) ∧ Below x.heap.size x x1) := fun x hb => by
              have h0 := specDiskRead_any eq1 ec1 es eq2 ec2 ep (k : Int) x (HT8.out x hb).2.1 (HT8.out x hb).2.2.1 (by omega) (by omega) em1 em2
              rw [show rdT es ep (k : Int) = rdT es ep (k : Int) from rfl] at h0
              exact h0.mono (by
        rintro e x1 ⟨v1, v2, rfl, ho, h⟩
        obtain ⟨o1, d1, rfl, -, -⟩ := ownS_form ho.own1
        obtain ⟨o2, d2, rfl, -, -⟩ := ownP_form ho.own2
        exact ⟨⟨o1, _, d1, o2, _, d2, _, rfl⟩, h⟩)
            have QF8 : Hid (∀ x, Below W18.heap.size W18 x → Calls Try.prog 18 #[.agg #[.slice fq1 FS.length fc1, .slice none 0 0], .int .i64 (k : Int)] x fun e x1 => (∃ o1 n1 d1 o2 n2 d2 c, e = .returned (.agg #[.slice o1 n1 d1, .slice o2 n2 d2, .string (rdT es ep (k : Int)), .int .i64 c])) ∧ Below x.heap.size x x1) := fun x hb => by
              have h0 := implDiskRead_any fq1 fc1 FS none 0 [] (k : Int) x (HT8.out x hb).1 (PndAt.nil _ _) (by omega) (by simp) fm1 (Nat.le_refl _)
              rw [hU] at h0
              exact h0.mono (by
        rintro e x1 ⟨v1, v2, rfl, ho, h⟩
        obtain ⟨o1, d1, rfl, -, -⟩ := ownS_form ho.own1
        obtain ⟨o2, d2, rfl, -, -⟩ := ownP_form ho.own2
        exact ⟨⟨o1, _, d1, o2, _, d2, _, rfl⟩, h⟩)
            have QH8 : Hid (∀ x, Below W18.heap.size W18 x → Calls Try.prog 18 #[.agg #[.slice hq1 FS.length hc1, .slice hq2 0 hc2], .int .i64 (k : Int)] x fun e x1 => (∃ o1 n1 d1 o2 n2 d2 c, e = .returned (.agg #[.slice o1 n1 d1, .slice o2 n2 d2, .string (rdT es ep (k : Int)), .int .i64 c])) ∧ Below x.heap.size x x1) := fun x hb => by
              have h0 := implDiskRead_any hq1 hc1 FS hq2 hc2 [] (k : Int) x (HX8.out x hb).2.2 (PndAt.nil _ _) (by omega) (by simp) hm1 (by simp)
              rw [hU] at h0
              exact h0.mono (by
        rintro e x1 ⟨v1, v2, rfl, ho, h⟩
        obtain ⟨o1, d1, rfl, -, -⟩ := ownS_form ho.own1
        obtain ⟨o2, d2, rfl, -, -⟩ := ownP_form ho.own2
        exact ⟨⟨o1, _, d1, o2, _, d2, _, rfl⟩, h⟩)
            generalize rdT es ep (k : Int) = U at *
            go_upto_region 27 with fail
            go_cut [163] from 143 to 163 (fun s163 wx => s163 = .bool false ∧ Hid (Below W18.heap.size W18 wx))
            case first =>
              first
                | (go_region_held3 (fun w' => w'.cell? ⟨w9.heap.size, 0, none⟩ = some (.slice fq1 FS.length fc1) ∧ w'.cell? ⟨w9.heap.size, 1, none⟩ = some (.slice none 0 0) ∧ w'.cell? ⟨w5.heap.size, 0, none⟩ = some (.slice eq1 es.length ec1) ∧ w'.cell? ⟨w5.heap.size, 1, none⟩ = some (.slice eq2 ep.length ec2) ∧ w'.cell? ⟨h1.heap.size, 0, none⟩ = some (.slice hq1 FS.length hc1) ∧ w'.cell? ⟨h1.heap.size, 1, none⟩ = some (.slice hq2 0 hc2)) (exact HXA.out _ (by first | with_reducible assumption | exact HB.out.drew)) (first
                    | (go_at_call 18; with_reducible refine (QF8.out _ ?hb).mono ?_; (case hb => first | with_reducible assumption | exact HB.out | exact HB.out.drew); rintro e y1 ⟨⟨o1, n1, d1, o2, n2, d2, c9, rfl⟩, z1⟩; have z1 : Below W18.heap.size W18 y1 := chainB (by first | with_reducible assumption | exact HB.out | exact HB.out.drew) z1)
                    | (go_at_call 18; with_reducible refine (QH8.out _ ?hb).mono ?_; (case hb => first | with_reducible assumption | exact HB.out | exact HB.out.drew); rintro e y3 ⟨⟨o5, n5, d5, o6, n6, d6, c7, rfl⟩, z3⟩; have z3 : Below W18.heap.size W18 y3 := chainB (by first | with_reducible assumption | exact HB.out | exact HB.out.drew) z3)
                    | (go_at_call 19; with_reducible refine (QE.out _ ?hb).mono ?_; (case hb => first | with_reducible assumption | exact HB.out | exact HB.out.drew); rintro e y2 ⟨⟨o3, n3, d3, o4, n4, d4, c8, rfl⟩, z2⟩; have z2 : Below W18.heap.size W18 y2 := chainB (by first | with_reducible assumption | exact HB.out | exact HB.out.drew) z2)))
                | fail
              all_goals (go_wp2_with fail; go_meet; exact ⟨rfl, z2⟩)
            case rest =>
            obtain ⟨rfl, HB2⟩ := hcut
            clear QE QF8 QH8 HB m0 m5
            obtain ⟨be, oe, hqe, -, hce⟩ := (HT8.out wc HB2.out).2.1 k hlt
            subst hqe
            obtain ⟨bc, oc, hqc, -, -⟩ := (HT8.out wc HB2.out).2.2.2 k hcl
            subst hqc
            have HCk : Hid (∀ x, Below W18.heap.size W18 x → x.cell? ⟨bc, oc + k, none⟩ = some (.string CS[k])) := fun x hb => by
              obtain ⟨b', o', hq', -, h'⟩ := (HT8.out x hb).2.2.2 k hcl
              cases hq'; exact h'
            have hcc := HCk.out wc HB2.out
            obtain ⟨-, -, m0, m1, m4, m5⟩ := HX9.out wc HB2.out
            have ik : (k : Int) < es.length := by omega
            have ik2 : (k : Int) < CS.length := by omega
            generalize CS[k] = Ck at *
            generalize es[k] = Ek at *
            have HSm : Hid (Ck = Ek ∨ ∃ j, ∃ hj : j < ep.length, ep[j].1 = (k : Int) ∧ ep[j].2 = Ck) := hsm
            clear hsm HRd HSome
            go_wp2_with fail
            go_region
            all_goals
              go_wp2_with fail
              go_loopw [20, 21] (fun s20 s21 wr => ∃ (j : Nat) (b : Bool), j ≤ ep.length ∧ s20 = .bool b ∧ s21 = .int .i64 j ∧ Hid (b = true ↔ (Ck = Ek ∨ ∃ q ∈ ep.take j, q.1 = (k : Int) ∧ q.2 = Ck)) ∧ Hid (Below W18.heap.size W18 wr)) (fun _ s21 _ => ep.length - (intOf s21).toNat)
              case atStart => exact ⟨0, _, Nat.zero_le _, rfl, rfl, by show _ ↔ _; simp [toL_inj], by first | exact HB2 | exact HB2.out.drew⟩
              case round =>
                clear m0 m1 m4 m5 hcc hce HB2
                obtain ⟨j, b, hj, rfl, rfl, HI, HB3⟩ := hrel
                obtain ⟨-, -, m0, m1, m4, m5⟩ := HX9.out wr HB3.out
                have hcc := HCk.out wr HB3.out
                by_cases hjl : j < ep.length
                · obtain ⟨bp, op, hqp, -, hp1, hp2⟩ := (HT8.out wr HB3.out).2.2.1 j hjl
                  subst hqp
                  have ij : (j : Int) < ep.length := by omega
                  have HI2 : Hid (∀ q, ep[j] = q → ∀ b' : Bool, (b' = true ↔ (b = true ∨ (q.1 = (k : Int) ∧ q.2 = Ck))) → (b' = true ↔ (Ck = Ek ∨ ∃ q ∈ ep.take (j + 1), q.1 = (k : Int) ∧ q.2 = Ck))) := fun q hq b' hb' => by
                    rw [hb', HI.out, List.take_succ_eq_append_getElem hjl, hq]
                    constructor
                    · rintro ((h | ⟨p, hp, h⟩) | h)
                      · exact .inl h
                      · exact .inr ⟨p, List.mem_append_left _ hp, h⟩
                      · exact .inr ⟨q, List.mem_append_right _ (List.mem_singleton.2 rfl), h⟩
                    · rintro (h | ⟨p, hp, h⟩)
                      · exact .inl (.inl h)
                      · rcases List.mem_append.1 hp with hp | hp
                        · exact .inl (.inr ⟨p, hp, h⟩)
                        · rw [List.mem_singleton.1 hp] at h; exact .inr h
                  generalize ep[j] = P at *
                  obtain ⟨A, Dt⟩ := P
                  have hp1 : wr.cell? ⟨bp, op + j * 2, none⟩ = some (.int .i64 A) := hp1
                  have hp2 : wr.cell? ⟨bp, op + j * 2 + 1, none⟩ = some (.string Dt) := hp2
                  have HI3 : Hid (∀ b' : Bool, (b' = true ↔ (b = true ∨ (A = (k : Int) ∧ Dt = Ck))) → (b' = true ↔ (Ck = Ek ∨ ∃ q ∈ ep.take (j + 1), q.1 = (k : Int) ∧ q.2 = Ck))) := fun b' h => HI2.out _ rfl b' h
                  clear HI2 HI
                  cases b
                  · by_cases hA : A = (k : Int)
                    · by_cases hD : Dt = Ck
                      · have HI4 := HI3.out true (by simp [hA, hD])
                        have HI5 : Hid _ := HI4
                        have hAb : (A == (k : Int)) = true := beq_iff_eq.2 hA
                        subst hD
                        clear HI3 HI4 hA
                        go_wp2_with fail
                        first
                          | (go_region)
                          | fail
                        all_goals
                          go_wp2_with fail
                          go_roundw
                          case rel => exact ⟨j + 1, true, by omega, rfl, by go_num, (by have h := HI5.out; show _ ↔ _; simpa using h), by first | exact HB3 | exact HB3.out.drew⟩
                          case measure => simp [intOf]; omega
                      · have HI4 := HI3.out false (by simp [hA, hD])
                        have HI5 : Hid _ := HI4
                        have hAb : (A == (k : Int)) = true := beq_iff_eq.2 hA
                        have hDb : (Dt.toList == Ck.toList) = false := toL_ne hD
                        have hDd : decide (Dt = Ck) = false := decide_eq_false hD
                        clear HI3 HI4 hA
                        go_wp2_with fail
                        first
                          | (go_region)
                          | fail
                        all_goals
                          go_wp2_with fail
                          go_roundw
                          case rel => exact ⟨j + 1, false, by omega, rfl, by go_num, (by have h := HI5.out; show _ ↔ _; simpa using h), by first | exact HB3 | exact HB3.out.drew⟩
                          case measure => simp [intOf]; omega
                    · have HI4 := HI3.out false (by simp [hA])
                      have HI5 : Hid _ := HI4
                      have hAb : (A == (k : Int)) = false := beq_eq_false_iff_ne.2 hA
                      clear HI3 HI4 hA
                      go_wp2_with fail
                      first
                        | (go_region)
                        | fail
                      all_goals
                        go_wp2_with fail
                        go_roundw
                        case rel => exact ⟨j + 1, false, by omega, rfl, by go_num, (by have h := HI5.out; show _ ↔ _; simpa using h), by first | exact HB3 | exact HB3.out.drew⟩
                        case measure => simp [intOf]; omega
                  · have HI4 := HI3.out true (by simp)
                    have HI5 : Hid _ := HI4
                    clear HI3 HI4
                    go_wp2_with fail
                    first
                      | (go_region)
                      | fail
                    all_goals
                      go_wp2_with fail
                      go_roundw
                      case rel => exact ⟨j + 1, true, by omega, rfl, by go_num, (by have h := HI5.out; show _ ↔ _; simpa using h), by first | exact HB3 | exact HB3.out.drew⟩
                      case measure => simp [intOf]; omega
                · obtain rfl : j = ep.length := by omega
                  have hbt : b = true := HI.out.2 (by
                    rcases HSm.out with h | ⟨i, hi, h⟩
                    · exact .inl h
                    · exact .inr ⟨ep[i], by rw [List.take_of_length_le (Nat.le_refl _)]; exact List.getElem_mem hi, h⟩)
                  subst hbt
                  clear HI HSm
                  go_wp2_with fail
                  go_roundw
                  case rel => exact ⟨k + 1, by omega, by go_num, HB3⟩
                  case measure => simp [intOf]; omega
          · obtain rfl : k = es.length := by omega
            have HE := chainB BE.out HB.out
            go_wp2_with fail
            go_ret
            exact ⟨rfl, HE⟩
  · have hbx : (XC == 0) = false := beq_eq_false_iff_ne.2 hx
    have k8 := (HX.out wc B0.out).2.2.2.2.2.1
    clear HXE hx
    cases hde : dskB es ep with
    | false =>
      have hFC : FC = 1 := by rw [HFE.out.2]; exact if_neg (by rw [hde]; exact Bool.false_ne_true)
      subst hFC
      have k9 := (HX.out wc B0.out).2.2.2.2.2.2.2.2.2.2.2.2.2.1
      have HE := chainB BW.out B0.out
      clear HX HT hde
      go_wp2_with fail
      go_ret
      exact ⟨rfl, HE⟩
    | true =>
    have hFC : FC = 0 := by rw [HFE.out.2]; exact if_pos hde
    subst hFC
    obtain ⟨⟨p1, p2⟩, p3, p4, p5⟩ := dskB_parts hde
    have hFS : FS = flushB es ep := by rw [HFE.out.1]; exact if_pos hde
    have hFR : dskB FS [] = true := by rw [hFS]; exact flush_right hde
    obtain ⟨-, -, pf4, -⟩ := dskB_parts hFR
    have hCr := crash_of hde L (by omega)
    have hCS : CS = crashB es ep L := HCE.out.1.trans hCr.1
    have hCP : CP = [] := HCE.out.2.trans hCr.2
    have HCl : Hid (CS.length = es.length) := by show _ = _; rw [hCS, crashB_len]
    have hT := HT.out wc B0.out
    have hh := implDiskCrash_any fq1 fc1 FS none 0 [] kq kc L wc hT.2.2.2.2.1 (PndAt.nil _ _) hT.2.2.1.2.2 (by omega) (by simp) (by omega) fm1 (Nat.le_refl _) em3 (fun z hz => by have := pf4 z hz; omega) (fun z hz => by cases hz)
    rw [(crash_flushed hFR L (by omega)).1, (crash_flushed hFR L (by omega)).2, List.length_nil] at hh
    have HRd : Hid (∀ k, k < es.length → rdT FS [] (k : Int) = rdT es ep (k : Int)) := fun k hk => by rw [hFS]; exact flush_there hde k hk
    have HSome : Hid (∀ k, (hk : k < es.length) → (hc : k < CS.length) → CS[k] = es[k] ∨ ∃ j, ∃ hj : j < ep.length, ep[j].1 = (k : Int) ∧ ep[j].2 = CS[k]) := fun k hk hc => by
      have h := crash_some es ep L k p5
      rw [← hCS] at h
      have e1 : secAt CS (k : Int) = CS[k] := by show CS.getD _ _ = _; simp [List.getD_eq_getElem?_getD, hc]
      have e2 : secAt es (k : Int) = es[k] := by show es.getD _ _ = _; simp [List.getD_eq_getElem?_getD, hk]
      rw [e1, e2] at h
      exact h
    obtain ⟨-, -, -, -, -, -, -, -, -, -, k20, k21, -, k23, -, -⟩ := HX.out wc B0.out
    clear hde p4 p5 pf4 hFR hFS hCr hCS hT
    subst hCP
    go_wp2_with fail
    refine hh.mono ?_
    rintro e h1 ⟨hv1, hv2, rfl, oh, bh⟩
    obtain ⟨hq1, hc1, rfl, hm1, -⟩ := ownS_form oh.own1
    obtain ⟨hq2, hc2, hv2e, hm2, -⟩ := ownP_form oh.own2
    rw [List.length_nil] at hv2e
    subst hv2e
    obtain ⟨W18, hW18⟩ : ∃ W18, W18 = h1.alloc (.cells #[.slice hq1 FS.length hc1, .slice hq2 0 hc2] 26) := ⟨_, rfl⟩
    have HW18 : Hid (W18 = h1.alloc (.cells #[.slice hq1 FS.length hc1, .slice hq2 0 hc2] 26)) := hW18
    have bq : Below h1.heap.size h1 W18 := by rw [hW18]; exact (Below.refl _ _).alloc (Nat.le_refl _) _
    have K18 : Bxs W18 h1.heap.size 26 #[.slice hq1 FS.length hc1, .slice hq2 0 hc2] := by rw [hW18]; exact Bxs.new _ _ _
    have B18 : Below W13.heap.size W13 W18 := chainB (chainB B0.out bh) bq
    have oh8 := oh.below bq
    obtain ⟨_, _, he1, -, th1⟩ := ownS_form oh8.own1
    cases he1
    have HX8 : Hid (∀ x, Below W18.heap.size W18 x → x.cell? ⟨h1.heap.size, 0, none⟩ = some (.slice hq1 FS.length hc1) ∧ x.cell? ⟨h1.heap.size, 1, none⟩ = some (.slice hq2 0 hc2) ∧ TxtAt x hq1 FS) := fun x hb => ⟨(K18.below hb).cell 0, (K18.below hb).cell 1, th1.below hb⟩
    have HX9 : Hid (∀ x, Below W18.heap.size W18 x → x.cell? ⟨w9.heap.size, 0, none⟩ = some (.slice fq1 FS.length fc1) ∧ x.cell? ⟨w9.heap.size, 1, none⟩ = some (.slice none 0 0) ∧ x.cell? ⟨w5.heap.size, 0, none⟩ = some (.slice eq1 es.length ec1) ∧ x.cell? ⟨w5.heap.size, 1, none⟩ = some (.slice eq2 ep.length ec2) ∧ x.cell? ⟨w7.heap.size, 0, none⟩ = some (.slice cq1 CS.length cc1) ∧ x.cell? ⟨w7.heap.size, 1, none⟩ = some (.slice cq2 ([] : List Pnd).length cc2)) := fun x hb => by
      obtain ⟨-, -, -, -, -, -, q7, q8, q9, q10, q11, q12, -, -, -, -⟩ := HX.out x (chainB B18 hb)
      exact ⟨q11, q12, q7, q8, q9, q10⟩
    have HT8 : Hid (∀ x, Below W18.heap.size W18 x → TxtAt x fq1 FS ∧ TxtAt x eq1 es ∧ PndAt x eq2 ep ∧ TxtAt x cq1 CS) := fun x hb => by
      obtain ⟨-, -, ⟨q1, q2, -⟩, ⟨q3, -⟩, q4, -, -⟩ := HT.out x (chainB B18 hb)
      exact ⟨q4, q1, q2, q3⟩
    have HXA : Hid (∀ x, Below W18.heap.size W18 x → x.cell? ⟨w9.heap.size, 0, none⟩ = some (.slice fq1 FS.length fc1) ∧ x.cell? ⟨w9.heap.size, 1, none⟩ = some (.slice none 0 0) ∧ x.cell? ⟨w5.heap.size, 0, none⟩ = some (.slice eq1 es.length ec1) ∧ x.cell? ⟨w5.heap.size, 1, none⟩ = some (.slice eq2 ep.length ec2) ∧ x.cell? ⟨h1.heap.size, 0, none⟩ = some (.slice hq1 FS.length hc1) ∧ x.cell? ⟨h1.heap.size, 1, none⟩ = some (.slice hq2 0 hc2)) := fun x hb => ⟨(HX9.out x hb).1, (HX9.out x hb).2.1, (HX9.out x hb).2.2.1, (HX9.out x hb).2.2.2.1, (HX8.out x hb).1, (HX8.out x hb).2.1⟩
    have BE : Hid (Below w.heap.size w W18) := chainB BW.out B18
    have BR8 : Hid (Below W18.heap.size W18 W18) := Below.refl _ _
    clear hW18 bq K18 B18 oh oh8 bh hh th1 HX HT BW k20 k21 k23
    go_wp2_with fail
    rw [← HW18.out]
    go_loopw [19] (fun i wr => ∃ k : Nat, k ≤ es.length ∧ i = .int .i64 k ∧ Hid (Below W18.heap.size W18 wr)) (fun i _ => es.length - (intOf i).toNat)
    case atStart => exact ⟨0, Nat.zero_le _, rfl, BR8⟩
    case round =>
      obtain ⟨k, hk, rfl, HB⟩ := hrel
      obtain ⟨-, -, m0, -, -, m5⟩ := HX9.out wr HB.out
      by_cases hlt : k < es.length
      · have hU := HRd.out k hlt
        have hcl : k < CS.length := by have := HCl.out; omega
        have hsm := HSome.out k hlt hcl
        have QE : Hid (∀ x, Below W18.heap.size W18 x → Calls Try.prog 19 #[.agg #[.slice eq1 es.length ec1, .slice eq2 ep.length ec2], .int .i64 (k : Int)] x fun e x1 => (∃ o1 n1 d1 o2 n2 d2 c, e = .returned (.agg #[.slice o1 n1 d1, .slice o2 n2 d2, .string (rdT es ep (k : Int)), .int .i64 c])) ∧ Below x.heap.size x x1) := fun x hb => by
          have h0 := specDiskRead_any eq1 ec1 es eq2 ec2 ep (k : Int) x (HT8.out x hb).2.1 (HT8.out x hb).2.2.1 (by omega) (by omega) em1 em2
          rw [show rdT es ep (k : Int) = rdT es ep (k : Int) from rfl] at h0
          exact h0.mono (by
        rintro e x1 ⟨v1, v2, rfl, ho, h⟩
        obtain ⟨o1, d1, rfl, -, -⟩ := ownS_form ho.own1
        obtain ⟨o2, d2, rfl, -, -⟩ := ownP_form ho.own2
        exact ⟨⟨o1, _, d1, o2, _, d2, _, rfl⟩, h⟩)
        have QF8 : Hid (∀ x, Below W18.heap.size W18 x → Calls Try.prog 18 #[.agg #[.slice fq1 FS.length fc1, .slice none 0 0], .int .i64 (k : Int)] x fun e x1 => (∃ o1 n1 d1 o2 n2 d2 c, e = .returned (.agg #[.slice o1 n1 d1, .slice o2 n2 d2, .string (rdT es ep (k : Int)), .int .i64 c])) ∧ Below x.heap.size x x1) := fun x hb => by
          have h0 := implDiskRead_any fq1 fc1 FS none 0 [] (k : Int) x (HT8.out x hb).1 (PndAt.nil _ _) (by omega) (by simp) fm1 (Nat.le_refl _)
          rw [hU] at h0
          exact h0.mono (by
        rintro e x1 ⟨v1, v2, rfl, ho, h⟩
        obtain ⟨o1, d1, rfl, -, -⟩ := ownS_form ho.own1
        obtain ⟨o2, d2, rfl, -, -⟩ := ownP_form ho.own2
        exact ⟨⟨o1, _, d1, o2, _, d2, _, rfl⟩, h⟩)
        have QH8 : Hid (∀ x, Below W18.heap.size W18 x → Calls Try.prog 18 #[.agg #[.slice hq1 FS.length hc1, .slice hq2 0 hc2], .int .i64 (k : Int)] x fun e x1 => (∃ o1 n1 d1 o2 n2 d2 c, e = .returned (.agg #[.slice o1 n1 d1, .slice o2 n2 d2, .string (rdT es ep (k : Int)), .int .i64 c])) ∧ Below x.heap.size x x1) := fun x hb => by
          have h0 := implDiskRead_any hq1 hc1 FS hq2 hc2 [] (k : Int) x (HX8.out x hb).2.2 (PndAt.nil _ _) (by omega) (by simp) hm1 (by simp)
          rw [hU] at h0
          exact h0.mono (by
        rintro e x1 ⟨v1, v2, rfl, ho, h⟩
        obtain ⟨o1, d1, rfl, -, -⟩ := ownS_form ho.own1
        obtain ⟨o2, d2, rfl, -, -⟩ := ownP_form ho.own2
        exact ⟨⟨o1, _, d1, o2, _, d2, _, rfl⟩, h⟩)
        generalize rdT es ep (k : Int) = U at *
        go_upto_region 27 with fail
        go_cut [163] from 143 to 163 (fun s163 wx => s163 = .bool false ∧ Hid (Below W18.heap.size W18 wx))
        case first =>
          first
            | (go_region_held3 (fun w' => w'.cell? ⟨w9.heap.size, 0, none⟩ = some (.slice fq1 FS.length fc1) ∧ w'.cell? ⟨w9.heap.size, 1, none⟩ = some (.slice none 0 0) ∧ w'.cell? ⟨w5.heap.size, 0, none⟩ = some (.slice eq1 es.length ec1) ∧ w'.cell? ⟨w5.heap.size, 1, none⟩ = some (.slice eq2 ep.length ec2) ∧ w'.cell? ⟨h1.heap.size, 0, none⟩ = some (.slice hq1 FS.length hc1) ∧ w'.cell? ⟨h1.heap.size, 1, none⟩ = some (.slice hq2 0 hc2)) (exact HXA.out _ (by first | with_reducible assumption | exact HB.out.drew)) (first
                | (go_at_call 18; with_reducible refine (QF8.out _ ?hb).mono ?_; (case hb => first | with_reducible assumption | exact HB.out | exact HB.out.drew); rintro e y1 ⟨⟨o1, n1, d1, o2, n2, d2, c9, rfl⟩, z1⟩; have z1 : Below W18.heap.size W18 y1 := chainB (by first | with_reducible assumption | exact HB.out | exact HB.out.drew) z1)
                | (go_at_call 18; with_reducible refine (QH8.out _ ?hb).mono ?_; (case hb => first | with_reducible assumption | exact HB.out | exact HB.out.drew); rintro e y3 ⟨⟨o5, n5, d5, o6, n6, d6, c7, rfl⟩, z3⟩; have z3 : Below W18.heap.size W18 y3 := chainB (by first | with_reducible assumption | exact HB.out | exact HB.out.drew) z3)
                | (go_at_call 19; with_reducible refine (QE.out _ ?hb).mono ?_; (case hb => first | with_reducible assumption | exact HB.out | exact HB.out.drew); rintro e y2 ⟨⟨o3, n3, d3, o4, n4, d4, c8, rfl⟩, z2⟩; have z2 : Below W18.heap.size W18 y2 := chainB (by first | with_reducible assumption | exact HB.out | exact HB.out.drew) z2)))
            | fail
          all_goals (go_wp2_with fail; go_meet; exact ⟨rfl, z2⟩)
        case rest =>
        obtain ⟨rfl, HB2⟩ := hcut
        clear QE QF8 QH8 HB m0 m5
        obtain ⟨be, oe, hqe, -, hce⟩ := (HT8.out wc HB2.out).2.1 k hlt
        subst hqe
        obtain ⟨bc, oc, hqc, -, -⟩ := (HT8.out wc HB2.out).2.2.2 k hcl
        subst hqc
        have HCk : Hid (∀ x, Below W18.heap.size W18 x → x.cell? ⟨bc, oc + k, none⟩ = some (.string CS[k])) := fun x hb => by
          obtain ⟨b', o', hq', -, h'⟩ := (HT8.out x hb).2.2.2 k hcl
          cases hq'; exact h'
        have hcc := HCk.out wc HB2.out
        obtain ⟨-, -, m0, m1, m4, m5⟩ := HX9.out wc HB2.out
        have ik : (k : Int) < es.length := by omega
        have ik2 : (k : Int) < CS.length := by omega
        generalize CS[k] = Ck at *
        generalize es[k] = Ek at *
        have HSm : Hid (Ck = Ek ∨ ∃ j, ∃ hj : j < ep.length, ep[j].1 = (k : Int) ∧ ep[j].2 = Ck) := hsm
        clear hsm HRd HSome
        go_wp2_with fail
        go_region
        all_goals
          go_wp2_with fail
          go_loopw [20, 21] (fun s20 s21 wr => ∃ (j : Nat) (b : Bool), j ≤ ep.length ∧ s20 = .bool b ∧ s21 = .int .i64 j ∧ Hid (b = true ↔ (Ck = Ek ∨ ∃ q ∈ ep.take j, q.1 = (k : Int) ∧ q.2 = Ck)) ∧ Hid (Below W18.heap.size W18 wr)) (fun _ s21 _ => ep.length - (intOf s21).toNat)
          case atStart => exact ⟨0, _, Nat.zero_le _, rfl, rfl, by show _ ↔ _; simp [toL_inj], by first | exact HB2 | exact HB2.out.drew⟩
          case round =>
            clear m0 m1 m4 m5 hcc hce HB2
            obtain ⟨j, b, hj, rfl, rfl, HI, HB3⟩ := hrel
            obtain ⟨-, -, m0, m1, m4, m5⟩ := HX9.out wr HB3.out
            have hcc := HCk.out wr HB3.out
            by_cases hjl : j < ep.length
            · obtain ⟨bp, op, hqp, -, hp1, hp2⟩ := (HT8.out wr HB3.out).2.2.1 j hjl
              subst hqp
              have ij : (j : Int) < ep.length := by omega
              have HI2 : Hid (∀ q, ep[j] = q → ∀ b' : Bool, (b' = true ↔ (b = true ∨ (q.1 = (k : Int) ∧ q.2 = Ck))) → (b' = true ↔ (Ck = Ek ∨ ∃ q ∈ ep.take (j + 1), q.1 = (k : Int) ∧ q.2 = Ck))) := fun q hq b' hb' => by
                rw [hb', HI.out, List.take_succ_eq_append_getElem hjl, hq]
                constructor
                · rintro ((h | ⟨p, hp, h⟩) | h)
                  · exact .inl h
                  · exact .inr ⟨p, List.mem_append_left _ hp, h⟩
                  · exact .inr ⟨q, List.mem_append_right _ (List.mem_singleton.2 rfl), h⟩
                · rintro (h | ⟨p, hp, h⟩)
                  · exact .inl (.inl h)
                  · rcases List.mem_append.1 hp with hp | hp
                    · exact .inl (.inr ⟨p, hp, h⟩)
                    · rw [List.mem_singleton.1 hp] at h; exact .inr h
              generalize ep[j] = P at *
              obtain ⟨A, Dt⟩ := P
              have hp1 : wr.cell? ⟨bp, op + j * 2, none⟩ = some (.int .i64 A) := hp1
              have hp2 : wr.cell? ⟨bp, op + j * 2 + 1, none⟩ = some (.string Dt) := hp2
              have HI3 : Hid (∀ b' : Bool, (b' = true ↔ (b = true ∨ (A = (k : Int) ∧ Dt = Ck))) → (b' = true ↔ (Ck = Ek ∨ ∃ q ∈ ep.take (j + 1), q.1 = (k : Int) ∧ q.2 = Ck))) := fun b' h => HI2.out _ rfl b' h
              clear HI2 HI
              cases b
              · by_cases hA : A = (k : Int)
                · by_cases hD : Dt = Ck
                  · have HI4 := HI3.out true (by simp [hA, hD])
                    have HI5 : Hid _ := HI4
                    have hAb : (A == (k : Int)) = true := beq_iff_eq.2 hA
                    subst hD
                    clear HI3 HI4 hA
                    go_wp2_with fail
                    first
                      | (go_region)
                      | fail
                    all_goals
                      go_wp2_with fail
                      go_roundw
                      case rel => exact ⟨j + 1, true, by omega, rfl, by go_num, (by have h := HI5.out; show _ ↔ _; simpa using h), by first | exact HB3 | exact HB3.out.drew⟩
                      case measure => simp [intOf]; omega
                  · have HI4 := HI3.out false (by simp [hA, hD])
                    have HI5 : Hid _ := HI4
                    have hAb : (A == (k : Int)) = true := beq_iff_eq.2 hA
                    have hDb : (Dt.toList == Ck.toList) = false := toL_ne hD
                    have hDd : decide (Dt = Ck) = false := decide_eq_false hD
                    clear HI3 HI4 hA
                    go_wp2_with fail
                    first
                      | (go_region)
                      | fail
                    all_goals
                      go_wp2_with fail
                      go_roundw
                      case rel => exact ⟨j + 1, false, by omega, rfl, by go_num, (by have h := HI5.out; show _ ↔ _; simpa using h), by first | exact HB3 | exact HB3.out.drew⟩
                      case measure => simp [intOf]; omega
                · have HI4 := HI3.out false (by simp [hA])
                  have HI5 : Hid _ := HI4
                  have hAb : (A == (k : Int)) = false := beq_eq_false_iff_ne.2 hA
                  clear HI3 HI4 hA
                  go_wp2_with fail
                  first
                    | (go_region)
                    | fail
                  all_goals
                    go_wp2_with fail
                    go_roundw
                    case rel => exact ⟨j + 1, false, by omega, rfl, by go_num, (by have h := HI5.out; show _ ↔ _; simpa using h), by first | exact HB3 | exact HB3.out.drew⟩
                    case measure => simp [intOf]; omega
              · have HI4 := HI3.out true (by simp)
                have HI5 : Hid _ := HI4
                clear HI3 HI4
                go_wp2_with fail
                first
                  | (go_region)
                  | fail
                all_goals
                  go_wp2_with fail
                  go_roundw
                  case rel => exact ⟨j + 1, true, by omega, rfl, by go_num, (by have h := HI5.out; show _ ↔ _; simpa using h), by first | exact HB3 | exact HB3.out.drew⟩
                  case measure => simp [intOf]; omega
            · obtain rfl : j = ep.length := by omega
              have hbt : b = true := HI.out.2 (by
                rcases HSm.out with h | ⟨i, hi, h⟩
                · exact .inl h
                · exact .inr ⟨ep[i], by rw [List.take_of_length_le (Nat.le_refl _)]; exact List.getElem_mem hi, h⟩)
              subst hbt
              clear HI HSm
              go_wp2_with fail
              go_roundw
              case rel => exact ⟨k + 1, by omega, by go_num, HB3⟩
              case measure => simp [intOf]; omega
      · obtain rfl : k = es.length := by omega
        have HE := chainB BE.out HB.out
        go_wp2_with fail
        go_ret
        exact ⟨rfl, HE⟩

end Go.Proofs.Ythiokdiodgdamab
