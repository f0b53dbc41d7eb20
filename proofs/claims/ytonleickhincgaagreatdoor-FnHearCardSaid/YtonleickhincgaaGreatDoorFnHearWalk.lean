/-
  The law FnHear returns true at any two codes of at most 2^20 bytes each, where the two tables lie as the program's text lays them.
-/
import Derived.Test.YtonleickhincgaaGreatDoorRows
import Derived.Test.YtonleickhincgaaGreatDoorBytesDigMath
import Derived.Test.YtonleickhincgaaGreatDoorTabsOf
import Derived.Test.YtonleickhincgaaGreatDoorTreeMathSlABxKSlBOwnS
import Derived.Test.YtonleickhincgaaGreatDoorShwKOwnBPadIMacMathSgnBDigITurn2
import Derived.Test.YtonleickhincgaaGreatDoorPowerHalvesTreeTree2TreeHPathMathIncMathTakerTakePathConMathProofLawSignMath
import Derived.Test.YtonleickhincgaaGreatDoorMac2AppSSrcDrawsDrawKitSomeIsInSignSSignDWide2StepAppPath2DigestDrawTreeSpoil
import Derived.Test.YtonleickhincgaaGreatDoorSignGSignVImplRightIncISignIMDigAllSignIASignIBSignIDg
import Derived.Test.YtonleickhincgaaGreatDoorImplVerInc2SignRSignWFldRiseScanMath
import Derived.Test.YtonleickhincgaaGreatDoorGetValGetTxtNumMathFldRdNumFromTmbMathLgMath
import Derived.Test.YtonleickhincgaaGreatDoorLgAtKLgAnsLgRtAudMathHdMathClaMathHearMathFldGOneKFldBlkRwBlkRowOps
import Derived.Test.YtonleickhincgaaGreatDoorProof2ProofIExtLgHeadLawAudLawAudIAudSRdTextI
import Derived.Test.YtonleickhincgaaGreatDoorImplBrHdIHdSTakeProofConIClaI
import Derived.Test.YtonleickhincgaaGreatDoorHearI
import Derived.Test.YtonleickhincgaaGreatDoorHearS
import Derived.Test.YtonleickhincgaaGreatDoorLgLawTakesTakesLPutterPathI
import Derived.Test.YtonleickhincgaaGreatDoorTakesNDrawFldFldOMFldO
import Derived.Test.YtonleickhincgaaGreatDoorDrawLog
import Derived.Test.YtonleickhincgaaGreatDoorDrawLkDrawCkSpecRtDrawPg
import Derived.Test.YtonleickhincgaaGreatDoorDrawCa
import Derived.Test.YtonleickhincgaaGreatDoorDrawHeMacISignICImplSignSgnLg
import Derived.Test.YtonleickhincgaaGreatDoorDrawHh
import Derived.Handy
import Derived.WalkSpells
import Derived.OwnWalk
import Derived.Deep.RegionHeld3
import Derived.Deep.Cut
import Derived.Deep.CutRange
namespace Go.Proofs.YtonleickhincgaaGreatDoor
open Go.RowKit Go.Lib
set_option linter.unusedVariables false
set_option maxRecDepth 20000

def HrF (ak : ByteArray) (az : Int) (hd : ByteArray) (key : Int) (E P : List ByteArray) (K : ByteArray) (S : Int) (R : ByteArray) (C : Int) : Prop :=
  C = 0 → audB K S R = true ∧ az ≤ S ∧ verA ak hd key E P = true ∧ hhC K S R hd key E P [] = 0 ∧ K.size = 32 ∧ (0 ≤ S ∧ S ≤ 64) ∧ R.size ≤ 32
theorem hrF (ak : ByteArray) (az : Int) (ar hd : ByteArray) (key : Int) (E P SS : List ByteArray) : HrF ak az hd key E P (hhK ak az ar hd key E P SS) (hhS ak az ar hd key E P SS) (hhR ak az ar hd key E P SS) (hhC ak az ar hd key E P SS) := fun hc => by
  obtain ⟨h1, h2, h3, h4, e1, e2, e3⟩ := hr_heard hc
  rw [e1, e2, e3]
  obtain ⟨p1, p2, p3, p4, -⟩ := aud_parts h1
  exact ⟨h1, h2, h3, h4, p1, ⟨p2, p3⟩, p4⟩
theorem field_code (k : ByteArray) (S : Int) (R : ByteArray) (c : Int) (x : World) : (Instr.field 31 (.agg #[.string k, .int .i64 S, .string R, .int .i64 c]) 1).run Tryz.prog x = .ok (.int .i64 c) x := by first | rfl | kernel_rfl
set_option maxHeartbeats 8000000 in
theorem fnHear_any (a0 : Option Addr) (len0 cap0 : Nat) (a1 : Option Addr) (len1 cap1 : Nat) (w : World) (hl0 : len0 ≤ 1048576) (hl1 : len1 ≤ 1048576) (c0 : CodeAt w.heap.size a0 len0 w) (c1 : CodeAt w.heap.size a1 len1 w) (hT : Tabs w) :
    Calls Tryz.prog 3 #[.slice a0 len0 cap0, .slice a1 len1 cap1] w fun e w' => e = .returned (.bool true) ∧ Below w.heap.size w w' := by
  have C0 : Hid (CodeAt w.heap.size a0 len0 w) := c0
  have C1 : Hid (CodeAt w.heap.size a1 len1 w) := c1
  have HT : Hid (Tabs w) := hT
  clear c0 c1 hT
  have d1 : decide (1048576 < (len0 : Int)) = false := by simp; omega
  have d2 : decide (1048576 < (len1 : Int)) = false := by simp; omega
  go_enter Tryz.func3, Tryz.ntmps3
  go_wp2_with fail
  refine (drawHearHead_any w.heap.size a0 len0 cap0 _ hl0 (Nat.le_refl _) C0.out).mono ?_
  rintro e w1 ⟨⟨ak, az, ar, hd, key, e1, c1, E, e2, c2, P, pq, pc, SS, rfl, ⟨t1, t2, t3⟩, ⟨n1, n2, n3⟩, ⟨m1, m2, m3⟩, ⟨hk, ⟨s0, s1⟩, hr⟩, hh, k0, k1⟩, b1⟩
  clear d1 d2 C0
  obtain ⟨W2, hW2⟩ : ∃ W2, W2 = (w1.alloc (.cells #[.string ak, .int .i64 az, .string ar] 24)).alloc (.cells #[.int .i64 key, .slice e1 E.length c1, .slice e2 P.length c2] 27) := ⟨_, rfl⟩
  have HW2 : Hid (W2 = (w1.alloc (.cells #[.string ak, .int .i64 az, .string ar] 24)).alloc (.cells #[.int .i64 key, .slice e1 E.length c1, .slice e2 P.length c2] 27)) := hW2
  obtain ⟨G1, hG1⟩ : ∃ G1, G1 = w1.heap.size := ⟨_, rfl⟩
  have HG1 : Hid (G1 = w1.heap.size) := hG1
  obtain ⟨G2, hG2⟩ : ∃ G2, G2 = w1.heap.size + 1 := ⟨_, rfl⟩
  have HG2 : Hid (G2 = w1.heap.size + 1) := hG2
  have ba : Below w1.heap.size w1 W2 := by rw [hW2]; exact alB ((Below.refl _ _).alloc (Nat.le_refl _) _) _
  have B2 : Hid (Below w.heap.size w W2) := chainB b1 ba
  have K1 : Hid (Bxs W2 G1 24 #[.string ak, .int .i64 az, .string ar]) := by rw [hW2, hG1]; exact (Bxs.new _ _ _).alloc _
  have K2 : Hid (Bxs W2 G2 27 #[.int .i64 key, .slice e1 E.length c1, .slice e2 P.length c2]) := by
    rw [hW2, hG2]
    have h := Bxs.new (w1.alloc (.cells #[.string ak, .int .i64 az, .string ar] 24)) 27 #[.int .i64 key, .slice e1 E.length c1, .slice e2 P.length c2]
    rwa [szA] at h
  have T1 := t1.below ba
  have T2 := t2.below ba
  have T3 := t3.below ba
  have T0 := HT.out.to B2.out
  have HX : Hid (∀ x, Below W2.heap.size W2 x → x.cell? ⟨G1, 0, none⟩ = some (.string ak) ∧ x.cell? ⟨G1, 1, none⟩ = some (.int .i64 az) ∧ x.cell? ⟨G1, 2, none⟩ = some (.string ar) ∧ x.cell? ⟨G2, 0, none⟩ = some (.int .i64 key) ∧ x.cell? ⟨G2, 1, none⟩ = some (.slice e1 E.length c1) ∧ x.cell? ⟨G2, 2, none⟩ = some (.slice e2 P.length c2)) := fun x hb => ⟨(K1.out.below hb).cell 0, (K1.out.below hb).cell 1, (K1.out.below hb).cell 2, (K2.out.below hb).cell 0, (K2.out.below hb).cell 1, (K2.out.below hb).cell 2⟩
  have Q1 := fun x (hb : Below W2.heap.size W2 x) => implHear_any ak az ar hd key e1 c1 E e2 c2 P pq pc SS x (T0.to hb) (T1.below hb) (T2.below hb) (T3.below hb) (by omega) (by omega) (by omega) n1 n2 n3 (by omega) (by omega) (by omega) ⟨by omega, by omega⟩ ⟨by omega, by omega⟩
  have Q2 := fun x (hb : Below W2.heap.size W2 x) => specHear_any ak az ar hd key e1 c1 E e2 c2 P pq pc SS x (T1.below hb) (T2.below hb) (T3.below hb) (by omega) (by omega) (by omega) n1 n2 n3 (by omega) (by omega) (by omega) ⟨by omega, by omega⟩ ⟨by omega, by omega⟩
  have F := hrF ak az ar hd key E P SS
  unfold hhV at Q1 Q2
  generalize hhK ak az ar hd key E P SS = K at *
  generalize hhS ak az ar hd key E P SS = S at *
  generalize hhR ak az ar hd key E P SS = R at *
  generalize hhC ak az ar hd key E P SS = C at *
  have N1 : Hid (∀ x, Below W2.heap.size W2 x → Calls Tryz.prog 6 #[.agg #[.string ak, .int .i64 az, .string ar], .string hd, .agg #[.int .i64 key, .slice e1 E.length c1, .slice e2 P.length c2], .slice pq SS.length pc] x fun e x1 => e = .returned (.agg #[.string K, .int .i64 S, .string R, .int .i64 C]) ∧ Below x.heap.size x x1) := Q1
  have N2 : Hid (∀ x, Below W2.heap.size W2 x → Calls Tryz.prog 7 #[.agg #[.string ak, .int .i64 az, .string ar], .string hd, .agg #[.int .i64 key, .slice e1 E.length c1, .slice e2 P.length c2], .slice pq SS.length pc] x fun e x1 => e = .returned (.agg #[.string K, .int .i64 S, .string R, .int .i64 C]) ∧ Below x.heap.size x x1) := Q2
  have N3 : Hid (∀ x, Below W2.heap.size W2 x → C = 0 → Calls Tryz.prog 6 #[.agg #[.string K, .int .i64 S, .string R], .string hd, .agg #[.int .i64 key, .slice e1 E.length c1, .slice e2 P.length c2], .slice none 0 0] x fun e x1 => (∃ k3 s3 r3, e = .returned (.agg #[.string k3, .int .i64 s3, .string r3, .int .i64 0])) ∧ Below x.heap.size x x1) := fun x hb hc => by
    obtain ⟨-, -, -, f4, f5, f6, f7⟩ := F hc
    refine (implHear_any K S R hd key e1 c1 E e2 c2 P none 0 [] x (T0.to hb) (T1.below hb) (T2.below hb) (TxtAt.nil _ _) (by omega) (by omega) (by simp) n1 n2 (by simp) (by omega) (by omega) (by omega) ⟨by omega, by omega⟩ ⟨by omega, by omega⟩).mono ?_
    rintro e x1 ⟨rfl, z⟩
    unfold hhV
    rw [f4]
    exact ⟨⟨_, _, _, rfl⟩, z⟩
  have N4 : Hid (∀ x, Below W2.heap.size W2 x → C = 0 → Calls Tryz.prog 14 #[.string ak, .string hd, .agg #[.int .i64 key, .slice e1 E.length c1, .slice e2 P.length c2]] x fun e x1 => e = .returned (.bool true) ∧ Below x.heap.size x x1) := fun x hb hc => by
    have f3 := (F hc).2.2.1
    refine (specVerify_any ak hd key e1 c1 E e2 c2 P x (T1.below hb) (T2.below hb) (by omega) (by omega) n1 n2 (by omega) (by omega) (by omega) (by omega)).mono ?_
    rintro e x1 ⟨rfl, z⟩
    rw [f3]
    exact ⟨rfl, z⟩
  have N5 : Hid (∀ x, C = 0 → Calls Tryz.prog 13 #[.agg #[.string K, .int .i64 S, .string R]] x fun e x1 => e = .returned (.bool true) ∧ Below x.heap.size x x1) := fun x hc => by
    have f1 := (F hc).1
    refine (specAud_any K S R x).mono ?_
    rintro e x1 ⟨rfl, z⟩
    rw [f1]
    exact ⟨rfl, z⟩
  have N6 : Hid (C = 0 → az ≤ S) := fun hc => (F hc).2.1
  clear Q1 Q2 F hW2 hG1 hG2 ba b1 t1 t2 t3 T1 T2 T3 T0 K1 K2 HT n1 n2 n3 m1 m2 m3
  go_upto_region 4 with fail
  rw [← HW2.out, ← HG2.out, ← HG1.out]
  clear HW2 HG1 HG2
  have BR : Below W2.heap.size W2 W2.drew := (Below.refl _ _).drew
  go_cut [9, 10] from 28 to 37 (fun s9 s10 wx => ∃ Y9 Y10, s9 = .pointer (some ⟨Y9, 0, none⟩) ∧ s10 = .pointer (some ⟨Y10, 0, none⟩) ∧ Hid (Bxs wx Y9 31 #[.string K, .int .i64 S, .string R, .int .i64 C] ∧ Bxs wx Y10 31 #[.string K, .int .i64 S, .string R, .int .i64 C] ∧ Below W2.heap.size W2 wx))
  case first =>
    refine wp_region_held_drew (S := fun w' => w'.cell? ⟨G1, 0, none⟩ = some (.string ak) ∧ w'.cell? ⟨G1, 1, none⟩ = some (.int .i64 az) ∧ w'.cell? ⟨G1, 2, none⟩ = some (.string ar) ∧ w'.cell? ⟨G2, 0, none⟩ = some (.int .i64 key) ∧ w'.cell? ⟨G2, 1, none⟩ = some (.slice e1 E.length c1) ∧ w'.cell? ⟨G2, 2, none⟩ = some (.slice e2 P.length c2)) (by kernel_rfl) (HX.out _ BR) (fun hHeld => ?_)
    generalize W2.drew = x0 at *
    refine take_at 0 (v := ?_) rfl (by kernel_rfl) (by kernel_rfl) (by kernel_rfl) (fun _ _ _ h => h) hHeld (Or.inl ⟨by rfl, ?_⟩) ?_
    rotate_left
    · (intro w hSw; (try dsimp only at hSw); go_simp; try with_reducible rfl)
    simp only [Act.put, List.setIfInBounds_toArray, List.set_cons_zero, List.set_cons_succ]
    refine take_at 1 (v := ?_) rfl (by kernel_rfl) (by kernel_rfl) (by kernel_rfl) (fun _ _ _ h => h) hHeld (Or.inl ⟨by rfl, ?_⟩) ?_
    rotate_left
    · (intro w hSw; (try dsimp only at hSw); go_simp; try with_reducible rfl)
    simp only [Act.put, List.setIfInBounds_toArray, List.set_cons_zero, List.set_cons_succ]
    refine take_at 2 (v := ?_) rfl (by kernel_rfl) (by kernel_rfl) (by kernel_rfl) (fun _ _ _ h => h) hHeld (Or.inl ⟨by rfl, ?_⟩) ?_
    rotate_left
    · (intro w hSw; (try dsimp only at hSw); go_simp; try with_reducible rfl)
    simp only [Act.put, List.setIfInBounds_toArray, List.set_cons_zero, List.set_cons_succ]
    refine take_at 3 (v := ?_) rfl (by kernel_rfl) (by kernel_rfl) (by kernel_rfl) (fun _ _ _ h => h) hHeld (Or.inl ⟨by rfl, ?_⟩) ?_
    rotate_left
    · (intro w hSw; (try dsimp only at hSw); go_simp; try with_reducible rfl)
    simp only [Act.put, List.setIfInBounds_toArray, List.set_cons_zero, List.set_cons_succ]
    refine take_at 5 (v := ?_) rfl (by kernel_rfl) (by kernel_rfl) (by kernel_rfl) (fun _ _ _ h => h) hHeld (Or.inl ⟨by rfl, ?_⟩) ?_
    rotate_left
    · (intro w hSw; (try dsimp only at hSw); go_simp; try with_reducible rfl)
    simp only [Act.put, List.setIfInBounds_toArray, List.set_cons_zero, List.set_cons_succ]
    refine take_at 6 (v := ?_) rfl (by kernel_rfl) (by kernel_rfl) (by kernel_rfl) (fun _ _ _ h => h) hHeld (Or.inl ⟨by rfl, ?_⟩) ?_
    rotate_left
    · (intro w hSw; (try dsimp only at hSw); go_simp; try with_reducible rfl)
    simp only [Act.put, List.setIfInBounds_toArray, List.set_cons_zero, List.set_cons_succ]
    refine take_at 7 (v := ?_) rfl (by kernel_rfl) (by kernel_rfl) (by kernel_rfl) (fun _ _ _ h => h) hHeld (Or.inl ⟨by rfl, ?_⟩) ?_
    rotate_left
    · (intro w hSw; (try dsimp only at hSw); go_simp; try with_reducible rfl)
    simp only [Act.put, List.setIfInBounds_toArray, List.set_cons_zero, List.set_cons_succ]
    refine take_at 8 (v := ?_) rfl (by kernel_rfl) (by kernel_rfl) (by kernel_rfl) (fun _ _ _ h => h) hHeld (Or.inl ⟨by rfl, ?_⟩) ?_
    rotate_left
    · (intro w hSw; (try dsimp only at hSw); go_simp; try with_reducible rfl)
    simp only [Act.put, List.setIfInBounds_toArray, List.set_cons_zero, List.set_cons_succ]
    refine ready_at3 4 10 11 rfl rfl rfl (by kernel_rfl) (fun K hK => ?_) (fun K hK => ?_) (fun K hK => ?_)
    · go_simp
      (go_at_call 6; (with_reducible refine (N1.out _ BR).mono ?_); rintro e v_1 ⟨rfl, z_1⟩)
      have b_1 := chainB BR z_1
      refine hK.out _ _ (HX.out _ b_1) (fun hHeld => ?_)
      clear hK K
      try simp only [Act.put, List.setIfInBounds_toArray, List.set_cons_zero, List.set_cons_succ]
      refine ready_at3 9 10 11 rfl rfl rfl (by kernel_rfl) (fun K hK => ?_) (fun K hK => ?_) (fun K hK => ?_)
      · go_simp
        (go_at_call 7; (with_reducible refine (N2.out _ b_1).mono ?_); rintro e v_2 ⟨rfl, z_2⟩)
        have b_2 := chainB b_1 z_2
        refine hK.out _ _ (HX.out _ b_2) (fun hHeld => ?_)
        clear hK K
        try simp only [Act.put, List.setIfInBounds_toArray, List.set_cons_zero, List.set_cons_succ]
        refine ready_at2 10 11 rfl rfl (by kernel_rfl) (fun K hK => ?_) (fun K hK => ?_)
        · go_simp
          have kE10 : Bxs (v_2.alloc (.cells #[.string ⟨#[]⟩, .int .i64 0, .string ⟨#[]⟩, .int .i64 0] 31)) v_2.heap.size 31 #[.string ⟨#[]⟩, .int .i64 0, .string ⟨#[]⟩, .int .i64 0] := Bxs.new _ _ _
          have b_3 : Below W2.heap.size W2 (v_2.alloc (.cells #[.string ⟨#[]⟩, .int .i64 0, .string ⟨#[]⟩, .int .i64 0] 31)) := alB b_2 _
          have hE10 : W2.heap.size ≤ v_2.heap.size := b_2.size
          refine hK.out _ _ (HX.out _ b_3) (fun hHeld => ?_)
          clear hK K
          try simp only [Act.put, List.setIfInBounds_toArray, List.set_cons_zero, List.set_cons_succ]
          generalize v_2.alloc (.cells #[.string ⟨#[]⟩, .int .i64 0, .string ⟨#[]⟩, .int .i64 0] 31) = u_3 at *
          generalize v_2.heap.size = E10 at *
          refine ready_at 11 rfl (by kernel_rfl) (fun K hK => ?_)
          go_simp
          have kE11 : Bxs (u_3.alloc (.cells #[.string ⟨#[]⟩, .int .i64 0, .string ⟨#[]⟩, .int .i64 0] 31)) u_3.heap.size 31 #[.string ⟨#[]⟩, .int .i64 0, .string ⟨#[]⟩, .int .i64 0] := Bxs.new _ _ _
          have b_4 : Below W2.heap.size W2 (u_3.alloc (.cells #[.string ⟨#[]⟩, .int .i64 0, .string ⟨#[]⟩, .int .i64 0] 31)) := alB b_3 _
          have hE11 : W2.heap.size ≤ u_3.heap.size := b_3.size
          have hne : E10 ≠ u_3.heap.size := by have := kE10.lt; omega
          replace kE10 := kE10.alloc (.cells #[.string ⟨#[]⟩, .int .i64 0, .string ⟨#[]⟩, .int .i64 0] 31)
          refine hK.out _ _ (HX.out _ b_4) (fun hHeld => ?_)
          clear hK K
          try simp only [Act.put, List.setIfInBounds_toArray, List.set_cons_zero, List.set_cons_succ]
          generalize u_3.alloc (.cells #[.string ⟨#[]⟩, .int .i64 0, .string ⟨#[]⟩, .int .i64 0] 31) = u_4 at *
          generalize u_3.heap.size = E11 at *
          have hne' : E11 ≠ E10 := by omega
          have qc0 : u_4.cell? ⟨E10, 0, none⟩ = some (.string ⟨#[]⟩) := kE10.cell 0
          have qc1 : u_4.cell? ⟨E10, 1, none⟩ = some (.int .i64 0) := kE10.cell 1
          have qc2 : u_4.cell? ⟨E10, 2, none⟩ = some (.string ⟨#[]⟩) := kE10.cell 2
          have qc3 : u_4.cell? ⟨E10, 3, none⟩ = some (.int .i64 0) := kE10.cell 3
          have qf0 := kE10.fr 0
          have qf1 := kE10.fr 1
          have qf2 := kE10.fr 2
          have qf3 := kE10.fr 3
          have b2' : Below W2.heap.size W2 ((((u_4.setCell ⟨E10, 0, none⟩ (.string K)).setCell ⟨E10, 1, none⟩ (.int .i64 S)).setCell ⟨E10, 2, none⟩ (.string R)).setCell ⟨E10, 3, none⟩ (.int .i64 C)) := below_set4 b_4 hE10 _ _ _ _
          have kA : Bxs ((((u_4.setCell ⟨E10, 0, none⟩ (.string K)).setCell ⟨E10, 1, none⟩ (.int .i64 S)).setCell ⟨E10, 2, none⟩ (.string R)).setCell ⟨E10, 3, none⟩ (.int .i64 C)) E10 31 #[.string K, .int .i64 S, .string R, .int .i64 C] := (((kE10.set 0 _).set 1 _).set 2 _).set 3 _
          have kB : Bxs ((((u_4.setCell ⟨E10, 0, none⟩ (.string K)).setCell ⟨E10, 1, none⟩ (.int .i64 S)).setCell ⟨E10, 2, none⟩ (.string R)).setCell ⟨E10, 3, none⟩ (.int .i64 C)) E11 31 #[.string ⟨#[]⟩, .int .i64 0, .string ⟨#[]⟩, .int .i64 0] := (((kE11.other E10 0 (by omega) _).other E10 1 (by omega) _).other E10 2 (by omega) _).other E10 3 (by omega) _
          refine ready_at 12 rfl (by kernel_rfl) (fun K hK => ?_)
          go_simp
          refine hK.out _ _ (HX.out _ b2') (fun hHeld => ?_)
          clear hK K qc0 qf0 qc1 qf1 qc2 qf2 qc3 qf3
          try simp only [Act.put, List.setIfInBounds_toArray, List.set_cons_zero, List.set_cons_succ]
          generalize ((((u_4.setCell ⟨E10, 0, none⟩ (.string K)).setCell ⟨E10, 1, none⟩ (.int .i64 S)).setCell ⟨E10, 2, none⟩ (.string R)).setCell ⟨E10, 3, none⟩ (.int .i64 C)) = x9 at *
          have qc0 : x9.cell? ⟨E11, 0, none⟩ = some (.string ⟨#[]⟩) := kB.cell 0
          have qc1 : x9.cell? ⟨E11, 1, none⟩ = some (.int .i64 0) := kB.cell 1
          have qc2 : x9.cell? ⟨E11, 2, none⟩ = some (.string ⟨#[]⟩) := kB.cell 2
          have qc3 : x9.cell? ⟨E11, 3, none⟩ = some (.int .i64 0) := kB.cell 3
          have qf0 := kB.fr 0
          have qf1 := kB.fr 1
          have qf2 := kB.fr 2
          have qf3 := kB.fr 3
          have HP : Hid (Bxs ((((x9.setCell ⟨E11, 0, none⟩ (.string K)).setCell ⟨E11, 1, none⟩ (.int .i64 S)).setCell ⟨E11, 2, none⟩ (.string R)).setCell ⟨E11, 3, none⟩ (.int .i64 C)) E10 31 #[.string K, .int .i64 S, .string R, .int .i64 C] ∧ Bxs ((((x9.setCell ⟨E11, 0, none⟩ (.string K)).setCell ⟨E11, 1, none⟩ (.int .i64 S)).setCell ⟨E11, 2, none⟩ (.string R)).setCell ⟨E11, 3, none⟩ (.int .i64 C)) E11 31 #[.string K, .int .i64 S, .string R, .int .i64 C] ∧ Below W2.heap.size W2 ((((x9.setCell ⟨E11, 0, none⟩ (.string K)).setCell ⟨E11, 1, none⟩ (.int .i64 S)).setCell ⟨E11, 2, none⟩ (.string R)).setCell ⟨E11, 3, none⟩ (.int .i64 C))) := ⟨(((kA.other E11 0 (by omega) _).other E11 1 (by omega) _).other E11 2 (by omega) _).other E11 3 (by omega) _, (((kB.set 0 _).set 1 _).set 2 _).set 3 _, below_set4 b2' hE11 _ _ _ _⟩
          refine ready_at 13 rfl (by kernel_rfl) (fun K hK => ?_)
          go_simp
          refine hK.out _ _ (HX.out _ HP.out.2.2) (fun hHeld => ?_)
          clear hK K qc0 qf0 qc1 qf1 qc2 qf2 qc3 qf3
          try simp only [Act.put, List.setIfInBounds_toArray, List.set_cons_zero, List.set_cons_succ]
          refine wpAnyH_done (by kernel_rfl) ?_ _
          clear hHeld
          go_wp2_with fail
          go_meet
          exact ⟨E10, E11, rfl, rfl, HP⟩
        · go_simp
          have kE11 : Bxs (v_2.alloc (.cells #[.string ⟨#[]⟩, .int .i64 0, .string ⟨#[]⟩, .int .i64 0] 31)) v_2.heap.size 31 #[.string ⟨#[]⟩, .int .i64 0, .string ⟨#[]⟩, .int .i64 0] := Bxs.new _ _ _
          have b_5 : Below W2.heap.size W2 (v_2.alloc (.cells #[.string ⟨#[]⟩, .int .i64 0, .string ⟨#[]⟩, .int .i64 0] 31)) := alB b_2 _
          have hE11 : W2.heap.size ≤ v_2.heap.size := b_2.size
          refine hK.out _ _ (HX.out _ b_5) (fun hHeld => ?_)
          clear hK K
          try simp only [Act.put, List.setIfInBounds_toArray, List.set_cons_zero, List.set_cons_succ]
          generalize v_2.alloc (.cells #[.string ⟨#[]⟩, .int .i64 0, .string ⟨#[]⟩, .int .i64 0] 31) = u_5 at *
          generalize v_2.heap.size = E11 at *
          refine ready_at 10 rfl (by kernel_rfl) (fun K hK => ?_)
          go_simp
          have kE10 : Bxs (u_5.alloc (.cells #[.string ⟨#[]⟩, .int .i64 0, .string ⟨#[]⟩, .int .i64 0] 31)) u_5.heap.size 31 #[.string ⟨#[]⟩, .int .i64 0, .string ⟨#[]⟩, .int .i64 0] := Bxs.new _ _ _
          have b_6 : Below W2.heap.size W2 (u_5.alloc (.cells #[.string ⟨#[]⟩, .int .i64 0, .string ⟨#[]⟩, .int .i64 0] 31)) := alB b_5 _
          have hE10 : W2.heap.size ≤ u_5.heap.size := b_5.size
          have hne : E11 ≠ u_5.heap.size := by have := kE11.lt; omega
          replace kE11 := kE11.alloc (.cells #[.string ⟨#[]⟩, .int .i64 0, .string ⟨#[]⟩, .int .i64 0] 31)
          refine hK.out _ _ (HX.out _ b_6) (fun hHeld => ?_)
          clear hK K
          try simp only [Act.put, List.setIfInBounds_toArray, List.set_cons_zero, List.set_cons_succ]
          generalize u_5.alloc (.cells #[.string ⟨#[]⟩, .int .i64 0, .string ⟨#[]⟩, .int .i64 0] 31) = u_6 at *
          generalize u_5.heap.size = E10 at *
          have hne' : E11 ≠ E10 := by omega
          have qc0 : u_6.cell? ⟨E10, 0, none⟩ = some (.string ⟨#[]⟩) := kE10.cell 0
          have qc1 : u_6.cell? ⟨E10, 1, none⟩ = some (.int .i64 0) := kE10.cell 1
          have qc2 : u_6.cell? ⟨E10, 2, none⟩ = some (.string ⟨#[]⟩) := kE10.cell 2
          have qc3 : u_6.cell? ⟨E10, 3, none⟩ = some (.int .i64 0) := kE10.cell 3
          have qf0 := kE10.fr 0
          have qf1 := kE10.fr 1
          have qf2 := kE10.fr 2
          have qf3 := kE10.fr 3
          have b2' : Below W2.heap.size W2 ((((u_6.setCell ⟨E10, 0, none⟩ (.string K)).setCell ⟨E10, 1, none⟩ (.int .i64 S)).setCell ⟨E10, 2, none⟩ (.string R)).setCell ⟨E10, 3, none⟩ (.int .i64 C)) := below_set4 b_6 hE10 _ _ _ _
          have kA : Bxs ((((u_6.setCell ⟨E10, 0, none⟩ (.string K)).setCell ⟨E10, 1, none⟩ (.int .i64 S)).setCell ⟨E10, 2, none⟩ (.string R)).setCell ⟨E10, 3, none⟩ (.int .i64 C)) E10 31 #[.string K, .int .i64 S, .string R, .int .i64 C] := (((kE10.set 0 _).set 1 _).set 2 _).set 3 _
          have kB : Bxs ((((u_6.setCell ⟨E10, 0, none⟩ (.string K)).setCell ⟨E10, 1, none⟩ (.int .i64 S)).setCell ⟨E10, 2, none⟩ (.string R)).setCell ⟨E10, 3, none⟩ (.int .i64 C)) E11 31 #[.string ⟨#[]⟩, .int .i64 0, .string ⟨#[]⟩, .int .i64 0] := (((kE11.other E10 0 (by omega) _).other E10 1 (by omega) _).other E10 2 (by omega) _).other E10 3 (by omega) _
          refine ready_at 12 rfl (by kernel_rfl) (fun K hK => ?_)
          go_simp
          refine hK.out _ _ (HX.out _ b2') (fun hHeld => ?_)
          clear hK K qc0 qf0 qc1 qf1 qc2 qf2 qc3 qf3
          try simp only [Act.put, List.setIfInBounds_toArray, List.set_cons_zero, List.set_cons_succ]
          generalize ((((u_6.setCell ⟨E10, 0, none⟩ (.string K)).setCell ⟨E10, 1, none⟩ (.int .i64 S)).setCell ⟨E10, 2, none⟩ (.string R)).setCell ⟨E10, 3, none⟩ (.int .i64 C)) = x9 at *
          have qc0 : x9.cell? ⟨E11, 0, none⟩ = some (.string ⟨#[]⟩) := kB.cell 0
          have qc1 : x9.cell? ⟨E11, 1, none⟩ = some (.int .i64 0) := kB.cell 1
          have qc2 : x9.cell? ⟨E11, 2, none⟩ = some (.string ⟨#[]⟩) := kB.cell 2
          have qc3 : x9.cell? ⟨E11, 3, none⟩ = some (.int .i64 0) := kB.cell 3
          have qf0 := kB.fr 0
          have qf1 := kB.fr 1
          have qf2 := kB.fr 2
          have qf3 := kB.fr 3
          have HP : Hid (Bxs ((((x9.setCell ⟨E11, 0, none⟩ (.string K)).setCell ⟨E11, 1, none⟩ (.int .i64 S)).setCell ⟨E11, 2, none⟩ (.string R)).setCell ⟨E11, 3, none⟩ (.int .i64 C)) E10 31 #[.string K, .int .i64 S, .string R, .int .i64 C] ∧ Bxs ((((x9.setCell ⟨E11, 0, none⟩ (.string K)).setCell ⟨E11, 1, none⟩ (.int .i64 S)).setCell ⟨E11, 2, none⟩ (.string R)).setCell ⟨E11, 3, none⟩ (.int .i64 C)) E11 31 #[.string K, .int .i64 S, .string R, .int .i64 C] ∧ Below W2.heap.size W2 ((((x9.setCell ⟨E11, 0, none⟩ (.string K)).setCell ⟨E11, 1, none⟩ (.int .i64 S)).setCell ⟨E11, 2, none⟩ (.string R)).setCell ⟨E11, 3, none⟩ (.int .i64 C))) := ⟨(((kA.other E11 0 (by omega) _).other E11 1 (by omega) _).other E11 2 (by omega) _).other E11 3 (by omega) _, (((kB.set 0 _).set 1 _).set 2 _).set 3 _, below_set4 b2' hE11 _ _ _ _⟩
          refine ready_at 13 rfl (by kernel_rfl) (fun K hK => ?_)
          go_simp
          refine hK.out _ _ (HX.out _ HP.out.2.2) (fun hHeld => ?_)
          clear hK K qc0 qf0 qc1 qf1 qc2 qf2 qc3 qf3
          try simp only [Act.put, List.setIfInBounds_toArray, List.set_cons_zero, List.set_cons_succ]
          refine wpAnyH_done (by kernel_rfl) ?_ _
          clear hHeld
          go_wp2_with fail
          go_meet
          exact ⟨E10, E11, rfl, rfl, HP⟩
      · go_simp
        have kE10 : Bxs (v_1.alloc (.cells #[.string ⟨#[]⟩, .int .i64 0, .string ⟨#[]⟩, .int .i64 0] 31)) v_1.heap.size 31 #[.string ⟨#[]⟩, .int .i64 0, .string ⟨#[]⟩, .int .i64 0] := Bxs.new _ _ _
        have b_7 : Below W2.heap.size W2 (v_1.alloc (.cells #[.string ⟨#[]⟩, .int .i64 0, .string ⟨#[]⟩, .int .i64 0] 31)) := alB b_1 _
        have hE10 : W2.heap.size ≤ v_1.heap.size := b_1.size
        refine hK.out _ _ (HX.out _ b_7) (fun hHeld => ?_)
        clear hK K
        try simp only [Act.put, List.setIfInBounds_toArray, List.set_cons_zero, List.set_cons_succ]
        generalize v_1.alloc (.cells #[.string ⟨#[]⟩, .int .i64 0, .string ⟨#[]⟩, .int .i64 0] 31) = u_7 at *
        generalize v_1.heap.size = E10 at *
        refine ready_at2 9 11 rfl rfl (by kernel_rfl) (fun K hK => ?_) (fun K hK => ?_)
        · go_simp
          (go_at_call 7; (with_reducible refine (N2.out _ b_7).mono ?_); rintro e v_8 ⟨rfl, z_8⟩)
          have b_8 := chainB b_7 z_8
          have kE10 := kE10.below z_8
          refine hK.out _ _ (HX.out _ b_8) (fun hHeld => ?_)
          clear hK K
          try simp only [Act.put, List.setIfInBounds_toArray, List.set_cons_zero, List.set_cons_succ]
          refine ready_at 11 rfl (by kernel_rfl) (fun K hK => ?_)
          go_simp
          have kE11 : Bxs (v_8.alloc (.cells #[.string ⟨#[]⟩, .int .i64 0, .string ⟨#[]⟩, .int .i64 0] 31)) v_8.heap.size 31 #[.string ⟨#[]⟩, .int .i64 0, .string ⟨#[]⟩, .int .i64 0] := Bxs.new _ _ _
          have b_9 : Below W2.heap.size W2 (v_8.alloc (.cells #[.string ⟨#[]⟩, .int .i64 0, .string ⟨#[]⟩, .int .i64 0] 31)) := alB b_8 _
          have hE11 : W2.heap.size ≤ v_8.heap.size := b_8.size
          have hne : E10 ≠ v_8.heap.size := by have := kE10.lt; omega
          replace kE10 := kE10.alloc (.cells #[.string ⟨#[]⟩, .int .i64 0, .string ⟨#[]⟩, .int .i64 0] 31)
          refine hK.out _ _ (HX.out _ b_9) (fun hHeld => ?_)
          clear hK K
          try simp only [Act.put, List.setIfInBounds_toArray, List.set_cons_zero, List.set_cons_succ]
          generalize v_8.alloc (.cells #[.string ⟨#[]⟩, .int .i64 0, .string ⟨#[]⟩, .int .i64 0] 31) = u_9 at *
          generalize v_8.heap.size = E11 at *
          have hne' : E11 ≠ E10 := by omega
          have qc0 : u_9.cell? ⟨E10, 0, none⟩ = some (.string ⟨#[]⟩) := kE10.cell 0
          have qc1 : u_9.cell? ⟨E10, 1, none⟩ = some (.int .i64 0) := kE10.cell 1
          have qc2 : u_9.cell? ⟨E10, 2, none⟩ = some (.string ⟨#[]⟩) := kE10.cell 2
          have qc3 : u_9.cell? ⟨E10, 3, none⟩ = some (.int .i64 0) := kE10.cell 3
          have qf0 := kE10.fr 0
          have qf1 := kE10.fr 1
          have qf2 := kE10.fr 2
          have qf3 := kE10.fr 3
          have b2' : Below W2.heap.size W2 ((((u_9.setCell ⟨E10, 0, none⟩ (.string K)).setCell ⟨E10, 1, none⟩ (.int .i64 S)).setCell ⟨E10, 2, none⟩ (.string R)).setCell ⟨E10, 3, none⟩ (.int .i64 C)) := below_set4 b_9 hE10 _ _ _ _
          have kA : Bxs ((((u_9.setCell ⟨E10, 0, none⟩ (.string K)).setCell ⟨E10, 1, none⟩ (.int .i64 S)).setCell ⟨E10, 2, none⟩ (.string R)).setCell ⟨E10, 3, none⟩ (.int .i64 C)) E10 31 #[.string K, .int .i64 S, .string R, .int .i64 C] := (((kE10.set 0 _).set 1 _).set 2 _).set 3 _
          have kB : Bxs ((((u_9.setCell ⟨E10, 0, none⟩ (.string K)).setCell ⟨E10, 1, none⟩ (.int .i64 S)).setCell ⟨E10, 2, none⟩ (.string R)).setCell ⟨E10, 3, none⟩ (.int .i64 C)) E11 31 #[.string ⟨#[]⟩, .int .i64 0, .string ⟨#[]⟩, .int .i64 0] := (((kE11.other E10 0 (by omega) _).other E10 1 (by omega) _).other E10 2 (by omega) _).other E10 3 (by omega) _
          refine ready_at 12 rfl (by kernel_rfl) (fun K hK => ?_)
          go_simp
          refine hK.out _ _ (HX.out _ b2') (fun hHeld => ?_)
          clear hK K qc0 qf0 qc1 qf1 qc2 qf2 qc3 qf3
          try simp only [Act.put, List.setIfInBounds_toArray, List.set_cons_zero, List.set_cons_succ]
          generalize ((((u_9.setCell ⟨E10, 0, none⟩ (.string K)).setCell ⟨E10, 1, none⟩ (.int .i64 S)).setCell ⟨E10, 2, none⟩ (.string R)).setCell ⟨E10, 3, none⟩ (.int .i64 C)) = x9 at *
          have qc0 : x9.cell? ⟨E11, 0, none⟩ = some (.string ⟨#[]⟩) := kB.cell 0
          have qc1 : x9.cell? ⟨E11, 1, none⟩ = some (.int .i64 0) := kB.cell 1
          have qc2 : x9.cell? ⟨E11, 2, none⟩ = some (.string ⟨#[]⟩) := kB.cell 2
          have qc3 : x9.cell? ⟨E11, 3, none⟩ = some (.int .i64 0) := kB.cell 3
          have qf0 := kB.fr 0
          have qf1 := kB.fr 1
          have qf2 := kB.fr 2
          have qf3 := kB.fr 3
          have HP : Hid (Bxs ((((x9.setCell ⟨E11, 0, none⟩ (.string K)).setCell ⟨E11, 1, none⟩ (.int .i64 S)).setCell ⟨E11, 2, none⟩ (.string R)).setCell ⟨E11, 3, none⟩ (.int .i64 C)) E10 31 #[.string K, .int .i64 S, .string R, .int .i64 C] ∧ Bxs ((((x9.setCell ⟨E11, 0, none⟩ (.string K)).setCell ⟨E11, 1, none⟩ (.int .i64 S)).setCell ⟨E11, 2, none⟩ (.string R)).setCell ⟨E11, 3, none⟩ (.int .i64 C)) E11 31 #[.string K, .int .i64 S, .string R, .int .i64 C] ∧ Below W2.heap.size W2 ((((x9.setCell ⟨E11, 0, none⟩ (.string K)).setCell ⟨E11, 1, none⟩ (.int .i64 S)).setCell ⟨E11, 2, none⟩ (.string R)).setCell ⟨E11, 3, none⟩ (.int .i64 C))) := ⟨(((kA.other E11 0 (by omega) _).other E11 1 (by omega) _).other E11 2 (by omega) _).other E11 3 (by omega) _, (((kB.set 0 _).set 1 _).set 2 _).set 3 _, below_set4 b2' hE11 _ _ _ _⟩
          refine ready_at 13 rfl (by kernel_rfl) (fun K hK => ?_)
          go_simp
          refine hK.out _ _ (HX.out _ HP.out.2.2) (fun hHeld => ?_)
          clear hK K qc0 qf0 qc1 qf1 qc2 qf2 qc3 qf3
          try simp only [Act.put, List.setIfInBounds_toArray, List.set_cons_zero, List.set_cons_succ]
          refine wpAnyH_done (by kernel_rfl) ?_ _
          clear hHeld
          go_wp2_with fail
          go_meet
          exact ⟨E10, E11, rfl, rfl, HP⟩
        · go_simp
          have kE11 : Bxs (u_7.alloc (.cells #[.string ⟨#[]⟩, .int .i64 0, .string ⟨#[]⟩, .int .i64 0] 31)) u_7.heap.size 31 #[.string ⟨#[]⟩, .int .i64 0, .string ⟨#[]⟩, .int .i64 0] := Bxs.new _ _ _
          have b_10 : Below W2.heap.size W2 (u_7.alloc (.cells #[.string ⟨#[]⟩, .int .i64 0, .string ⟨#[]⟩, .int .i64 0] 31)) := alB b_7 _
          have hE11 : W2.heap.size ≤ u_7.heap.size := b_7.size
          have hne : E10 ≠ u_7.heap.size := by have := kE10.lt; omega
          replace kE10 := kE10.alloc (.cells #[.string ⟨#[]⟩, .int .i64 0, .string ⟨#[]⟩, .int .i64 0] 31)
          refine hK.out _ _ (HX.out _ b_10) (fun hHeld => ?_)
          clear hK K
          try simp only [Act.put, List.setIfInBounds_toArray, List.set_cons_zero, List.set_cons_succ]
          generalize u_7.alloc (.cells #[.string ⟨#[]⟩, .int .i64 0, .string ⟨#[]⟩, .int .i64 0] 31) = u_10 at *
          generalize u_7.heap.size = E11 at *
          refine ready_at 9 rfl (by kernel_rfl) (fun K hK => ?_)
          go_simp
          (go_at_call 7; (with_reducible refine (N2.out _ b_10).mono ?_); rintro e v_11 ⟨rfl, z_11⟩)
          have b_11 := chainB b_10 z_11
          have kE10 := kE10.below z_11
          have kE11 := kE11.below z_11
          refine hK.out _ _ (HX.out _ b_11) (fun hHeld => ?_)
          clear hK K
          try simp only [Act.put, List.setIfInBounds_toArray, List.set_cons_zero, List.set_cons_succ]
          have hne' : E11 ≠ E10 := by omega
          have qc0 : v_11.cell? ⟨E10, 0, none⟩ = some (.string ⟨#[]⟩) := kE10.cell 0
          have qc1 : v_11.cell? ⟨E10, 1, none⟩ = some (.int .i64 0) := kE10.cell 1
          have qc2 : v_11.cell? ⟨E10, 2, none⟩ = some (.string ⟨#[]⟩) := kE10.cell 2
          have qc3 : v_11.cell? ⟨E10, 3, none⟩ = some (.int .i64 0) := kE10.cell 3
          have qf0 := kE10.fr 0
          have qf1 := kE10.fr 1
          have qf2 := kE10.fr 2
          have qf3 := kE10.fr 3
          have b2' : Below W2.heap.size W2 ((((v_11.setCell ⟨E10, 0, none⟩ (.string K)).setCell ⟨E10, 1, none⟩ (.int .i64 S)).setCell ⟨E10, 2, none⟩ (.string R)).setCell ⟨E10, 3, none⟩ (.int .i64 C)) := below_set4 b_11 hE10 _ _ _ _
          have kA : Bxs ((((v_11.setCell ⟨E10, 0, none⟩ (.string K)).setCell ⟨E10, 1, none⟩ (.int .i64 S)).setCell ⟨E10, 2, none⟩ (.string R)).setCell ⟨E10, 3, none⟩ (.int .i64 C)) E10 31 #[.string K, .int .i64 S, .string R, .int .i64 C] := (((kE10.set 0 _).set 1 _).set 2 _).set 3 _
          have kB : Bxs ((((v_11.setCell ⟨E10, 0, none⟩ (.string K)).setCell ⟨E10, 1, none⟩ (.int .i64 S)).setCell ⟨E10, 2, none⟩ (.string R)).setCell ⟨E10, 3, none⟩ (.int .i64 C)) E11 31 #[.string ⟨#[]⟩, .int .i64 0, .string ⟨#[]⟩, .int .i64 0] := (((kE11.other E10 0 (by omega) _).other E10 1 (by omega) _).other E10 2 (by omega) _).other E10 3 (by omega) _
          refine ready_at 12 rfl (by kernel_rfl) (fun K hK => ?_)
          go_simp
          refine hK.out _ _ (HX.out _ b2') (fun hHeld => ?_)
          clear hK K qc0 qf0 qc1 qf1 qc2 qf2 qc3 qf3
          try simp only [Act.put, List.setIfInBounds_toArray, List.set_cons_zero, List.set_cons_succ]
          generalize ((((v_11.setCell ⟨E10, 0, none⟩ (.string K)).setCell ⟨E10, 1, none⟩ (.int .i64 S)).setCell ⟨E10, 2, none⟩ (.string R)).setCell ⟨E10, 3, none⟩ (.int .i64 C)) = x9 at *
          have qc0 : x9.cell? ⟨E11, 0, none⟩ = some (.string ⟨#[]⟩) := kB.cell 0
          have qc1 : x9.cell? ⟨E11, 1, none⟩ = some (.int .i64 0) := kB.cell 1
          have qc2 : x9.cell? ⟨E11, 2, none⟩ = some (.string ⟨#[]⟩) := kB.cell 2
          have qc3 : x9.cell? ⟨E11, 3, none⟩ = some (.int .i64 0) := kB.cell 3
          have qf0 := kB.fr 0
          have qf1 := kB.fr 1
          have qf2 := kB.fr 2
          have qf3 := kB.fr 3
          have HP : Hid (Bxs ((((x9.setCell ⟨E11, 0, none⟩ (.string K)).setCell ⟨E11, 1, none⟩ (.int .i64 S)).setCell ⟨E11, 2, none⟩ (.string R)).setCell ⟨E11, 3, none⟩ (.int .i64 C)) E10 31 #[.string K, .int .i64 S, .string R, .int .i64 C] ∧ Bxs ((((x9.setCell ⟨E11, 0, none⟩ (.string K)).setCell ⟨E11, 1, none⟩ (.int .i64 S)).setCell ⟨E11, 2, none⟩ (.string R)).setCell ⟨E11, 3, none⟩ (.int .i64 C)) E11 31 #[.string K, .int .i64 S, .string R, .int .i64 C] ∧ Below W2.heap.size W2 ((((x9.setCell ⟨E11, 0, none⟩ (.string K)).setCell ⟨E11, 1, none⟩ (.int .i64 S)).setCell ⟨E11, 2, none⟩ (.string R)).setCell ⟨E11, 3, none⟩ (.int .i64 C))) := ⟨(((kA.other E11 0 (by omega) _).other E11 1 (by omega) _).other E11 2 (by omega) _).other E11 3 (by omega) _, (((kB.set 0 _).set 1 _).set 2 _).set 3 _, below_set4 b2' hE11 _ _ _ _⟩
          refine ready_at 13 rfl (by kernel_rfl) (fun K hK => ?_)
          go_simp
          refine hK.out _ _ (HX.out _ HP.out.2.2) (fun hHeld => ?_)
          clear hK K qc0 qf0 qc1 qf1 qc2 qf2 qc3 qf3
          try simp only [Act.put, List.setIfInBounds_toArray, List.set_cons_zero, List.set_cons_succ]
          refine wpAnyH_done (by kernel_rfl) ?_ _
          clear hHeld
          go_wp2_with fail
          go_meet
          exact ⟨E10, E11, rfl, rfl, HP⟩
      · go_simp
        have kE11 : Bxs (v_1.alloc (.cells #[.string ⟨#[]⟩, .int .i64 0, .string ⟨#[]⟩, .int .i64 0] 31)) v_1.heap.size 31 #[.string ⟨#[]⟩, .int .i64 0, .string ⟨#[]⟩, .int .i64 0] := Bxs.new _ _ _
        have b_12 : Below W2.heap.size W2 (v_1.alloc (.cells #[.string ⟨#[]⟩, .int .i64 0, .string ⟨#[]⟩, .int .i64 0] 31)) := alB b_1 _
        have hE11 : W2.heap.size ≤ v_1.heap.size := b_1.size
        refine hK.out _ _ (HX.out _ b_12) (fun hHeld => ?_)
        clear hK K
        try simp only [Act.put, List.setIfInBounds_toArray, List.set_cons_zero, List.set_cons_succ]
        generalize v_1.alloc (.cells #[.string ⟨#[]⟩, .int .i64 0, .string ⟨#[]⟩, .int .i64 0] 31) = u_12 at *
        generalize v_1.heap.size = E11 at *
        refine ready_at2 9 10 rfl rfl (by kernel_rfl) (fun K hK => ?_) (fun K hK => ?_)
        · go_simp
          (go_at_call 7; (with_reducible refine (N2.out _ b_12).mono ?_); rintro e v_13 ⟨rfl, z_13⟩)
          have b_13 := chainB b_12 z_13
          have kE11 := kE11.below z_13
          refine hK.out _ _ (HX.out _ b_13) (fun hHeld => ?_)
          clear hK K
          try simp only [Act.put, List.setIfInBounds_toArray, List.set_cons_zero, List.set_cons_succ]
          refine ready_at 10 rfl (by kernel_rfl) (fun K hK => ?_)
          go_simp
          have kE10 : Bxs (v_13.alloc (.cells #[.string ⟨#[]⟩, .int .i64 0, .string ⟨#[]⟩, .int .i64 0] 31)) v_13.heap.size 31 #[.string ⟨#[]⟩, .int .i64 0, .string ⟨#[]⟩, .int .i64 0] := Bxs.new _ _ _
          have b_14 : Below W2.heap.size W2 (v_13.alloc (.cells #[.string ⟨#[]⟩, .int .i64 0, .string ⟨#[]⟩, .int .i64 0] 31)) := alB b_13 _
          have hE10 : W2.heap.size ≤ v_13.heap.size := b_13.size
          have hne : E11 ≠ v_13.heap.size := by have := kE11.lt; omega
          replace kE11 := kE11.alloc (.cells #[.string ⟨#[]⟩, .int .i64 0, .string ⟨#[]⟩, .int .i64 0] 31)
          refine hK.out _ _ (HX.out _ b_14) (fun hHeld => ?_)
          clear hK K
          try simp only [Act.put, List.setIfInBounds_toArray, List.set_cons_zero, List.set_cons_succ]
          generalize v_13.alloc (.cells #[.string ⟨#[]⟩, .int .i64 0, .string ⟨#[]⟩, .int .i64 0] 31) = u_14 at *
          generalize v_13.heap.size = E10 at *
          have hne' : E11 ≠ E10 := by omega
          have qc0 : u_14.cell? ⟨E10, 0, none⟩ = some (.string ⟨#[]⟩) := kE10.cell 0
          have qc1 : u_14.cell? ⟨E10, 1, none⟩ = some (.int .i64 0) := kE10.cell 1
          have qc2 : u_14.cell? ⟨E10, 2, none⟩ = some (.string ⟨#[]⟩) := kE10.cell 2
          have qc3 : u_14.cell? ⟨E10, 3, none⟩ = some (.int .i64 0) := kE10.cell 3
          have qf0 := kE10.fr 0
          have qf1 := kE10.fr 1
          have qf2 := kE10.fr 2
          have qf3 := kE10.fr 3
          have b2' : Below W2.heap.size W2 ((((u_14.setCell ⟨E10, 0, none⟩ (.string K)).setCell ⟨E10, 1, none⟩ (.int .i64 S)).setCell ⟨E10, 2, none⟩ (.string R)).setCell ⟨E10, 3, none⟩ (.int .i64 C)) := below_set4 b_14 hE10 _ _ _ _
          have kA : Bxs ((((u_14.setCell ⟨E10, 0, none⟩ (.string K)).setCell ⟨E10, 1, none⟩ (.int .i64 S)).setCell ⟨E10, 2, none⟩ (.string R)).setCell ⟨E10, 3, none⟩ (.int .i64 C)) E10 31 #[.string K, .int .i64 S, .string R, .int .i64 C] := (((kE10.set 0 _).set 1 _).set 2 _).set 3 _
          have kB : Bxs ((((u_14.setCell ⟨E10, 0, none⟩ (.string K)).setCell ⟨E10, 1, none⟩ (.int .i64 S)).setCell ⟨E10, 2, none⟩ (.string R)).setCell ⟨E10, 3, none⟩ (.int .i64 C)) E11 31 #[.string ⟨#[]⟩, .int .i64 0, .string ⟨#[]⟩, .int .i64 0] := (((kE11.other E10 0 (by omega) _).other E10 1 (by omega) _).other E10 2 (by omega) _).other E10 3 (by omega) _
          refine ready_at 12 rfl (by kernel_rfl) (fun K hK => ?_)
          go_simp
          refine hK.out _ _ (HX.out _ b2') (fun hHeld => ?_)
          clear hK K qc0 qf0 qc1 qf1 qc2 qf2 qc3 qf3
          try simp only [Act.put, List.setIfInBounds_toArray, List.set_cons_zero, List.set_cons_succ]
          generalize ((((u_14.setCell ⟨E10, 0, none⟩ (.string K)).setCell ⟨E10, 1, none⟩ (.int .i64 S)).setCell ⟨E10, 2, none⟩ (.string R)).setCell ⟨E10, 3, none⟩ (.int .i64 C)) = x9 at *
          have qc0 : x9.cell? ⟨E11, 0, none⟩ = some (.string ⟨#[]⟩) := kB.cell 0
          have qc1 : x9.cell? ⟨E11, 1, none⟩ = some (.int .i64 0) := kB.cell 1
          have qc2 : x9.cell? ⟨E11, 2, none⟩ = some (.string ⟨#[]⟩) := kB.cell 2
          have qc3 : x9.cell? ⟨E11, 3, none⟩ = some (.int .i64 0) := kB.cell 3
          have qf0 := kB.fr 0
          have qf1 := kB.fr 1
          have qf2 := kB.fr 2
          have qf3 := kB.fr 3
          have HP : Hid (Bxs ((((x9.setCell ⟨E11, 0, none⟩ (.string K)).setCell ⟨E11, 1, none⟩ (.int .i64 S)).setCell ⟨E11, 2, none⟩ (.string R)).setCell ⟨E11, 3, none⟩ (.int .i64 C)) E10 31 #[.string K, .int .i64 S, .string R, .int .i64 C] ∧ Bxs ((((x9.setCell ⟨E11, 0, none⟩ (.string K)).setCell ⟨E11, 1, none⟩ (.int .i64 S)).setCell ⟨E11, 2, none⟩ (.string R)).setCell ⟨E11, 3, none⟩ (.int .i64 C)) E11 31 #[.string K, .int .i64 S, .string R, .int .i64 C] ∧ Below W2.heap.size W2 ((((x9.setCell ⟨E11, 0, none⟩ (.string K)).setCell ⟨E11, 1, none⟩ (.int .i64 S)).setCell ⟨E11, 2, none⟩ (.string R)).setCell ⟨E11, 3, none⟩ (.int .i64 C))) := ⟨(((kA.other E11 0 (by omega) _).other E11 1 (by omega) _).other E11 2 (by omega) _).other E11 3 (by omega) _, (((kB.set 0 _).set 1 _).set 2 _).set 3 _, below_set4 b2' hE11 _ _ _ _⟩
          refine ready_at 13 rfl (by kernel_rfl) (fun K hK => ?_)
          go_simp
          refine hK.out _ _ (HX.out _ HP.out.2.2) (fun hHeld => ?_)
          clear hK K qc0 qf0 qc1 qf1 qc2 qf2 qc3 qf3
          try simp only [Act.put, List.setIfInBounds_toArray, List.set_cons_zero, List.set_cons_succ]
          refine wpAnyH_done (by kernel_rfl) ?_ _
          clear hHeld
          go_wp2_with fail
          go_meet
          exact ⟨E10, E11, rfl, rfl, HP⟩
        · go_simp
          have kE10 : Bxs (u_12.alloc (.cells #[.string ⟨#[]⟩, .int .i64 0, .string ⟨#[]⟩, .int .i64 0] 31)) u_12.heap.size 31 #[.string ⟨#[]⟩, .int .i64 0, .string ⟨#[]⟩, .int .i64 0] := Bxs.new _ _ _
          have b_15 : Below W2.heap.size W2 (u_12.alloc (.cells #[.string ⟨#[]⟩, .int .i64 0, .string ⟨#[]⟩, .int .i64 0] 31)) := alB b_12 _
          have hE10 : W2.heap.size ≤ u_12.heap.size := b_12.size
          have hne : E11 ≠ u_12.heap.size := by have := kE11.lt; omega
          replace kE11 := kE11.alloc (.cells #[.string ⟨#[]⟩, .int .i64 0, .string ⟨#[]⟩, .int .i64 0] 31)
          refine hK.out _ _ (HX.out _ b_15) (fun hHeld => ?_)
          clear hK K
          try simp only [Act.put, List.setIfInBounds_toArray, List.set_cons_zero, List.set_cons_succ]
          generalize u_12.alloc (.cells #[.string ⟨#[]⟩, .int .i64 0, .string ⟨#[]⟩, .int .i64 0] 31) = u_15 at *
          generalize u_12.heap.size = E10 at *
          refine ready_at 9 rfl (by kernel_rfl) (fun K hK => ?_)
          go_simp
          (go_at_call 7; (with_reducible refine (N2.out _ b_15).mono ?_); rintro e v_16 ⟨rfl, z_16⟩)
          have b_16 := chainB b_15 z_16
          have kE11 := kE11.below z_16
          have kE10 := kE10.below z_16
          refine hK.out _ _ (HX.out _ b_16) (fun hHeld => ?_)
          clear hK K
          try simp only [Act.put, List.setIfInBounds_toArray, List.set_cons_zero, List.set_cons_succ]
          have hne' : E11 ≠ E10 := by omega
          have qc0 : v_16.cell? ⟨E10, 0, none⟩ = some (.string ⟨#[]⟩) := kE10.cell 0
          have qc1 : v_16.cell? ⟨E10, 1, none⟩ = some (.int .i64 0) := kE10.cell 1
          have qc2 : v_16.cell? ⟨E10, 2, none⟩ = some (.string ⟨#[]⟩) := kE10.cell 2
          have qc3 : v_16.cell? ⟨E10, 3, none⟩ = some (.int .i64 0) := kE10.cell 3
          have qf0 := kE10.fr 0
          have qf1 := kE10.fr 1
          have qf2 := kE10.fr 2
          have qf3 := kE10.fr 3
          have b2' : Below W2.heap.size W2 ((((v_16.setCell ⟨E10, 0, none⟩ (.string K)).setCell ⟨E10, 1, none⟩ (.int .i64 S)).setCell ⟨E10, 2, none⟩ (.string R)).setCell ⟨E10, 3, none⟩ (.int .i64 C)) := below_set4 b_16 hE10 _ _ _ _
          have kA : Bxs ((((v_16.setCell ⟨E10, 0, none⟩ (.string K)).setCell ⟨E10, 1, none⟩ (.int .i64 S)).setCell ⟨E10, 2, none⟩ (.string R)).setCell ⟨E10, 3, none⟩ (.int .i64 C)) E10 31 #[.string K, .int .i64 S, .string R, .int .i64 C] := (((kE10.set 0 _).set 1 _).set 2 _).set 3 _
          have kB : Bxs ((((v_16.setCell ⟨E10, 0, none⟩ (.string K)).setCell ⟨E10, 1, none⟩ (.int .i64 S)).setCell ⟨E10, 2, none⟩ (.string R)).setCell ⟨E10, 3, none⟩ (.int .i64 C)) E11 31 #[.string ⟨#[]⟩, .int .i64 0, .string ⟨#[]⟩, .int .i64 0] := (((kE11.other E10 0 (by omega) _).other E10 1 (by omega) _).other E10 2 (by omega) _).other E10 3 (by omega) _
          refine ready_at 12 rfl (by kernel_rfl) (fun K hK => ?_)
          go_simp
          refine hK.out _ _ (HX.out _ b2') (fun hHeld => ?_)
          clear hK K qc0 qf0 qc1 qf1 qc2 qf2 qc3 qf3
          try simp only [Act.put, List.setIfInBounds_toArray, List.set_cons_zero, List.set_cons_succ]
          generalize ((((v_16.setCell ⟨E10, 0, none⟩ (.string K)).setCell ⟨E10, 1, none⟩ (.int .i64 S)).setCell ⟨E10, 2, none⟩ (.string R)).setCell ⟨E10, 3, none⟩ (.int .i64 C)) = x9 at *
          have qc0 : x9.cell? ⟨E11, 0, none⟩ = some (.string ⟨#[]⟩) := kB.cell 0
          have qc1 : x9.cell? ⟨E11, 1, none⟩ = some (.int .i64 0) := kB.cell 1
          have qc2 : x9.cell? ⟨E11, 2, none⟩ = some (.string ⟨#[]⟩) := kB.cell 2
          have qc3 : x9.cell? ⟨E11, 3, none⟩ = some (.int .i64 0) := kB.cell 3
          have qf0 := kB.fr 0
          have qf1 := kB.fr 1
          have qf2 := kB.fr 2
          have qf3 := kB.fr 3
          have HP : Hid (Bxs ((((x9.setCell ⟨E11, 0, none⟩ (.string K)).setCell ⟨E11, 1, none⟩ (.int .i64 S)).setCell ⟨E11, 2, none⟩ (.string R)).setCell ⟨E11, 3, none⟩ (.int .i64 C)) E10 31 #[.string K, .int .i64 S, .string R, .int .i64 C] ∧ Bxs ((((x9.setCell ⟨E11, 0, none⟩ (.string K)).setCell ⟨E11, 1, none⟩ (.int .i64 S)).setCell ⟨E11, 2, none⟩ (.string R)).setCell ⟨E11, 3, none⟩ (.int .i64 C)) E11 31 #[.string K, .int .i64 S, .string R, .int .i64 C] ∧ Below W2.heap.size W2 ((((x9.setCell ⟨E11, 0, none⟩ (.string K)).setCell ⟨E11, 1, none⟩ (.int .i64 S)).setCell ⟨E11, 2, none⟩ (.string R)).setCell ⟨E11, 3, none⟩ (.int .i64 C))) := ⟨(((kA.other E11 0 (by omega) _).other E11 1 (by omega) _).other E11 2 (by omega) _).other E11 3 (by omega) _, (((kB.set 0 _).set 1 _).set 2 _).set 3 _, below_set4 b2' hE11 _ _ _ _⟩
          refine ready_at 13 rfl (by kernel_rfl) (fun K hK => ?_)
          go_simp
          refine hK.out _ _ (HX.out _ HP.out.2.2) (fun hHeld => ?_)
          clear hK K qc0 qf0 qc1 qf1 qc2 qf2 qc3 qf3
          try simp only [Act.put, List.setIfInBounds_toArray, List.set_cons_zero, List.set_cons_succ]
          refine wpAnyH_done (by kernel_rfl) ?_ _
          clear hHeld
          go_wp2_with fail
          go_meet
          exact ⟨E10, E11, rfl, rfl, HP⟩
    · go_simp
      have kE10 : Bxs (x0.alloc (.cells #[.string ⟨#[]⟩, .int .i64 0, .string ⟨#[]⟩, .int .i64 0] 31)) x0.heap.size 31 #[.string ⟨#[]⟩, .int .i64 0, .string ⟨#[]⟩, .int .i64 0] := Bxs.new _ _ _
      have b_17 : Below W2.heap.size W2 (x0.alloc (.cells #[.string ⟨#[]⟩, .int .i64 0, .string ⟨#[]⟩, .int .i64 0] 31)) := alB BR _
      have hE10 : W2.heap.size ≤ x0.heap.size := BR.size
      refine hK.out _ _ (HX.out _ b_17) (fun hHeld => ?_)
      clear hK K
      try simp only [Act.put, List.setIfInBounds_toArray, List.set_cons_zero, List.set_cons_succ]
      generalize x0.alloc (.cells #[.string ⟨#[]⟩, .int .i64 0, .string ⟨#[]⟩, .int .i64 0] 31) = u_17 at *
      generalize x0.heap.size = E10 at *
      refine ready_at2 4 11 rfl rfl (by kernel_rfl) (fun K hK => ?_) (fun K hK => ?_)
      · go_simp
        (go_at_call 6; (with_reducible refine (N1.out _ b_17).mono ?_); rintro e v_18 ⟨rfl, z_18⟩)
        have b_18 := chainB b_17 z_18
        have kE10 := kE10.below z_18
        refine hK.out _ _ (HX.out _ b_18) (fun hHeld => ?_)
        clear hK K
        try simp only [Act.put, List.setIfInBounds_toArray, List.set_cons_zero, List.set_cons_succ]
        refine ready_at2 9 11 rfl rfl (by kernel_rfl) (fun K hK => ?_) (fun K hK => ?_)
        · go_simp
          (go_at_call 7; (with_reducible refine (N2.out _ b_18).mono ?_); rintro e v_19 ⟨rfl, z_19⟩)
          have b_19 := chainB b_18 z_19
          have kE10 := kE10.below z_19
          refine hK.out _ _ (HX.out _ b_19) (fun hHeld => ?_)
          clear hK K
          try simp only [Act.put, List.setIfInBounds_toArray, List.set_cons_zero, List.set_cons_succ]
          refine ready_at 11 rfl (by kernel_rfl) (fun K hK => ?_)
          go_simp
          have kE11 : Bxs (v_19.alloc (.cells #[.string ⟨#[]⟩, .int .i64 0, .string ⟨#[]⟩, .int .i64 0] 31)) v_19.heap.size 31 #[.string ⟨#[]⟩, .int .i64 0, .string ⟨#[]⟩, .int .i64 0] := Bxs.new _ _ _
          have b_20 : Below W2.heap.size W2 (v_19.alloc (.cells #[.string ⟨#[]⟩, .int .i64 0, .string ⟨#[]⟩, .int .i64 0] 31)) := alB b_19 _
          have hE11 : W2.heap.size ≤ v_19.heap.size := b_19.size
          have hne : E10 ≠ v_19.heap.size := by have := kE10.lt; omega
          replace kE10 := kE10.alloc (.cells #[.string ⟨#[]⟩, .int .i64 0, .string ⟨#[]⟩, .int .i64 0] 31)
          refine hK.out _ _ (HX.out _ b_20) (fun hHeld => ?_)
          clear hK K
          try simp only [Act.put, List.setIfInBounds_toArray, List.set_cons_zero, List.set_cons_succ]
          generalize v_19.alloc (.cells #[.string ⟨#[]⟩, .int .i64 0, .string ⟨#[]⟩, .int .i64 0] 31) = u_20 at *
          generalize v_19.heap.size = E11 at *
          have hne' : E11 ≠ E10 := by omega
          have qc0 : u_20.cell? ⟨E10, 0, none⟩ = some (.string ⟨#[]⟩) := kE10.cell 0
          have qc1 : u_20.cell? ⟨E10, 1, none⟩ = some (.int .i64 0) := kE10.cell 1
          have qc2 : u_20.cell? ⟨E10, 2, none⟩ = some (.string ⟨#[]⟩) := kE10.cell 2
          have qc3 : u_20.cell? ⟨E10, 3, none⟩ = some (.int .i64 0) := kE10.cell 3
          have qf0 := kE10.fr 0
          have qf1 := kE10.fr 1
          have qf2 := kE10.fr 2
          have qf3 := kE10.fr 3
          have b2' : Below W2.heap.size W2 ((((u_20.setCell ⟨E10, 0, none⟩ (.string K)).setCell ⟨E10, 1, none⟩ (.int .i64 S)).setCell ⟨E10, 2, none⟩ (.string R)).setCell ⟨E10, 3, none⟩ (.int .i64 C)) := below_set4 b_20 hE10 _ _ _ _
          have kA : Bxs ((((u_20.setCell ⟨E10, 0, none⟩ (.string K)).setCell ⟨E10, 1, none⟩ (.int .i64 S)).setCell ⟨E10, 2, none⟩ (.string R)).setCell ⟨E10, 3, none⟩ (.int .i64 C)) E10 31 #[.string K, .int .i64 S, .string R, .int .i64 C] := (((kE10.set 0 _).set 1 _).set 2 _).set 3 _
          have kB : Bxs ((((u_20.setCell ⟨E10, 0, none⟩ (.string K)).setCell ⟨E10, 1, none⟩ (.int .i64 S)).setCell ⟨E10, 2, none⟩ (.string R)).setCell ⟨E10, 3, none⟩ (.int .i64 C)) E11 31 #[.string ⟨#[]⟩, .int .i64 0, .string ⟨#[]⟩, .int .i64 0] := (((kE11.other E10 0 (by omega) _).other E10 1 (by omega) _).other E10 2 (by omega) _).other E10 3 (by omega) _
          refine ready_at 12 rfl (by kernel_rfl) (fun K hK => ?_)
          go_simp
          refine hK.out _ _ (HX.out _ b2') (fun hHeld => ?_)
          clear hK K qc0 qf0 qc1 qf1 qc2 qf2 qc3 qf3
          try simp only [Act.put, List.setIfInBounds_toArray, List.set_cons_zero, List.set_cons_succ]
          generalize ((((u_20.setCell ⟨E10, 0, none⟩ (.string K)).setCell ⟨E10, 1, none⟩ (.int .i64 S)).setCell ⟨E10, 2, none⟩ (.string R)).setCell ⟨E10, 3, none⟩ (.int .i64 C)) = x9 at *
          have qc0 : x9.cell? ⟨E11, 0, none⟩ = some (.string ⟨#[]⟩) := kB.cell 0
          have qc1 : x9.cell? ⟨E11, 1, none⟩ = some (.int .i64 0) := kB.cell 1
          have qc2 : x9.cell? ⟨E11, 2, none⟩ = some (.string ⟨#[]⟩) := kB.cell 2
          have qc3 : x9.cell? ⟨E11, 3, none⟩ = some (.int .i64 0) := kB.cell 3
          have qf0 := kB.fr 0
          have qf1 := kB.fr 1
          have qf2 := kB.fr 2
          have qf3 := kB.fr 3
          have HP : Hid (Bxs ((((x9.setCell ⟨E11, 0, none⟩ (.string K)).setCell ⟨E11, 1, none⟩ (.int .i64 S)).setCell ⟨E11, 2, none⟩ (.string R)).setCell ⟨E11, 3, none⟩ (.int .i64 C)) E10 31 #[.string K, .int .i64 S, .string R, .int .i64 C] ∧ Bxs ((((x9.setCell ⟨E11, 0, none⟩ (.string K)).setCell ⟨E11, 1, none⟩ (.int .i64 S)).setCell ⟨E11, 2, none⟩ (.string R)).setCell ⟨E11, 3, none⟩ (.int .i64 C)) E11 31 #[.string K, .int .i64 S, .string R, .int .i64 C] ∧ Below W2.heap.size W2 ((((x9.setCell ⟨E11, 0, none⟩ (.string K)).setCell ⟨E11, 1, none⟩ (.int .i64 S)).setCell ⟨E11, 2, none⟩ (.string R)).setCell ⟨E11, 3, none⟩ (.int .i64 C))) := ⟨(((kA.other E11 0 (by omega) _).other E11 1 (by omega) _).other E11 2 (by omega) _).other E11 3 (by omega) _, (((kB.set 0 _).set 1 _).set 2 _).set 3 _, below_set4 b2' hE11 _ _ _ _⟩
          refine ready_at 13 rfl (by kernel_rfl) (fun K hK => ?_)
          go_simp
          refine hK.out _ _ (HX.out _ HP.out.2.2) (fun hHeld => ?_)
          clear hK K qc0 qf0 qc1 qf1 qc2 qf2 qc3 qf3
          try simp only [Act.put, List.setIfInBounds_toArray, List.set_cons_zero, List.set_cons_succ]
          refine wpAnyH_done (by kernel_rfl) ?_ _
          clear hHeld
          go_wp2_with fail
          go_meet
          exact ⟨E10, E11, rfl, rfl, HP⟩
        · go_simp
          have kE11 : Bxs (v_18.alloc (.cells #[.string ⟨#[]⟩, .int .i64 0, .string ⟨#[]⟩, .int .i64 0] 31)) v_18.heap.size 31 #[.string ⟨#[]⟩, .int .i64 0, .string ⟨#[]⟩, .int .i64 0] := Bxs.new _ _ _
          have b_21 : Below W2.heap.size W2 (v_18.alloc (.cells #[.string ⟨#[]⟩, .int .i64 0, .string ⟨#[]⟩, .int .i64 0] 31)) := alB b_18 _
          have hE11 : W2.heap.size ≤ v_18.heap.size := b_18.size
          have hne : E10 ≠ v_18.heap.size := by have := kE10.lt; omega
          replace kE10 := kE10.alloc (.cells #[.string ⟨#[]⟩, .int .i64 0, .string ⟨#[]⟩, .int .i64 0] 31)
          refine hK.out _ _ (HX.out _ b_21) (fun hHeld => ?_)
          clear hK K
          try simp only [Act.put, List.setIfInBounds_toArray, List.set_cons_zero, List.set_cons_succ]
          generalize v_18.alloc (.cells #[.string ⟨#[]⟩, .int .i64 0, .string ⟨#[]⟩, .int .i64 0] 31) = u_21 at *
          generalize v_18.heap.size = E11 at *
          refine ready_at 9 rfl (by kernel_rfl) (fun K hK => ?_)
          go_simp
          (go_at_call 7; (with_reducible refine (N2.out _ b_21).mono ?_); rintro e v_22 ⟨rfl, z_22⟩)
          have b_22 := chainB b_21 z_22
          have kE10 := kE10.below z_22
          have kE11 := kE11.below z_22
          refine hK.out _ _ (HX.out _ b_22) (fun hHeld => ?_)
          clear hK K
          try simp only [Act.put, List.setIfInBounds_toArray, List.set_cons_zero, List.set_cons_succ]
          have hne' : E11 ≠ E10 := by omega
          have qc0 : v_22.cell? ⟨E10, 0, none⟩ = some (.string ⟨#[]⟩) := kE10.cell 0
          have qc1 : v_22.cell? ⟨E10, 1, none⟩ = some (.int .i64 0) := kE10.cell 1
          have qc2 : v_22.cell? ⟨E10, 2, none⟩ = some (.string ⟨#[]⟩) := kE10.cell 2
          have qc3 : v_22.cell? ⟨E10, 3, none⟩ = some (.int .i64 0) := kE10.cell 3
          have qf0 := kE10.fr 0
          have qf1 := kE10.fr 1
          have qf2 := kE10.fr 2
          have qf3 := kE10.fr 3
          have b2' : Below W2.heap.size W2 ((((v_22.setCell ⟨E10, 0, none⟩ (.string K)).setCell ⟨E10, 1, none⟩ (.int .i64 S)).setCell ⟨E10, 2, none⟩ (.string R)).setCell ⟨E10, 3, none⟩ (.int .i64 C)) := below_set4 b_22 hE10 _ _ _ _
          have kA : Bxs ((((v_22.setCell ⟨E10, 0, none⟩ (.string K)).setCell ⟨E10, 1, none⟩ (.int .i64 S)).setCell ⟨E10, 2, none⟩ (.string R)).setCell ⟨E10, 3, none⟩ (.int .i64 C)) E10 31 #[.string K, .int .i64 S, .string R, .int .i64 C] := (((kE10.set 0 _).set 1 _).set 2 _).set 3 _
          have kB : Bxs ((((v_22.setCell ⟨E10, 0, none⟩ (.string K)).setCell ⟨E10, 1, none⟩ (.int .i64 S)).setCell ⟨E10, 2, none⟩ (.string R)).setCell ⟨E10, 3, none⟩ (.int .i64 C)) E11 31 #[.string ⟨#[]⟩, .int .i64 0, .string ⟨#[]⟩, .int .i64 0] := (((kE11.other E10 0 (by omega) _).other E10 1 (by omega) _).other E10 2 (by omega) _).other E10 3 (by omega) _
          refine ready_at 12 rfl (by kernel_rfl) (fun K hK => ?_)
          go_simp
          refine hK.out _ _ (HX.out _ b2') (fun hHeld => ?_)
          clear hK K qc0 qf0 qc1 qf1 qc2 qf2 qc3 qf3
          try simp only [Act.put, List.setIfInBounds_toArray, List.set_cons_zero, List.set_cons_succ]
          generalize ((((v_22.setCell ⟨E10, 0, none⟩ (.string K)).setCell ⟨E10, 1, none⟩ (.int .i64 S)).setCell ⟨E10, 2, none⟩ (.string R)).setCell ⟨E10, 3, none⟩ (.int .i64 C)) = x9 at *
          have qc0 : x9.cell? ⟨E11, 0, none⟩ = some (.string ⟨#[]⟩) := kB.cell 0
          have qc1 : x9.cell? ⟨E11, 1, none⟩ = some (.int .i64 0) := kB.cell 1
          have qc2 : x9.cell? ⟨E11, 2, none⟩ = some (.string ⟨#[]⟩) := kB.cell 2
          have qc3 : x9.cell? ⟨E11, 3, none⟩ = some (.int .i64 0) := kB.cell 3
          have qf0 := kB.fr 0
          have qf1 := kB.fr 1
          have qf2 := kB.fr 2
          have qf3 := kB.fr 3
          have HP : Hid (Bxs ((((x9.setCell ⟨E11, 0, none⟩ (.string K)).setCell ⟨E11, 1, none⟩ (.int .i64 S)).setCell ⟨E11, 2, none⟩ (.string R)).setCell ⟨E11, 3, none⟩ (.int .i64 C)) E10 31 #[.string K, .int .i64 S, .string R, .int .i64 C] ∧ Bxs ((((x9.setCell ⟨E11, 0, none⟩ (.string K)).setCell ⟨E11, 1, none⟩ (.int .i64 S)).setCell ⟨E11, 2, none⟩ (.string R)).setCell ⟨E11, 3, none⟩ (.int .i64 C)) E11 31 #[.string K, .int .i64 S, .string R, .int .i64 C] ∧ Below W2.heap.size W2 ((((x9.setCell ⟨E11, 0, none⟩ (.string K)).setCell ⟨E11, 1, none⟩ (.int .i64 S)).setCell ⟨E11, 2, none⟩ (.string R)).setCell ⟨E11, 3, none⟩ (.int .i64 C))) := ⟨(((kA.other E11 0 (by omega) _).other E11 1 (by omega) _).other E11 2 (by omega) _).other E11 3 (by omega) _, (((kB.set 0 _).set 1 _).set 2 _).set 3 _, below_set4 b2' hE11 _ _ _ _⟩
          refine ready_at 13 rfl (by kernel_rfl) (fun K hK => ?_)
          go_simp
          refine hK.out _ _ (HX.out _ HP.out.2.2) (fun hHeld => ?_)
          clear hK K qc0 qf0 qc1 qf1 qc2 qf2 qc3 qf3
          try simp only [Act.put, List.setIfInBounds_toArray, List.set_cons_zero, List.set_cons_succ]
          refine wpAnyH_done (by kernel_rfl) ?_ _
          clear hHeld
          go_wp2_with fail
          go_meet
          exact ⟨E10, E11, rfl, rfl, HP⟩
      · go_simp
        have kE11 : Bxs (u_17.alloc (.cells #[.string ⟨#[]⟩, .int .i64 0, .string ⟨#[]⟩, .int .i64 0] 31)) u_17.heap.size 31 #[.string ⟨#[]⟩, .int .i64 0, .string ⟨#[]⟩, .int .i64 0] := Bxs.new _ _ _
        have b_23 : Below W2.heap.size W2 (u_17.alloc (.cells #[.string ⟨#[]⟩, .int .i64 0, .string ⟨#[]⟩, .int .i64 0] 31)) := alB b_17 _
        have hE11 : W2.heap.size ≤ u_17.heap.size := b_17.size
        have hne : E10 ≠ u_17.heap.size := by have := kE10.lt; omega
        replace kE10 := kE10.alloc (.cells #[.string ⟨#[]⟩, .int .i64 0, .string ⟨#[]⟩, .int .i64 0] 31)
        refine hK.out _ _ (HX.out _ b_23) (fun hHeld => ?_)
        clear hK K
        try simp only [Act.put, List.setIfInBounds_toArray, List.set_cons_zero, List.set_cons_succ]
        generalize u_17.alloc (.cells #[.string ⟨#[]⟩, .int .i64 0, .string ⟨#[]⟩, .int .i64 0] 31) = u_23 at *
        generalize u_17.heap.size = E11 at *
        refine ready_at 4 rfl (by kernel_rfl) (fun K hK => ?_)
        go_simp
        (go_at_call 6; (with_reducible refine (N1.out _ b_23).mono ?_); rintro e v_24 ⟨rfl, z_24⟩)
        have b_24 := chainB b_23 z_24
        have kE10 := kE10.below z_24
        have kE11 := kE11.below z_24
        refine hK.out _ _ (HX.out _ b_24) (fun hHeld => ?_)
        clear hK K
        try simp only [Act.put, List.setIfInBounds_toArray, List.set_cons_zero, List.set_cons_succ]
        refine ready_at 9 rfl (by kernel_rfl) (fun K hK => ?_)
        go_simp
        (go_at_call 7; (with_reducible refine (N2.out _ b_24).mono ?_); rintro e v_25 ⟨rfl, z_25⟩)
        have b_25 := chainB b_24 z_25
        have kE10 := kE10.below z_25
        have kE11 := kE11.below z_25
        refine hK.out _ _ (HX.out _ b_25) (fun hHeld => ?_)
        clear hK K
        try simp only [Act.put, List.setIfInBounds_toArray, List.set_cons_zero, List.set_cons_succ]
        have hne' : E11 ≠ E10 := by omega
        have qc0 : v_25.cell? ⟨E10, 0, none⟩ = some (.string ⟨#[]⟩) := kE10.cell 0
        have qc1 : v_25.cell? ⟨E10, 1, none⟩ = some (.int .i64 0) := kE10.cell 1
        have qc2 : v_25.cell? ⟨E10, 2, none⟩ = some (.string ⟨#[]⟩) := kE10.cell 2
        have qc3 : v_25.cell? ⟨E10, 3, none⟩ = some (.int .i64 0) := kE10.cell 3
        have qf0 := kE10.fr 0
        have qf1 := kE10.fr 1
        have qf2 := kE10.fr 2
        have qf3 := kE10.fr 3
        have b2' : Below W2.heap.size W2 ((((v_25.setCell ⟨E10, 0, none⟩ (.string K)).setCell ⟨E10, 1, none⟩ (.int .i64 S)).setCell ⟨E10, 2, none⟩ (.string R)).setCell ⟨E10, 3, none⟩ (.int .i64 C)) := below_set4 b_25 hE10 _ _ _ _
        have kA : Bxs ((((v_25.setCell ⟨E10, 0, none⟩ (.string K)).setCell ⟨E10, 1, none⟩ (.int .i64 S)).setCell ⟨E10, 2, none⟩ (.string R)).setCell ⟨E10, 3, none⟩ (.int .i64 C)) E10 31 #[.string K, .int .i64 S, .string R, .int .i64 C] := (((kE10.set 0 _).set 1 _).set 2 _).set 3 _
        have kB : Bxs ((((v_25.setCell ⟨E10, 0, none⟩ (.string K)).setCell ⟨E10, 1, none⟩ (.int .i64 S)).setCell ⟨E10, 2, none⟩ (.string R)).setCell ⟨E10, 3, none⟩ (.int .i64 C)) E11 31 #[.string ⟨#[]⟩, .int .i64 0, .string ⟨#[]⟩, .int .i64 0] := (((kE11.other E10 0 (by omega) _).other E10 1 (by omega) _).other E10 2 (by omega) _).other E10 3 (by omega) _
        refine ready_at 12 rfl (by kernel_rfl) (fun K hK => ?_)
        go_simp
        refine hK.out _ _ (HX.out _ b2') (fun hHeld => ?_)
        clear hK K qc0 qf0 qc1 qf1 qc2 qf2 qc3 qf3
        try simp only [Act.put, List.setIfInBounds_toArray, List.set_cons_zero, List.set_cons_succ]
        generalize ((((v_25.setCell ⟨E10, 0, none⟩ (.string K)).setCell ⟨E10, 1, none⟩ (.int .i64 S)).setCell ⟨E10, 2, none⟩ (.string R)).setCell ⟨E10, 3, none⟩ (.int .i64 C)) = x9 at *
        have qc0 : x9.cell? ⟨E11, 0, none⟩ = some (.string ⟨#[]⟩) := kB.cell 0
        have qc1 : x9.cell? ⟨E11, 1, none⟩ = some (.int .i64 0) := kB.cell 1
        have qc2 : x9.cell? ⟨E11, 2, none⟩ = some (.string ⟨#[]⟩) := kB.cell 2
        have qc3 : x9.cell? ⟨E11, 3, none⟩ = some (.int .i64 0) := kB.cell 3
        have qf0 := kB.fr 0
        have qf1 := kB.fr 1
        have qf2 := kB.fr 2
        have qf3 := kB.fr 3
        have HP : Hid (Bxs ((((x9.setCell ⟨E11, 0, none⟩ (.string K)).setCell ⟨E11, 1, none⟩ (.int .i64 S)).setCell ⟨E11, 2, none⟩ (.string R)).setCell ⟨E11, 3, none⟩ (.int .i64 C)) E10 31 #[.string K, .int .i64 S, .string R, .int .i64 C] ∧ Bxs ((((x9.setCell ⟨E11, 0, none⟩ (.string K)).setCell ⟨E11, 1, none⟩ (.int .i64 S)).setCell ⟨E11, 2, none⟩ (.string R)).setCell ⟨E11, 3, none⟩ (.int .i64 C)) E11 31 #[.string K, .int .i64 S, .string R, .int .i64 C] ∧ Below W2.heap.size W2 ((((x9.setCell ⟨E11, 0, none⟩ (.string K)).setCell ⟨E11, 1, none⟩ (.int .i64 S)).setCell ⟨E11, 2, none⟩ (.string R)).setCell ⟨E11, 3, none⟩ (.int .i64 C))) := ⟨(((kA.other E11 0 (by omega) _).other E11 1 (by omega) _).other E11 2 (by omega) _).other E11 3 (by omega) _, (((kB.set 0 _).set 1 _).set 2 _).set 3 _, below_set4 b2' hE11 _ _ _ _⟩
        refine ready_at 13 rfl (by kernel_rfl) (fun K hK => ?_)
        go_simp
        refine hK.out _ _ (HX.out _ HP.out.2.2) (fun hHeld => ?_)
        clear hK K qc0 qf0 qc1 qf1 qc2 qf2 qc3 qf3
        try simp only [Act.put, List.setIfInBounds_toArray, List.set_cons_zero, List.set_cons_succ]
        refine wpAnyH_done (by kernel_rfl) ?_ _
        clear hHeld
        go_wp2_with fail
        go_meet
        exact ⟨E10, E11, rfl, rfl, HP⟩
    · go_simp
      have kE11 : Bxs (x0.alloc (.cells #[.string ⟨#[]⟩, .int .i64 0, .string ⟨#[]⟩, .int .i64 0] 31)) x0.heap.size 31 #[.string ⟨#[]⟩, .int .i64 0, .string ⟨#[]⟩, .int .i64 0] := Bxs.new _ _ _
      have b_26 : Below W2.heap.size W2 (x0.alloc (.cells #[.string ⟨#[]⟩, .int .i64 0, .string ⟨#[]⟩, .int .i64 0] 31)) := alB BR _
      have hE11 : W2.heap.size ≤ x0.heap.size := BR.size
      refine hK.out _ _ (HX.out _ b_26) (fun hHeld => ?_)
      clear hK K
      try simp only [Act.put, List.setIfInBounds_toArray, List.set_cons_zero, List.set_cons_succ]
      generalize x0.alloc (.cells #[.string ⟨#[]⟩, .int .i64 0, .string ⟨#[]⟩, .int .i64 0] 31) = u_26 at *
      generalize x0.heap.size = E11 at *
      refine ready_at2 4 10 rfl rfl (by kernel_rfl) (fun K hK => ?_) (fun K hK => ?_)
      · go_simp
        (go_at_call 6; (with_reducible refine (N1.out _ b_26).mono ?_); rintro e v_27 ⟨rfl, z_27⟩)
        have b_27 := chainB b_26 z_27
        have kE11 := kE11.below z_27
        refine hK.out _ _ (HX.out _ b_27) (fun hHeld => ?_)
        clear hK K
        try simp only [Act.put, List.setIfInBounds_toArray, List.set_cons_zero, List.set_cons_succ]
        refine ready_at2 9 10 rfl rfl (by kernel_rfl) (fun K hK => ?_) (fun K hK => ?_)
        · go_simp
          (go_at_call 7; (with_reducible refine (N2.out _ b_27).mono ?_); rintro e v_28 ⟨rfl, z_28⟩)
          have b_28 := chainB b_27 z_28
          have kE11 := kE11.below z_28
          refine hK.out _ _ (HX.out _ b_28) (fun hHeld => ?_)
          clear hK K
          try simp only [Act.put, List.setIfInBounds_toArray, List.set_cons_zero, List.set_cons_succ]
          refine ready_at 10 rfl (by kernel_rfl) (fun K hK => ?_)
          go_simp
          have kE10 : Bxs (v_28.alloc (.cells #[.string ⟨#[]⟩, .int .i64 0, .string ⟨#[]⟩, .int .i64 0] 31)) v_28.heap.size 31 #[.string ⟨#[]⟩, .int .i64 0, .string ⟨#[]⟩, .int .i64 0] := Bxs.new _ _ _
          have b_29 : Below W2.heap.size W2 (v_28.alloc (.cells #[.string ⟨#[]⟩, .int .i64 0, .string ⟨#[]⟩, .int .i64 0] 31)) := alB b_28 _
          have hE10 : W2.heap.size ≤ v_28.heap.size := b_28.size
          have hne : E11 ≠ v_28.heap.size := by have := kE11.lt; omega
          replace kE11 := kE11.alloc (.cells #[.string ⟨#[]⟩, .int .i64 0, .string ⟨#[]⟩, .int .i64 0] 31)
          refine hK.out _ _ (HX.out _ b_29) (fun hHeld => ?_)
          clear hK K
          try simp only [Act.put, List.setIfInBounds_toArray, List.set_cons_zero, List.set_cons_succ]
          generalize v_28.alloc (.cells #[.string ⟨#[]⟩, .int .i64 0, .string ⟨#[]⟩, .int .i64 0] 31) = u_29 at *
          generalize v_28.heap.size = E10 at *
          have hne' : E11 ≠ E10 := by omega
          have qc0 : u_29.cell? ⟨E10, 0, none⟩ = some (.string ⟨#[]⟩) := kE10.cell 0
          have qc1 : u_29.cell? ⟨E10, 1, none⟩ = some (.int .i64 0) := kE10.cell 1
          have qc2 : u_29.cell? ⟨E10, 2, none⟩ = some (.string ⟨#[]⟩) := kE10.cell 2
          have qc3 : u_29.cell? ⟨E10, 3, none⟩ = some (.int .i64 0) := kE10.cell 3
          have qf0 := kE10.fr 0
          have qf1 := kE10.fr 1
          have qf2 := kE10.fr 2
          have qf3 := kE10.fr 3
          have b2' : Below W2.heap.size W2 ((((u_29.setCell ⟨E10, 0, none⟩ (.string K)).setCell ⟨E10, 1, none⟩ (.int .i64 S)).setCell ⟨E10, 2, none⟩ (.string R)).setCell ⟨E10, 3, none⟩ (.int .i64 C)) := below_set4 b_29 hE10 _ _ _ _
          have kA : Bxs ((((u_29.setCell ⟨E10, 0, none⟩ (.string K)).setCell ⟨E10, 1, none⟩ (.int .i64 S)).setCell ⟨E10, 2, none⟩ (.string R)).setCell ⟨E10, 3, none⟩ (.int .i64 C)) E10 31 #[.string K, .int .i64 S, .string R, .int .i64 C] := (((kE10.set 0 _).set 1 _).set 2 _).set 3 _
          have kB : Bxs ((((u_29.setCell ⟨E10, 0, none⟩ (.string K)).setCell ⟨E10, 1, none⟩ (.int .i64 S)).setCell ⟨E10, 2, none⟩ (.string R)).setCell ⟨E10, 3, none⟩ (.int .i64 C)) E11 31 #[.string ⟨#[]⟩, .int .i64 0, .string ⟨#[]⟩, .int .i64 0] := (((kE11.other E10 0 (by omega) _).other E10 1 (by omega) _).other E10 2 (by omega) _).other E10 3 (by omega) _
          refine ready_at 12 rfl (by kernel_rfl) (fun K hK => ?_)
          go_simp
          refine hK.out _ _ (HX.out _ b2') (fun hHeld => ?_)
          clear hK K qc0 qf0 qc1 qf1 qc2 qf2 qc3 qf3
          try simp only [Act.put, List.setIfInBounds_toArray, List.set_cons_zero, List.set_cons_succ]
          generalize ((((u_29.setCell ⟨E10, 0, none⟩ (.string K)).setCell ⟨E10, 1, none⟩ (.int .i64 S)).setCell ⟨E10, 2, none⟩ (.string R)).setCell ⟨E10, 3, none⟩ (.int .i64 C)) = x9 at *
          have qc0 : x9.cell? ⟨E11, 0, none⟩ = some (.string ⟨#[]⟩) := kB.cell 0
          have qc1 : x9.cell? ⟨E11, 1, none⟩ = some (.int .i64 0) := kB.cell 1
          have qc2 : x9.cell? ⟨E11, 2, none⟩ = some (.string ⟨#[]⟩) := kB.cell 2
          have qc3 : x9.cell? ⟨E11, 3, none⟩ = some (.int .i64 0) := kB.cell 3
          have qf0 := kB.fr 0
          have qf1 := kB.fr 1
          have qf2 := kB.fr 2
          have qf3 := kB.fr 3
          have HP : Hid (Bxs ((((x9.setCell ⟨E11, 0, none⟩ (.string K)).setCell ⟨E11, 1, none⟩ (.int .i64 S)).setCell ⟨E11, 2, none⟩ (.string R)).setCell ⟨E11, 3, none⟩ (.int .i64 C)) E10 31 #[.string K, .int .i64 S, .string R, .int .i64 C] ∧ Bxs ((((x9.setCell ⟨E11, 0, none⟩ (.string K)).setCell ⟨E11, 1, none⟩ (.int .i64 S)).setCell ⟨E11, 2, none⟩ (.string R)).setCell ⟨E11, 3, none⟩ (.int .i64 C)) E11 31 #[.string K, .int .i64 S, .string R, .int .i64 C] ∧ Below W2.heap.size W2 ((((x9.setCell ⟨E11, 0, none⟩ (.string K)).setCell ⟨E11, 1, none⟩ (.int .i64 S)).setCell ⟨E11, 2, none⟩ (.string R)).setCell ⟨E11, 3, none⟩ (.int .i64 C))) := ⟨(((kA.other E11 0 (by omega) _).other E11 1 (by omega) _).other E11 2 (by omega) _).other E11 3 (by omega) _, (((kB.set 0 _).set 1 _).set 2 _).set 3 _, below_set4 b2' hE11 _ _ _ _⟩
          refine ready_at 13 rfl (by kernel_rfl) (fun K hK => ?_)
          go_simp
          refine hK.out _ _ (HX.out _ HP.out.2.2) (fun hHeld => ?_)
          clear hK K qc0 qf0 qc1 qf1 qc2 qf2 qc3 qf3
          try simp only [Act.put, List.setIfInBounds_toArray, List.set_cons_zero, List.set_cons_succ]
          refine wpAnyH_done (by kernel_rfl) ?_ _
          clear hHeld
          go_wp2_with fail
          go_meet
          exact ⟨E10, E11, rfl, rfl, HP⟩
        · go_simp
          have kE10 : Bxs (v_27.alloc (.cells #[.string ⟨#[]⟩, .int .i64 0, .string ⟨#[]⟩, .int .i64 0] 31)) v_27.heap.size 31 #[.string ⟨#[]⟩, .int .i64 0, .string ⟨#[]⟩, .int .i64 0] := Bxs.new _ _ _
          have b_30 : Below W2.heap.size W2 (v_27.alloc (.cells #[.string ⟨#[]⟩, .int .i64 0, .string ⟨#[]⟩, .int .i64 0] 31)) := alB b_27 _
          have hE10 : W2.heap.size ≤ v_27.heap.size := b_27.size
          have hne : E11 ≠ v_27.heap.size := by have := kE11.lt; omega
          replace kE11 := kE11.alloc (.cells #[.string ⟨#[]⟩, .int .i64 0, .string ⟨#[]⟩, .int .i64 0] 31)
          refine hK.out _ _ (HX.out _ b_30) (fun hHeld => ?_)
          clear hK K
          try simp only [Act.put, List.setIfInBounds_toArray, List.set_cons_zero, List.set_cons_succ]
          generalize v_27.alloc (.cells #[.string ⟨#[]⟩, .int .i64 0, .string ⟨#[]⟩, .int .i64 0] 31) = u_30 at *
          generalize v_27.heap.size = E10 at *
          refine ready_at 9 rfl (by kernel_rfl) (fun K hK => ?_)
          go_simp
          (go_at_call 7; (with_reducible refine (N2.out _ b_30).mono ?_); rintro e v_31 ⟨rfl, z_31⟩)
          have b_31 := chainB b_30 z_31
          have kE11 := kE11.below z_31
          have kE10 := kE10.below z_31
          refine hK.out _ _ (HX.out _ b_31) (fun hHeld => ?_)
          clear hK K
          try simp only [Act.put, List.setIfInBounds_toArray, List.set_cons_zero, List.set_cons_succ]
          have hne' : E11 ≠ E10 := by omega
          have qc0 : v_31.cell? ⟨E10, 0, none⟩ = some (.string ⟨#[]⟩) := kE10.cell 0
          have qc1 : v_31.cell? ⟨E10, 1, none⟩ = some (.int .i64 0) := kE10.cell 1
          have qc2 : v_31.cell? ⟨E10, 2, none⟩ = some (.string ⟨#[]⟩) := kE10.cell 2
          have qc3 : v_31.cell? ⟨E10, 3, none⟩ = some (.int .i64 0) := kE10.cell 3
          have qf0 := kE10.fr 0
          have qf1 := kE10.fr 1
          have qf2 := kE10.fr 2
          have qf3 := kE10.fr 3
          have b2' : Below W2.heap.size W2 ((((v_31.setCell ⟨E10, 0, none⟩ (.string K)).setCell ⟨E10, 1, none⟩ (.int .i64 S)).setCell ⟨E10, 2, none⟩ (.string R)).setCell ⟨E10, 3, none⟩ (.int .i64 C)) := below_set4 b_31 hE10 _ _ _ _
          have kA : Bxs ((((v_31.setCell ⟨E10, 0, none⟩ (.string K)).setCell ⟨E10, 1, none⟩ (.int .i64 S)).setCell ⟨E10, 2, none⟩ (.string R)).setCell ⟨E10, 3, none⟩ (.int .i64 C)) E10 31 #[.string K, .int .i64 S, .string R, .int .i64 C] := (((kE10.set 0 _).set 1 _).set 2 _).set 3 _
          have kB : Bxs ((((v_31.setCell ⟨E10, 0, none⟩ (.string K)).setCell ⟨E10, 1, none⟩ (.int .i64 S)).setCell ⟨E10, 2, none⟩ (.string R)).setCell ⟨E10, 3, none⟩ (.int .i64 C)) E11 31 #[.string ⟨#[]⟩, .int .i64 0, .string ⟨#[]⟩, .int .i64 0] := (((kE11.other E10 0 (by omega) _).other E10 1 (by omega) _).other E10 2 (by omega) _).other E10 3 (by omega) _
          refine ready_at 12 rfl (by kernel_rfl) (fun K hK => ?_)
          go_simp
          refine hK.out _ _ (HX.out _ b2') (fun hHeld => ?_)
          clear hK K qc0 qf0 qc1 qf1 qc2 qf2 qc3 qf3
          try simp only [Act.put, List.setIfInBounds_toArray, List.set_cons_zero, List.set_cons_succ]
          generalize ((((v_31.setCell ⟨E10, 0, none⟩ (.string K)).setCell ⟨E10, 1, none⟩ (.int .i64 S)).setCell ⟨E10, 2, none⟩ (.string R)).setCell ⟨E10, 3, none⟩ (.int .i64 C)) = x9 at *
          have qc0 : x9.cell? ⟨E11, 0, none⟩ = some (.string ⟨#[]⟩) := kB.cell 0
          have qc1 : x9.cell? ⟨E11, 1, none⟩ = some (.int .i64 0) := kB.cell 1
          have qc2 : x9.cell? ⟨E11, 2, none⟩ = some (.string ⟨#[]⟩) := kB.cell 2
          have qc3 : x9.cell? ⟨E11, 3, none⟩ = some (.int .i64 0) := kB.cell 3
          have qf0 := kB.fr 0
          have qf1 := kB.fr 1
          have qf2 := kB.fr 2
          have qf3 := kB.fr 3
          have HP : Hid (Bxs ((((x9.setCell ⟨E11, 0, none⟩ (.string K)).setCell ⟨E11, 1, none⟩ (.int .i64 S)).setCell ⟨E11, 2, none⟩ (.string R)).setCell ⟨E11, 3, none⟩ (.int .i64 C)) E10 31 #[.string K, .int .i64 S, .string R, .int .i64 C] ∧ Bxs ((((x9.setCell ⟨E11, 0, none⟩ (.string K)).setCell ⟨E11, 1, none⟩ (.int .i64 S)).setCell ⟨E11, 2, none⟩ (.string R)).setCell ⟨E11, 3, none⟩ (.int .i64 C)) E11 31 #[.string K, .int .i64 S, .string R, .int .i64 C] ∧ Below W2.heap.size W2 ((((x9.setCell ⟨E11, 0, none⟩ (.string K)).setCell ⟨E11, 1, none⟩ (.int .i64 S)).setCell ⟨E11, 2, none⟩ (.string R)).setCell ⟨E11, 3, none⟩ (.int .i64 C))) := ⟨(((kA.other E11 0 (by omega) _).other E11 1 (by omega) _).other E11 2 (by omega) _).other E11 3 (by omega) _, (((kB.set 0 _).set 1 _).set 2 _).set 3 _, below_set4 b2' hE11 _ _ _ _⟩
          refine ready_at 13 rfl (by kernel_rfl) (fun K hK => ?_)
          go_simp
          refine hK.out _ _ (HX.out _ HP.out.2.2) (fun hHeld => ?_)
          clear hK K qc0 qf0 qc1 qf1 qc2 qf2 qc3 qf3
          try simp only [Act.put, List.setIfInBounds_toArray, List.set_cons_zero, List.set_cons_succ]
          refine wpAnyH_done (by kernel_rfl) ?_ _
          clear hHeld
          go_wp2_with fail
          go_meet
          exact ⟨E10, E11, rfl, rfl, HP⟩
      · go_simp
        have kE10 : Bxs (u_26.alloc (.cells #[.string ⟨#[]⟩, .int .i64 0, .string ⟨#[]⟩, .int .i64 0] 31)) u_26.heap.size 31 #[.string ⟨#[]⟩, .int .i64 0, .string ⟨#[]⟩, .int .i64 0] := Bxs.new _ _ _
        have b_32 : Below W2.heap.size W2 (u_26.alloc (.cells #[.string ⟨#[]⟩, .int .i64 0, .string ⟨#[]⟩, .int .i64 0] 31)) := alB b_26 _
        have hE10 : W2.heap.size ≤ u_26.heap.size := b_26.size
        have hne : E11 ≠ u_26.heap.size := by have := kE11.lt; omega
        replace kE11 := kE11.alloc (.cells #[.string ⟨#[]⟩, .int .i64 0, .string ⟨#[]⟩, .int .i64 0] 31)
        refine hK.out _ _ (HX.out _ b_32) (fun hHeld => ?_)
        clear hK K
        try simp only [Act.put, List.setIfInBounds_toArray, List.set_cons_zero, List.set_cons_succ]
        generalize u_26.alloc (.cells #[.string ⟨#[]⟩, .int .i64 0, .string ⟨#[]⟩, .int .i64 0] 31) = u_32 at *
        generalize u_26.heap.size = E10 at *
        refine ready_at 4 rfl (by kernel_rfl) (fun K hK => ?_)
        go_simp
        (go_at_call 6; (with_reducible refine (N1.out _ b_32).mono ?_); rintro e v_33 ⟨rfl, z_33⟩)
        have b_33 := chainB b_32 z_33
        have kE11 := kE11.below z_33
        have kE10 := kE10.below z_33
        refine hK.out _ _ (HX.out _ b_33) (fun hHeld => ?_)
        clear hK K
        try simp only [Act.put, List.setIfInBounds_toArray, List.set_cons_zero, List.set_cons_succ]
        refine ready_at 9 rfl (by kernel_rfl) (fun K hK => ?_)
        go_simp
        (go_at_call 7; (with_reducible refine (N2.out _ b_33).mono ?_); rintro e v_34 ⟨rfl, z_34⟩)
        have b_34 := chainB b_33 z_34
        have kE11 := kE11.below z_34
        have kE10 := kE10.below z_34
        refine hK.out _ _ (HX.out _ b_34) (fun hHeld => ?_)
        clear hK K
        try simp only [Act.put, List.setIfInBounds_toArray, List.set_cons_zero, List.set_cons_succ]
        have hne' : E11 ≠ E10 := by omega
        have qc0 : v_34.cell? ⟨E10, 0, none⟩ = some (.string ⟨#[]⟩) := kE10.cell 0
        have qc1 : v_34.cell? ⟨E10, 1, none⟩ = some (.int .i64 0) := kE10.cell 1
        have qc2 : v_34.cell? ⟨E10, 2, none⟩ = some (.string ⟨#[]⟩) := kE10.cell 2
        have qc3 : v_34.cell? ⟨E10, 3, none⟩ = some (.int .i64 0) := kE10.cell 3
        have qf0 := kE10.fr 0
        have qf1 := kE10.fr 1
        have qf2 := kE10.fr 2
        have qf3 := kE10.fr 3
        have b2' : Below W2.heap.size W2 ((((v_34.setCell ⟨E10, 0, none⟩ (.string K)).setCell ⟨E10, 1, none⟩ (.int .i64 S)).setCell ⟨E10, 2, none⟩ (.string R)).setCell ⟨E10, 3, none⟩ (.int .i64 C)) := below_set4 b_34 hE10 _ _ _ _
        have kA : Bxs ((((v_34.setCell ⟨E10, 0, none⟩ (.string K)).setCell ⟨E10, 1, none⟩ (.int .i64 S)).setCell ⟨E10, 2, none⟩ (.string R)).setCell ⟨E10, 3, none⟩ (.int .i64 C)) E10 31 #[.string K, .int .i64 S, .string R, .int .i64 C] := (((kE10.set 0 _).set 1 _).set 2 _).set 3 _
        have kB : Bxs ((((v_34.setCell ⟨E10, 0, none⟩ (.string K)).setCell ⟨E10, 1, none⟩ (.int .i64 S)).setCell ⟨E10, 2, none⟩ (.string R)).setCell ⟨E10, 3, none⟩ (.int .i64 C)) E11 31 #[.string ⟨#[]⟩, .int .i64 0, .string ⟨#[]⟩, .int .i64 0] := (((kE11.other E10 0 (by omega) _).other E10 1 (by omega) _).other E10 2 (by omega) _).other E10 3 (by omega) _
        refine ready_at 12 rfl (by kernel_rfl) (fun K hK => ?_)
        go_simp
        refine hK.out _ _ (HX.out _ b2') (fun hHeld => ?_)
        clear hK K qc0 qf0 qc1 qf1 qc2 qf2 qc3 qf3
        try simp only [Act.put, List.setIfInBounds_toArray, List.set_cons_zero, List.set_cons_succ]
        generalize ((((v_34.setCell ⟨E10, 0, none⟩ (.string K)).setCell ⟨E10, 1, none⟩ (.int .i64 S)).setCell ⟨E10, 2, none⟩ (.string R)).setCell ⟨E10, 3, none⟩ (.int .i64 C)) = x9 at *
        have qc0 : x9.cell? ⟨E11, 0, none⟩ = some (.string ⟨#[]⟩) := kB.cell 0
        have qc1 : x9.cell? ⟨E11, 1, none⟩ = some (.int .i64 0) := kB.cell 1
        have qc2 : x9.cell? ⟨E11, 2, none⟩ = some (.string ⟨#[]⟩) := kB.cell 2
        have qc3 : x9.cell? ⟨E11, 3, none⟩ = some (.int .i64 0) := kB.cell 3
        have qf0 := kB.fr 0
        have qf1 := kB.fr 1
        have qf2 := kB.fr 2
        have qf3 := kB.fr 3
        have HP : Hid (Bxs ((((x9.setCell ⟨E11, 0, none⟩ (.string K)).setCell ⟨E11, 1, none⟩ (.int .i64 S)).setCell ⟨E11, 2, none⟩ (.string R)).setCell ⟨E11, 3, none⟩ (.int .i64 C)) E10 31 #[.string K, .int .i64 S, .string R, .int .i64 C] ∧ Bxs ((((x9.setCell ⟨E11, 0, none⟩ (.string K)).setCell ⟨E11, 1, none⟩ (.int .i64 S)).setCell ⟨E11, 2, none⟩ (.string R)).setCell ⟨E11, 3, none⟩ (.int .i64 C)) E11 31 #[.string K, .int .i64 S, .string R, .int .i64 C] ∧ Below W2.heap.size W2 ((((x9.setCell ⟨E11, 0, none⟩ (.string K)).setCell ⟨E11, 1, none⟩ (.int .i64 S)).setCell ⟨E11, 2, none⟩ (.string R)).setCell ⟨E11, 3, none⟩ (.int .i64 C))) := ⟨(((kA.other E11 0 (by omega) _).other E11 1 (by omega) _).other E11 2 (by omega) _).other E11 3 (by omega) _, (((kB.set 0 _).set 1 _).set 2 _).set 3 _, below_set4 b2' hE11 _ _ _ _⟩
        refine ready_at 13 rfl (by kernel_rfl) (fun K hK => ?_)
        go_simp
        refine hK.out _ _ (HX.out _ HP.out.2.2) (fun hHeld => ?_)
        clear hK K qc0 qf0 qc1 qf1 qc2 qf2 qc3 qf3
        try simp only [Act.put, List.setIfInBounds_toArray, List.set_cons_zero, List.set_cons_succ]
        refine wpAnyH_done (by kernel_rfl) ?_ _
        clear hHeld
        go_wp2_with fail
        go_meet
        exact ⟨E10, E11, rfl, rfl, HP⟩
  case rest =>
  obtain ⟨Y9, Y10, rfl, rfl, HP⟩ := hcut
  clear BR N1 N2
  rename World => W4
  have B4 : Hid (Below w.heap.size w W4) := chainB B2.out HP.out.2.2
  have HX4 : Hid (∀ x, Below W4.heap.size W4 x → (x.cell? ⟨G1, 0, none⟩ = some (.string ak) ∧ x.cell? ⟨G1, 1, none⟩ = some (.int .i64 az) ∧ x.cell? ⟨G1, 2, none⟩ = some (.string ar) ∧ x.cell? ⟨G2, 0, none⟩ = some (.int .i64 key) ∧ x.cell? ⟨G2, 1, none⟩ = some (.slice e1 E.length c1) ∧ x.cell? ⟨G2, 2, none⟩ = some (.slice e2 P.length c2)) ∧ (x.cell? ⟨Y9, 0, none⟩ = some (.string K) ∧ x.cell? ⟨Y9, 1, none⟩ = some (.int .i64 S) ∧ x.cell? ⟨Y9, 2, none⟩ = some (.string R) ∧ x.cell? ⟨Y9, 3, none⟩ = some (.int .i64 C)) ∧ (x.cell? ⟨Y10, 0, none⟩ = some (.string K) ∧ x.cell? ⟨Y10, 1, none⟩ = some (.int .i64 S) ∧ x.cell? ⟨Y10, 2, none⟩ = some (.string R) ∧ x.cell? ⟨Y10, 3, none⟩ = some (.int .i64 C))) := fun x hb => ⟨HX.out x (chainB HP.out.2.2 hb), ⟨(HP.out.1.below hb).cell 0, (HP.out.1.below hb).cell 1, (HP.out.1.below hb).cell 2, (HP.out.1.below hb).cell 3⟩, ⟨(HP.out.2.1.below hb).cell 0, (HP.out.2.1.below hb).cell 1, (HP.out.2.1.below hb).cell 2, (HP.out.2.1.below hb).cell 3⟩⟩
  go_wp2_with fail
  refine (drawHeadRead_any w.heap.size a1 len1 cap1 W4 hl1 B4.out.size (C1.out.below B4.out)).mono ?_
  rintro e w5 ⟨⟨u, rfl, hu⟩, b5⟩
  go_wp2_with fail
  refine (drawAuditorRight_any w.heap.size a1 len1 cap1 w5 hl1 (chainB B4.out b5).size (C1.out.below (chainB B4.out b5))).mono ?_
  rintro e w6 ⟨⟨bk, bz, br, rfl, -⟩, b6⟩
  go_upto_region 7 with fail
  obtain ⟨W7, hW7⟩ : ∃ W7, W7 = w6.alloc (.cells #[.string bk, .int .i64 bz, .string br] 24) := ⟨_, rfl⟩
  rw [← hW7]
  obtain ⟨G3, hG3⟩ : ∃ G3, G3 = w6.heap.size := ⟨_, rfl⟩
  rw [← hG3]
  have K7 : Hid (Bxs W7 G3 24 #[.string bk, .int .i64 bz, .string br]) := by rw [hW7, hG3]; exact Bxs.new _ _ _
  have B7 : Hid (Below W4.heap.size W4 W7) := by rw [hW7]; exact alB (chainB b5 b6) _
  clear hW7 hG3 b5 b6 C1
  have HX7 : Hid (∀ x, Below W7.heap.size W7 x → (x.cell? ⟨G3, 0, none⟩ = some (.string bk) ∧ x.cell? ⟨G3, 1, none⟩ = some (.int .i64 bz) ∧ x.cell? ⟨G3, 2, none⟩ = some (.string br)) ∧ (x.cell? ⟨Y9, 0, none⟩ = some (.string K) ∧ x.cell? ⟨Y9, 1, none⟩ = some (.int .i64 S) ∧ x.cell? ⟨Y9, 2, none⟩ = some (.string R) ∧ x.cell? ⟨Y9, 3, none⟩ = some (.int .i64 C)) ∧ (x.cell? ⟨Y10, 0, none⟩ = some (.string K) ∧ x.cell? ⟨Y10, 1, none⟩ = some (.int .i64 S) ∧ x.cell? ⟨Y10, 2, none⟩ = some (.string R) ∧ x.cell? ⟨Y10, 3, none⟩ = some (.int .i64 C))) := fun x hb => ⟨⟨(K7.out.below hb).cell 0, (K7.out.below hb).cell 1, (K7.out.below hb).cell 2⟩, (HX4.out x (chainB B7.out hb)).2⟩
  have I1 : Hid (∀ x, Calls Tryz.prog 10 #[.string u] x fun e w' => e = .returned (.agg #[.string ByteArray.empty, .int .i64 (heaS u), .string (heaR u), .int .i64 (heaC u)]) ∧ Below x.heap.size x w') := fun x => implHead_any u x (by unfold maxLen; omega)
  have I2 : Hid (∀ x, Calls Tryz.prog 11 #[.string u] x fun e w' => e = .returned (.agg #[.string ByteArray.empty, .int .i64 (heaS u), .string (heaR u), .int .i64 (heaC u)]) ∧ Below x.heap.size x w') := fun x => specHead_any u x (by unfold maxLen; omega)
  have I3 : Hid (∀ x, Calls Tryz.prog 12 #[.agg #[.string bk, .int .i64 bz, .string br]] x fun e w' => e = .returned (.bool (audB bk bz br)) ∧ Below x.heap.size x w') := fun x => implAud_any bk bz br x
  have I4 : Hid (∀ x, Calls Tryz.prog 13 #[.agg #[.string bk, .int .i64 bz, .string br]] x fun e w' => e = .returned (.bool (audB bk bz br)) ∧ Below x.heap.size x w') := fun x => specAud_any bk bz br x
  generalize heaS u = u1 at *
  generalize heaR u = u2 at *
  generalize heaC u = u3 at *
  generalize audB bk bz br = u4 at *
  have BR : Below W7.heap.size W7 W7.drew := (Below.refl _ _).drew
  refine wp_region_held_drew (S := fun w' => (w'.cell? ⟨G3, 0, none⟩ = some (.string bk) ∧ w'.cell? ⟨G3, 1, none⟩ = some (.int .i64 bz) ∧ w'.cell? ⟨G3, 2, none⟩ = some (.string br)) ∧ (w'.cell? ⟨Y9, 0, none⟩ = some (.string K) ∧ w'.cell? ⟨Y9, 1, none⟩ = some (.int .i64 S) ∧ w'.cell? ⟨Y9, 2, none⟩ = some (.string R) ∧ w'.cell? ⟨Y9, 3, none⟩ = some (.int .i64 C)) ∧ (w'.cell? ⟨Y10, 0, none⟩ = some (.string K) ∧ w'.cell? ⟨Y10, 1, none⟩ = some (.int .i64 S) ∧ w'.cell? ⟨Y10, 2, none⟩ = some (.string R) ∧ w'.cell? ⟨Y10, 3, none⟩ = some (.int .i64 C))) (by kernel_rfl) (HX7.out _ BR) (fun hHeld => ?_)
  refine take_at 0 (v := ?_) rfl (by kernel_rfl) (by kernel_rfl) (by kernel_rfl) (fun _ _ _ h => h) hHeld (Or.inl ⟨by rfl, ?_⟩) ?_
  rotate_left
  · (intro w hSw; (try dsimp only at hSw); go_simp; try with_reducible rfl)
  simp only [Act.put, List.setIfInBounds_toArray, List.set_cons_zero, List.set_cons_succ]
  refine take_at 1 (v := ?_) rfl (by kernel_rfl) (by kernel_rfl) (by kernel_rfl) (fun _ _ _ h => h) hHeld (Or.inl ⟨by rfl, ?_⟩) ?_
  rotate_left
  · (intro w hSw; (try dsimp only at hSw); go_simp; try with_reducible rfl)
  simp only [Act.put, List.setIfInBounds_toArray, List.set_cons_zero, List.set_cons_succ]
  refine take_at 2 (v := ?_) rfl (by kernel_rfl) (by kernel_rfl) (by kernel_rfl) (fun _ _ _ h => h) hHeld (Or.inl ⟨by rfl, ?_⟩) ?_
  rotate_left
  · (intro w hSw; (try dsimp only at hSw); go_simp; try with_reducible rfl)
  simp only [Act.put, List.setIfInBounds_toArray, List.set_cons_zero, List.set_cons_succ]
  refine take_at 3 (v := ?_) rfl (by kernel_rfl) (by kernel_rfl) (by kernel_rfl) (fun _ _ _ h => h) hHeld (Or.inl ⟨by rfl, ?_⟩) ?_
  rotate_left
  · (intro w hSw; (try dsimp only at hSw); go_simp; try with_reducible rfl)
  simp only [Act.put, List.setIfInBounds_toArray, List.set_cons_zero, List.set_cons_succ]
  refine take_at 4 (v := ?_) rfl (by kernel_rfl) (by kernel_rfl) (by kernel_rfl) (fun _ _ _ h => h) hHeld (Or.inl ⟨by rfl, ?_⟩) ?_
  rotate_left
  · (intro w hSw; (try dsimp only at hSw); go_simp; try with_reducible rfl)
  simp only [Act.put, List.setIfInBounds_toArray, List.set_cons_zero, List.set_cons_succ]
  refine take_at 6 (v := ?_) rfl (by kernel_rfl) (by kernel_rfl) (by kernel_rfl) (fun _ _ _ h => h) hHeld (Or.inl ⟨by rfl, ?_⟩) ?_
  rotate_left
  · (intro w hSw; (try dsimp only at hSw); go_simp; try with_reducible rfl)
  simp only [Act.put, List.setIfInBounds_toArray, List.set_cons_zero, List.set_cons_succ]
  refine ready_at 5 rfl (by kernel_rfl) (fun K hK => ?_)
  go_simp
  (go_at_call 10; (with_reducible refine (I1.out _).mono ?_); rintro e y1 ⟨rfl, hz1⟩; have z1 := chainB BR hz1; clear hz1)
  refine hK.out _ _ (HX7.out _ z1) (fun hHeld => ?_)
  clear hK K
  try simp only [Act.put, List.setIfInBounds_toArray, List.set_cons_zero, List.set_cons_succ]
  refine ready_at 7 rfl (by kernel_rfl) (fun K hK => ?_)
  go_simp
  (go_at_call 11; (with_reducible refine (I2.out _).mono ?_); rintro e y2 ⟨rfl, hz2⟩; have z2 := chainB z1 hz2; clear hz2)
  refine hK.out _ _ (HX7.out _ z2) (fun hHeld => ?_)
  clear hK K
  try simp only [Act.put, List.setIfInBounds_toArray, List.set_cons_zero, List.set_cons_succ]
  refine take_at 8 (v := ?_) rfl (by kernel_rfl) (by kernel_rfl) (by kernel_rfl) (fun _ _ _ h => h) hHeld (Or.inl ⟨by rfl, ?_⟩) ?_
  rotate_left
  · (intro w hSw; (try dsimp only at hSw); go_simp; try with_reducible rfl)
  simp only [Act.put, List.setIfInBounds_toArray, List.set_cons_zero, List.set_cons_succ]
  refine take_at 9 (v := ?_) rfl (by kernel_rfl) (by kernel_rfl) (by kernel_rfl) (fun _ _ _ h => h) hHeld (Or.inl ⟨by rfl, ?_⟩) ?_
  rotate_left
  · (intro w hSw; (try dsimp only at hSw); go_simp; try with_reducible rfl)
  simp only [Act.put, List.setIfInBounds_toArray, List.set_cons_zero, List.set_cons_succ]
  refine take_at 10 (v := ?_) rfl (by kernel_rfl) (by kernel_rfl) (by kernel_rfl) (fun _ _ _ h => h) hHeld (Or.inl ⟨by rfl, ?_⟩) ?_
  rotate_left
  · (intro w hSw; (try dsimp only at hSw); go_simp; try with_reducible rfl)
  simp only [Act.put, List.setIfInBounds_toArray, List.set_cons_zero, List.set_cons_succ]
  refine take_at 11 (v := ?_) rfl (by kernel_rfl) (by kernel_rfl) (by kernel_rfl) (fun _ _ _ h => h) hHeld (Or.inl ⟨by rfl, ?_⟩) ?_
  rotate_left
  · (intro w hSw; (try dsimp only at hSw); go_simp; try with_reducible rfl)
  simp only [Act.put, List.setIfInBounds_toArray, List.set_cons_zero, List.set_cons_succ]
  refine take_at 13 (v := ?_) rfl (by kernel_rfl) (by kernel_rfl) (by kernel_rfl) (fun _ _ _ h => h) hHeld (Or.inl ⟨by rfl, ?_⟩) ?_
  rotate_left
  · (intro w hSw; (try dsimp only at hSw); go_simp; try with_reducible rfl)
  simp only [Act.put, List.setIfInBounds_toArray, List.set_cons_zero, List.set_cons_succ]
  refine ready_at 12 rfl (by kernel_rfl) (fun K hK => ?_)
  go_simp
  (go_at_call 12; (with_reducible refine (I3.out _).mono ?_); rintro e y3 ⟨rfl, hz3⟩; have z3 := chainB z2 hz3; clear hz3)
  refine hK.out _ _ (HX7.out _ z3) (fun hHeld => ?_)
  clear hK K
  try simp only [Act.put, List.setIfInBounds_toArray, List.set_cons_zero, List.set_cons_succ]
  refine ready_at 14 rfl (by kernel_rfl) (fun K hK => ?_)
  go_simp
  (go_at_call 13; (with_reducible refine (I4.out _).mono ?_); rintro e y4 ⟨rfl, hz4⟩; have z4 := chainB z3 hz4; clear hz4)
  refine hK.out _ _ (HX7.out _ z4) (fun hHeld => ?_)
  clear hK K
  try simp only [Act.put, List.setIfInBounds_toArray, List.set_cons_zero, List.set_cons_succ]
  refine take_at 15 (v := ?_) rfl (by kernel_rfl) (by kernel_rfl) (by kernel_rfl) (fun _ _ _ h => h) hHeld (Or.inl ⟨by rfl, ?_⟩) ?_
  rotate_left
  · (intro w hSw; (try dsimp only at hSw); go_simp; try with_reducible rfl)
  simp only [Act.put, List.setIfInBounds_toArray, List.set_cons_zero, List.set_cons_succ]
  refine take_at 16 (v := ?_) rfl (by kernel_rfl) (by kernel_rfl) (by kernel_rfl) (fun _ _ _ h => h) hHeld (Or.inl ⟨by rfl, ?_⟩) ?_
  rotate_left
  · (intro w hSw; (try dsimp only at hSw); go_simp; try with_reducible rfl)
  simp only [Act.put, List.setIfInBounds_toArray, List.set_cons_zero, List.set_cons_succ]
  refine wpAnyH_done (by kernel_rfl) ?_ _
  have Z8 : Hid (Below W4.heap.size W4 y4) := chainB B7.out z4
  obtain ⟨-, ⟨g0, g1, g2, g3⟩, -⟩ := HX4.out _ Z8.out
  clear z1 z2 z3 z4 BR hHeld I1 I2 I3 I4 HX7 K7 B7
  by_cases hc : C = 0
  case neg =>
    have dc : (C == 0) = false := beq_eq_false_iff_ne.2 hc
    have HE := chainB B4.out Z8.out
    clear HX HX4 N3 N4 N5 N6 HP Z8 B4 B2 hc g0 g1 g2
    go_wp2_with fail
    go_ret
    exact ⟨rfl, HE⟩
  have M3 : Hid (∀ x, Below W4.heap.size W4 x → Calls Tryz.prog 6 #[.agg #[.string K, .int .i64 S, .string R], .string hd, .agg #[.int .i64 key, .slice e1 E.length c1, .slice e2 P.length c2], .slice none 0 0] x fun e x1 => (∃ k3 s3 r3, e = .returned (.agg #[.string k3, .int .i64 s3, .string r3, .int .i64 0])) ∧ Below x.heap.size x x1) := fun x hb => N3.out x (chainB HP.out.2.2 hb) hc
  have M4 : Hid (∀ x, Below W4.heap.size W4 x → Calls Tryz.prog 14 #[.string ak, .string hd, .agg #[.int .i64 key, .slice e1 E.length c1, .slice e2 P.length c2]] x fun e x1 => e = .returned (.bool true) ∧ Below x.heap.size x x1) := fun x hb => N4.out x (chainB HP.out.2.2 hb) hc
  have M5 : Hid (∀ x, Calls Tryz.prog 13 #[.agg #[.string K, .int .i64 S, .string R]] x fun e x1 => e = .returned (.bool true) ∧ Below x.heap.size x x1) := fun x => N5.out x hc
  have dS : decide (az ≤ S) = true := decide_eq_true (N6.out hc)
  have HfC := field_code
  subst hc
  clear N3 N4 N5 N6 HX HP
  go_upto_region 11 with fail
  clear g0 g1 g2 g3
  obtain ⟨⟨p0, p1, p2, p3, p4, p5⟩, ⟨g0, g1, g2, g3⟩, -⟩ := HX4.out y4 Z8.out
  go_wp2_with fail
  refine (M5.out _).mono ?_
  rintro e y5 ⟨rfl, h5⟩
  have z5 := chainB Z8.out h5
  clear h5
  clear p0 p1 p2 p3 p4 p5 g0 g1 g2 g3
  obtain ⟨⟨p0, p1, p2, p3, p4, p5⟩, ⟨g0, g1, g2, g3⟩, -⟩ := HX4.out y5 z5
  go_wp2_with fail
  refine (M4.out _ z5).mono ?_
  rintro e y6 ⟨rfl, h6⟩
  have z6 := chainB z5 h6
  clear h6
  clear p0 p1 p2 p3 p4 p5 g0 g1 g2 g3
  obtain ⟨⟨p0, p1, p2, p3, p4, p5⟩, ⟨g0, g1, g2, g3⟩, -⟩ := HX4.out y6 z6
  go_wp2_with fail
  refine (M3.out _ z6).mono ?_
  rintro e y7 ⟨⟨k3, s3, r3, rfl⟩, h7⟩
  have z7 := chainB z6 h7
  clear h7
  clear p0 p1 p2 p3 p4 p5 g0 g1 g2 g3
  have HE := chainB B4.out z7
  clear z5 z6 z7 M3 M4 M5 HX4 Z8
  go_wp2_with fail
  go_ret
  exact ⟨rfl, HE⟩
end Go.Proofs.YtonleickhincgaaGreatDoor
