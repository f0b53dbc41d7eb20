/-
  Parts of one proof, laid as one text: LogRI, Turn2; what each says stands at its head.
-/
import Derived.Test.YtpijadhfdpihkaaGreatDoorRows
import Derived.Test.YtpijadhfdpihkaaGreatDoorBytesDigMath
import Derived.Test.YtpijadhfdpihkaaGreatDoorSlASlBBxKOwnS
import Derived.Test.YtpijadhfdpihkaaGreatDoorAsDAs2CodeOfTimeIGrK
import Derived.Test.YtpijadhfdpihkaaGreatDoorJoinedPutTextFldMath
import Derived.Test.YtpijadhfdpihkaaGreatDoorLgMath
import Derived.Test.YtpijadhfdpihkaaGreatDoorLgAtKShwKOneKFldGFldBlk
import Derived.Test.YtpijadhfdpihkaaGreatDoorImplLg
import Derived.Test.YtpijadhfdpihkaaGreatDoorLeavesI
import Derived.Handy
import Derived.WalkSpells
import Derived.OwnWalk
/-
  Whether a log is right, as the program answers.
  Conditions: the cells of Rows and Leaves hold the rows and leaves; the tables of the digest and errors.errorType are laid.
-/
namespace Go.Proofs.YtpijadhfdpihkaaGreatDoor
open Go.RowKit Go.Lib
set_option linter.unusedVariables false
set_option maxRecDepth 20000

theorem im_parts (rs : List Rw) (lv : List ByteArray) (now : Int) : lgB rs lv now = (timeB now && ((decide (rs.length ≤ 6) && rsB rs now) && lvOk rs now lv)) := by rw [lg_eq]; rfl
theorem rs_all {rs : List Rw} {now : Int} (h : rsB rs now = true) : ∀ r ∈ rs, rB r = true := fun r hr => by
  unfold rsB at h
  rw [List.all_eq_true] at h
  exact (Bool.and_eq_true_iff.1 (h r hr)).1
set_option maxHeartbeats 2000000 in
theorem right_any (p : Option Addr) (lv : List ByteArray) (cp : Nat) (q : Option Addr) (rs : List Rw) (cq : Nat) (now : Int) (w : World) (hT : Tabs w) (hg : Laid w) (hA : LgAt p lv cp q rs cq w) :
    Calls Tryz.prog 35 #[.agg (wkC p lv cp q rs cq now)] w fun e w' => e = .returned (.bool (lgB rs lv now)) ∧ Below w.heap.size w w' := by
  obtain ⟨W1, hW1⟩ : ∃ W1, W1 = w.alloc (.cells #[.slice p lv.length cp, .slice q rs.length cq, .int .i64 now] 76) := ⟨_, rfl⟩
  have HW1 : Hid (W1 = w.alloc (.cells #[.slice p lv.length cp, .slice q rs.length cq, .int .i64 now] 76)) := hW1
  have K1 : Hid (Bxs W1 w.heap.size 76 #[.slice p lv.length cp, .slice q rs.length cq, .int .i64 now]) := by rw [hW1]; exact Bxs.new _ _ _
  have B1 : Hid (Below w.heap.size w W1) := by rw [hW1]; exact (Below.refl _ _).alloc (Nat.le_refl _) _
  have HA1 : Hid (LgAt p lv cp q rs cq W1) := hA.below B1.out
  have HT1 : Hid (Tabs W1) := hT.to B1.out
  have HG1 : Hid (Laid W1) := hg.below B1.out
  have hTi := timeRight_any now W1
  have hRR := rowsRight_any p lv cp q rs cq now W1 HT1.out HA1.out.rw HA1.out.rn HA1.out.rc HA1.out.rz
  have HLR : Hid (∀ x, Below W1.heap.size W1 x → rs.length ≤ 6 → rsB rs now = true → Calls Tryz.prog 53 #[.agg #[.slice p lv.length cp, .slice q rs.length cq, .int .i64 now]] x fun e w' => e = .returned (.bool (lvOk rs now lv)) ∧ Below x.heap.size x w') := fun x hb h6 hr => leavesRight_any p lv cp q rs cq now x (HT1.out.to hb) (HG1.out.below hb) (HA1.out.tx.below hb) hA.ln hA.lc hA.lz (HA1.out.rw.below hb) hA.rc (rs_all hr) hA.rz h6
  have HE : Hid (lgB rs lv now = (timeB now && ((decide (rs.length ≤ 6) && rsB rs now) && lvOk rs now lv))) := im_parts rs lv now
  rw [HE.out]
  unfold wkC at hRR ⊢
  obtain ⟨x0, x1, x2⟩ := K1.out.three
  rw [HW1.out] at x0 x1 x2
  clear hW1 hT hg hA HT1 HG1 HA1 HE
  cases ht : timeB now with
  | false =>
    rw [ht] at hTi
    clear hRR HLR
    go_enter Tryz.func35, Tryz.ntmps35
    go_wp2_with fail
    rw [← HW1.out]
    refine hTi.mono ?_
    rintro e y ⟨rfl, rfl⟩
    go_wp2_with fail
    go_ret
    exact ⟨rfl, B1.out⟩
  | true =>
    rw [ht] at hTi
    cases hr : (decide (rs.length ≤ 6) && rsB rs now) with
    | false =>
      rw [hr] at hRR
      clear HLR
      go_enter Tryz.func35, Tryz.ntmps35
      go_wp2_with fail
      rw [← HW1.out]
      refine hTi.mono ?_
      rintro e y ⟨rfl, rfl⟩
      rw [← HW1.out] at x0 x1 x2
      go_wp2_with fail
      refine hRR.mono ?_
      rintro e y2 ⟨rfl, b2⟩
      go_wp2_with fail
      go_ret
      exact ⟨rfl, chainB B1.out b2⟩
    | true =>
      rw [hr] at hRR
      obtain ⟨h6, hrs⟩ := Bool.and_eq_true_iff.1 hr
      have HLR2 : Hid (∀ x, Below W1.heap.size W1 x → Calls Tryz.prog 53 #[.agg #[.slice p lv.length cp, .slice q rs.length cq, .int .i64 now]] x fun e w' => e = .returned (.bool (lvOk rs now lv)) ∧ Below x.heap.size x w') := fun x hb => HLR.out x hb (of_decide_eq_true h6) hrs
      clear HLR h6 hrs hr
      generalize lvOk rs now lv = R at *
      go_enter Tryz.func35, Tryz.ntmps35
      go_wp2_with fail
      rw [← HW1.out]
      refine hTi.mono ?_
      rintro e y ⟨rfl, rfl⟩
      rw [← HW1.out] at x0 x1 x2
      go_wp2_with fail
      refine hRR.mono ?_
      rintro e y2 ⟨rfl, b2⟩
      have hL := HLR2.out y2 b2
      clear x0 x1 x2 hRR hTi HLR2
      obtain ⟨x0, x1, x2⟩ := (K1.out.below b2).three
      go_wp2_with fail
      refine hL.mono ?_
      rintro e y3 ⟨rfl, b3⟩
      clear hL
      go_wp2_with fail
      go_ret
      exact ⟨rfl, chainB (chainB B1.out b2) b3⟩
set_option maxHeartbeats 1000000 in
theorem implLogRight_any (p : Option Addr) (lv : List ByteArray) (cp : Nat) (q : Option Addr) (rs : List Rw) (cq : Nat) (now : Int) (w : World) (hT : Tabs w) (hg : Laid w) (hA : LgAt p lv cp q rs cq w) :
    Calls Tryz.prog 15 #[.agg (lgC p lv cp q rs cq now)] w fun e w' => e = .returned (.bool (lgB rs lv now)) ∧ Below w.heap.size w w' := by
  obtain ⟨W1, hW1⟩ : ∃ W1, W1 = w.alloc (.cells #[.slice q rs.length cq, .slice p lv.length cp, .int .i64 now] 36) := ⟨_, rfl⟩
  have HW1 : Hid (W1 = w.alloc (.cells #[.slice q rs.length cq, .slice p lv.length cp, .int .i64 now] 36)) := hW1
  have B1 : Hid (Below w.heap.size w W1) := by rw [hW1]; exact (Below.refl _ _).alloc (Nat.le_refl _) _
  have hWk := workOn_any p lv cp q rs cq now W1
  have HR : Hid (∀ x, Below W1.heap.size W1 x → Calls Tryz.prog 35 #[.agg #[.slice p lv.length cp, .slice q rs.length cq, .int .i64 now]] x fun e w' => e = .returned (.bool (lgB rs lv now)) ∧ Below x.heap.size x w') := fun x hb => right_any p lv cp q rs cq now x ((hT.to B1.out).to hb) ((hg.below B1.out).below hb) ((hA.below B1.out).below hb)
  unfold lgC wkC at hWk
  unfold lgC
  generalize lgB rs lv now = R at *
  clear hW1 hT hg hA
  go_enter Tryz.func15, Tryz.ntmps15
  go_wp2_with fail
  rw [← HW1.out]
  refine hWk.mono ?_
  rintro e y ⟨rfl, b2⟩
  have hR := HR.out y b2
  clear hWk HR
  go_wp2_with fail
  refine hR.mono ?_
  rintro e y3 ⟨rfl, b3⟩
  clear hR
  go_wp2_with fail
  go_ret
  exact ⟨rfl, chainB (chainB B1.out b2) b3⟩
end Go.Proofs.YtpijadhfdpihkaaGreatDoor
/-
  The specification's small parts of SHA-256: a number of 32 bits turned right ('turnR x k'), the keys of the rounds and the first state, each in new memory.
  Conditions: the number is from 0 to 2^32 - 1, k from 0 to 32.
-/
namespace Go.Proofs.YtpijadhfdpihkaaGreatDoor
open Go.RowKit Go.Lib
set_option linter.unusedVariables false

set_option maxHeartbeats 400000 in
theorem specTurn_any (x : Int) (k : Nat) (w : World) (h0 : 0 ≤ x) (h1 : x ≤ 4294967295) (hk : k ≤ 32) :
    Calls Tryz.prog 94 #[.int .u32 x, .int .u64 k] w fun e w' => e = .returned (.int .u32 (turnR x k)) ∧ w' = w := by
  go_enter Tryz.func94, Tryz.ntmps94
  go_wp2
  go_ret
  exact ⟨rfl, rfl⟩

theorem specTurn_c (x c : Int) (w : World) (h0 : 0 ≤ x) (h1 : x ≤ 4294967295) (c0 : 0 ≤ c) (c1 : c ≤ 32) :
    Calls Tryz.prog 94 #[.int .u32 x, .int .u64 c] w fun e w' => e = .returned (.int .u32 (turnR x c.toNat)) ∧ w' = w := by
  obtain ⟨k, rfl⟩ : ∃ k : Nat, c = k := ⟨c.toNat, by omega⟩
  exact specTurn_any x k w h0 h1 (by omega)

set_option maxHeartbeats 1000000 in
set_option maxRecDepth 20000 in
theorem specStart_any (w : World) :
    Calls Tryz.prog 79 #[] w fun e w' => e = .returned (.slice (some ⟨w.heap.size, 0, none⟩) 8 8) ∧ w' = w.alloc (.cells (startN.map (Value.int .i64)).toArray 2) := by
  go_enter Tryz.func79, Tryz.ntmps79
  go_wp2
  go_ret
  exact ⟨rfl, rfl⟩

set_option maxHeartbeats 4000000 in
set_option maxRecDepth 20000 in
theorem specKeys_any (w : World) :
    Calls Tryz.prog 95 #[] w fun e w' => e = .returned (.slice (some ⟨w.heap.size, 0, none⟩) 64 64) ∧ w' = w.alloc (.cells (keysN.map (Value.int .u32)).toArray 147) := by
  go_enter Tryz.func95, Tryz.ntmps95
  go_wp2
  go_ret
  exact ⟨rfl, rfl⟩
end Go.Proofs.YtpijadhfdpihkaaGreatDoor
