/-
  Parts of one proof, laid as one text: LogRI, Copied; what each says stands at its head.
-/
import Derived.Test.YthfecjjahoflcaaGreatDoorRows
import Derived.Test.YthfecjjahoflcaaGreatDoorBytesDigMathTreeMath
import Derived.Test.YthfecjjahoflcaaGreatDoorSlASlBBxKOwnSTakesLTillTwo
import Derived.Test.YthfecjjahoflcaaGreatDoorImplFkAsDAs2CodeOf
import Derived.Test.YthfecjjahoflcaaGreatDoorPadIDigIDigAllTimeIImplFC
import Derived.Test.YthfecjjahoflcaaGreatDoorJoinedPutTextFldMathFldGShwK
import Derived.Test.YthfecjjahoflcaaGreatDoorLgMathLgAtKRwBlkLawF
import Derived.Test.YthfecjjahoflcaaGreatDoorImplLg
import Derived.Test.YthfecjjahoflcaaGreatDoorLeavesI
import Derived.Handy
import Derived.WalkSpells
import Derived.OwnWalk
import Derived.Deep.AppendLies
/-
  Whether a log is right, as the program answers.
  Conditions: the cells of Rows and Leaves hold the rows and leaves; the tables of the digest and errors.errorType are laid.
-/
namespace Go.Proofs.YthfecjjahoflcaaGreatDoor
open Go.RowKit Go.Lib
set_option linter.unusedVariables false
set_option maxRecDepth 20000

theorem im_parts (rs : List Rw) (lv : List ByteArray) (now : Int) : lgB rs lv now = (timeB now && ((decide (rs.length ≤ 6) && rsB rs now) && lvOk rs now lv)) := by rw [lg_eq]; rfl
theorem rs_all {rs : List Rw} {now : Int} (h : rsB rs now = true) : ∀ r ∈ rs, rB r = true := fun r hr => by
  unfold rsB at h
  rw [List.all_eq_true] at h
  exact (Bool.and_eq_true_iff.1 (h r hr)).1
set_option maxHeartbeats 2000000 in
theorem right_any (p : Option Addr) (lv : List ByteArray) (cp : Nat) (q : Option Addr) (rs : List Rw) (cq : Nat) (now : Int) (w : World) (hT : Tabs w) (hg : Laid w) (hA : LgAt p lv cp q rs cq w) :
    Calls Tryz.prog 64 #[.agg (wkC p lv cp q rs cq now)] w fun e w' => e = .returned (.bool (lgB rs lv now)) ∧ Below w.heap.size w w' := by
  obtain ⟨W1, hW1⟩ : ∃ W1, W1 = w.alloc (.cells #[.slice p lv.length cp, .slice q rs.length cq, .int .i64 now] 75) := ⟨_, rfl⟩
  have HW1 : Hid (W1 = w.alloc (.cells #[.slice p lv.length cp, .slice q rs.length cq, .int .i64 now] 75)) := hW1
  have K1 : Hid (Bxs W1 w.heap.size 75 #[.slice p lv.length cp, .slice q rs.length cq, .int .i64 now]) := by rw [hW1]; exact Bxs.new _ _ _
  have B1 : Hid (Below w.heap.size w W1) := by rw [hW1]; exact (Below.refl _ _).alloc (Nat.le_refl _) _
  have HA1 : Hid (LgAt p lv cp q rs cq W1) := hA.below B1.out
  have HT1 : Hid (Tabs W1) := hT.to B1.out
  have HG1 : Hid (Laid W1) := hg.below B1.out
  have hTi := timeRight_any now W1
  have hRR := rowsRight_any p lv cp q rs cq now W1 HT1.out HA1.out.rw HA1.out.rn HA1.out.rc HA1.out.rz
  have HLR : Hid (∀ x, Below W1.heap.size W1 x → rs.length ≤ 6 → rsB rs now = true → Calls Tryz.prog 88 #[.agg #[.slice p lv.length cp, .slice q rs.length cq, .int .i64 now]] x fun e w' => e = .returned (.bool (lvOk rs now lv)) ∧ Below x.heap.size x w') := fun x hb h6 hr => leavesRight_any p lv cp q rs cq now x (HT1.out.to hb) (HG1.out.below hb) (HA1.out.tx.below hb) hA.ln hA.lc hA.lz (HA1.out.rw.below hb) hA.rc (rs_all hr) hA.rz h6
  have HE : Hid (lgB rs lv now = (timeB now && ((decide (rs.length ≤ 6) && rsB rs now) && lvOk rs now lv))) := im_parts rs lv now
  rw [HE.out]
  unfold wkC at hRR ⊢
  obtain ⟨x0, x1, x2⟩ := K1.out.three
  rw [HW1.out] at x0 x1 x2
  clear hW1 hT hg hA HT1 HG1 HA1 HE
  cases ht : timeB now with
  | false =>
    rw [ht] at hTi
    clear hRR HLR
    go_enter Tryz.func64, Tryz.ntmps64
    go_wp2_with fail
    rw [← HW1.out]
    refine hTi.mono ?_
    rintro e y ⟨rfl, rfl⟩
    go_wp2_with fail
    go_ret
    exact ⟨rfl, B1.out⟩
  | true =>
    rw [ht] at hTi
    cases hr : (decide (rs.length ≤ 6) && rsB rs now) with
    | false =>
      rw [hr] at hRR
      clear HLR
      go_enter Tryz.func64, Tryz.ntmps64
      go_wp2_with fail
      rw [← HW1.out]
      refine hTi.mono ?_
      rintro e y ⟨rfl, rfl⟩
      rw [← HW1.out] at x0 x1 x2
      go_wp2_with fail
      refine hRR.mono ?_
      rintro e y2 ⟨rfl, b2⟩
      go_wp2_with fail
      go_ret
      exact ⟨rfl, chainB B1.out b2⟩
    | true =>
      rw [hr] at hRR
      obtain ⟨h6, hrs⟩ := Bool.and_eq_true_iff.1 hr
      have HLR2 : Hid (∀ x, Below W1.heap.size W1 x → Calls Tryz.prog 88 #[.agg #[.slice p lv.length cp, .slice q rs.length cq, .int .i64 now]] x fun e w' => e = .returned (.bool (lvOk rs now lv)) ∧ Below x.heap.size x w') := fun x hb => HLR.out x hb (of_decide_eq_true h6) hrs
      clear HLR h6 hrs hr
      generalize lvOk rs now lv = R at *
      go_enter Tryz.func64, Tryz.ntmps64
      go_wp2_with fail
      rw [← HW1.out]
      refine hTi.mono ?_
      rintro e y ⟨rfl, rfl⟩
      rw [← HW1.out] at x0 x1 x2
      go_wp2_with fail
      refine hRR.mono ?_
      rintro e y2 ⟨rfl, b2⟩
      have hL := HLR2.out y2 b2
      clear x0 x1 x2 hRR hTi HLR2
      obtain ⟨x0, x1, x2⟩ := (K1.out.below b2).three
      go_wp2_with fail
      refine hL.mono ?_
      rintro e y3 ⟨rfl, b3⟩
      clear hL
      go_wp2_with fail
      go_ret
      exact ⟨rfl, chainB (chainB B1.out b2) b3⟩
set_option maxHeartbeats 1000000 in
theorem implLogRight_any (p : Option Addr) (lv : List ByteArray) (cp : Nat) (q : Option Addr) (rs : List Rw) (cq : Nat) (now : Int) (w : World) (hT : Tabs w) (hg : Laid w) (hA : LgAt p lv cp q rs cq w) :
    Calls Tryz.prog 33 #[.agg (lgC p lv cp q rs cq now)] w fun e w' => e = .returned (.bool (lgB rs lv now)) ∧ Below w.heap.size w w' := by
  obtain ⟨W1, hW1⟩ : ∃ W1, W1 = w.alloc (.cells #[.slice q rs.length cq, .slice p lv.length cp, .int .i64 now] 33) := ⟨_, rfl⟩
  have HW1 : Hid (W1 = w.alloc (.cells #[.slice q rs.length cq, .slice p lv.length cp, .int .i64 now] 33)) := hW1
  have B1 : Hid (Below w.heap.size w W1) := by rw [hW1]; exact (Below.refl _ _).alloc (Nat.le_refl _) _
  have hWk := workOn_any p lv cp q rs cq now W1
  have HR : Hid (∀ x, Below W1.heap.size W1 x → Calls Tryz.prog 64 #[.agg #[.slice p lv.length cp, .slice q rs.length cq, .int .i64 now]] x fun e w' => e = .returned (.bool (lgB rs lv now)) ∧ Below x.heap.size x w') := fun x hb => right_any p lv cp q rs cq now x ((hT.to B1.out).to hb) ((hg.below B1.out).below hb) ((hA.below B1.out).below hb)
  unfold lgC wkC at hWk
  unfold lgC
  generalize lgB rs lv now = R at *
  clear hW1 hT hg hA
  go_enter Tryz.func33, Tryz.ntmps33
  go_wp2_with fail
  rw [← HW1.out]
  refine hWk.mono ?_
  rintro e y ⟨rfl, b2⟩
  have hR := HR.out y b2
  clear hWk HR
  go_wp2_with fail
  refine hR.mono ?_
  rintro e y3 ⟨rfl, b3⟩
  clear hR
  go_wp2_with fail
  go_ret
  exact ⟨rfl, chainB (chainB B1.out b2) b3⟩
end Go.Proofs.YthfecjjahoflcaaGreatDoor
/-
  The program's copied: the same texts, in new memory of their own.
  Conditions: the slice's cells hold the texts, each of at most 2^20 bytes, at most 2^20 of them.
-/
namespace Go.Proofs.YthfecjjahoflcaaGreatDoor
open Go.RowKit Go.Lib
set_option linter.unusedVariables false
set_option maxRecDepth 20000

set_option maxHeartbeats 1000000 in
theorem copied_any (p : Option Addr) (cap : Nat) (ss : List ByteArray) (w : World) (hp : TxtAt w p ss) (hn : ss.length ≤ 1048576) (hcap : ss.length ≤ cap) (hs : ∀ x ∈ ss, x.size ≤ 1048576) :
    Calls Tryz.prog 68 #[.slice p ss.length cap] w fun e w' => ∃ v, e = .returned v ∧ w'.ownsRow w.heap.size 9 1 v ss.length (strRow ss) ∧ Below w.heap.size w w' := by
  have HP : Hid (TxtAt w p ss) := hp
  have HS : Hid (∀ x ∈ ss, x.size ≤ 1048576) := hs
  clear hp hs
  obtain ⟨i0, hi, hz0, hz1, hz2⟩ := info_parts infoStr
  go_enter Tryz.func68, Tryz.ntmps68
  go_wp2
  go_loopw [8, 3] (fun i v wr => ∃ k : Nat, k ≤ ss.length ∧ i = .int .i64 k ∧ Hid (wr.ownsRow w.heap.size 9 1 v k (strRow (ss.take k))) ∧ Hid (Below w.heap.size w wr)) (fun i _ _ => ss.length - (intOf i).toNat)
  case atStart => exact ⟨0, Nat.zero_le _, rfl, World.ownsRow_nil _ _ _ _, Below.refl _ _⟩
  case round =>
    obtain ⟨k, hk, rfl, hown, hB⟩ := hrel
    have hsz := hB.out.size
    by_cases hlt : k < ss.length
    · obtain ⟨b, off, rfl, hb, hck⟩ := HP.out k hlt
      have hc1 : wr.cell? ⟨b, off + k, none⟩ = some (.string ss[k]) := (hB.out.cell (p := ⟨b, off + k, none⟩) hb).trans hck
      have hx := HS.out ss[k] (List.getElem_mem hlt)
      have HT : Hid (strRow (ss.take (k + 1)) = strRow (ss.take k) ++ [.string ss[k]]) := by show _ = _; unfold strRow; rw [List.take_succ_eq_append_getElem hlt, List.map_append]; rfl
      have hj := joined_one ss[k] wr (by omega)
      clear hck
      generalize ss[k] = q at *
      go_wp2_with fail
      refine hj.mono ?_
      rintro e w2 ⟨rfl, b2⟩
      have own2 := ownS_below hown.out b2
      have hB2 := chainB hB.out b2
      have hs2 := hB2.size
      go_wp2_with (at_builtin; refine wpList_append_lies _ rfl _ _ 23 rfl w.heap.size 9 i0 (.string ByteArray.empty) 1 16 Tryz.underlying23 hi hz0 hz1 hz2 rfl (by omega) _ k (strRow (ss.take k)) rfl (own2.alloc _) ⟨w2.heap.size, 0, none⟩ 1 1 [.string q] rfl rfl (World.news_of_block (cs := #[.string q]) (t := 9) (fr := (0, 0)) (MapKept.heap_alloc w2 _).1) (by simp [Value.oneCell']) (by omega) (by unfold maxLen; omega) (by omega) (by simp; omega) (w2.heap.size + 1) (by simp) ?_; intro g2 cap2 w3 hown3 hgrow hat hltg)
      have HO3 : Hid (w3.ownsRow w.heap.size 9 1 (.slice (some ⟨g2, 0, none⟩) (k + 1) cap2) (k + 1) (strRow (ss.take (k + 1)))) := by
        show World.ownsRow _ _ _ _ _ _ _
        rw [HT.out]; exact hown3
      have HB3 : Hid (Below w.heap.size w w3) := (hB2.alloc hB2.size _).grown hgrow (by simp; omega) (fun j hj => (own2.lt j hj).1)
      clear hown3 own2
      go_roundw
      case rel => exact ⟨k + 1, by omega, by go_num, HO3, HB3⟩
      case measure => simp [intOf]; omega
    · obtain rfl : k = ss.length := by omega
      have HO3 : Hid (wr.ownsRow w.heap.size 9 1 u3 ss.length (strRow ss)) := by
        have := hown.out; rwa [List.take_length] at this
      go_wp2
      go_ret
      exact ⟨_, rfl, HO3.out, hB.out⟩
end Go.Proofs.YthfecjjahoflcaaGreatDoor
