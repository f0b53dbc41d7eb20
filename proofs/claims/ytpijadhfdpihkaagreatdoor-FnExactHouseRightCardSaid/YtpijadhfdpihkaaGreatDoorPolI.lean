/-
  What the program's PolicyRight answers.
  Conditions: the cells of Rules and Held hold the rules and numbers.
-/
import Derived.Test.YtpijadhfdpihkaaGreatDoorRows
import Derived.Test.YtpijadhfdpihkaaGreatDoorBytesDigMath
import Derived.Test.YtpijadhfdpihkaaGreatDoorSlASlBBxKOwnS
import Derived.Test.YtpijadhfdpihkaaGreatDoorRwBlkBlNotRulMathIntKPolMathTakes
import Derived.Test.YtpijadhfdpihkaaGreatDoorNameRight
import Derived.Test.YtpijadhfdpihkaaGreatDoorRulICmpSCmpR
import Derived.Handy
import Derived.Laws.Cover1
import Derived.WalkSpells
import Derived.OwnWalk
import Derived.Deep.RegionHeld3
import Derived.Deep.RegionWith
import Derived.Deep.Cut
import Derived.Deep.CutRange
namespace Go.Proofs.YtpijadhfdpihkaaGreatDoor
open Go.RowKit Go.Lib
set_option linter.unusedVariables false
set_option maxRecDepth 20000

def rusB (rs : List Rul) : Bool := decide (rs.length ≤ 6) && okL ruB ruLt rs
theorem rusB_not_all {rs : List Rul} {i : Nat} (hi : i < rs.length) (h : ruB rs[i] = false) : rusB rs = false := by unfold rusB; rw [okL_not_all hi h]; simp
theorem rusB_not_rise {rs : List Rul} {i : Nat} (h0 : 0 < i) (hi : i < rs.length) (h : ruLt (rs[i - 1]'(by omega)) rs[i] = false) : rusB rs = false := by unfold rusB; rw [okL_not_rise h0 hi h]; simp
set_option maxHeartbeats 8000000 in
theorem rulesRight_any (p1 : Option Addr) (c1 : Nat) (rs : List Rul) (w : World) (hr : RulAt w p1 rs) (hn1 : rs.length ≤ 1048576) (hc1 : rs.length ≤ c1) (hz : RulsLe rs) :
    Calls Tryz.prog 36 #[.slice p1 rs.length c1] w fun e w' => e = .returned (.bool (rusB rs)) ∧ Below w.heap.size w w' := by
  have HT : Hid (RulAt w p1 rs) := hr
  clear hr
  by_cases h6 : 6 < rs.length
  · have d1 : decide (6 < (rs.length : Int)) = true := decide_eq_true (by omega)
    have HV : Hid (rusB rs = false) := by show _ = _; unfold rusB; rw [decide_eq_false (by omega)]; rfl
    rw [HV.out]
    go_enter Tryz.func36, Tryz.ntmps36
    go_wp2_with fail
    go_ret
    exact ⟨rfl, Below.refl _ _⟩
  have d1 : decide (6 < (rs.length : Int)) = false := decide_eq_false (by omega)
  go_enter Tryz.func36, Tryz.ntmps36
  go_wp2_with fail
  go_loopw [10] (fun i wr => ∃ k : Nat, k ≤ rs.length ∧ i = .int .i64 k ∧ Hid (Below w.heap.size w wr) ∧ Hid (∀ j (h : j < rs.length), j < k → ruB rs[j] = true) ∧ Hid (∀ j (h0 : 0 < j) (h : j < rs.length), j < k → ruLt (rs[j - 1]'(by omega)) rs[j] = true)) (fun i _ => rs.length - (Go.RowKit.intOf i).toNat)
  case atStart => exact ⟨0, Nat.zero_le _, rfl, Below.refl _ _, fun j h hk => by omega, fun j h0 h hk => by omega⟩
  case round =>
    obtain ⟨i, hi, rfl, HB, HF, HG⟩ := hrel
    by_cases hlt : i < rs.length
    · have i1 : (i : Int) < rs.length := by omega
      obtain ⟨b, off, rfl, hb0⟩ := HT.out.some_of (by omega)
      have hzi := hz _ (List.getElem_mem hlt)
      have HC : Hid (∀ x, Below wr.heap.size wr x → x.cell? ⟨b, off + i * 4, none⟩ = some (.string rs[i].k) ∧ x.cell? ⟨b, off + i * 4 + 1, none⟩ = some (.string rs[i].f) ∧ x.cell? ⟨b, off + i * 4 + 2, none⟩ = some (.int .i64 rs[i].l) ∧ x.cell? ⟨b, off + i * 4 + 3, none⟩ = some (.int .i64 rs[i].m)) := fun x hx => ((HT.out.below HB.out).below hx).at i hlt
      have HQ : Hid (∀ x, Calls Tryz.prog 54 #[.agg #[.string rs[i].k, .string rs[i].f, .int .i64 rs[i].l, .int .i64 rs[i].m]] x fun e w' => e = .returned (.bool (rulB rs[i].k rs[i].f rs[i].l rs[i].m)) ∧ Below x.heap.size x w') := fun x => ruleRight_any rs[i].k rs[i].f rs[i].l rs[i].m x hzi.1 hzi.2
      
      have HF1 : Hid (ruB rs[i] = true → ∀ j (h : j < rs.length), j < i + 1 → ruB rs[j] = true) := fun h0 j h hj => if he : j = i then by subst he; exact h0 else HF.out j h (by omega)
      have HN1 : Hid (ruB rs[i] = false → rusB rs = false) := fun h0 => rusB_not_all hlt h0
      have HE : Hid (ruB rs[i] = rulB rs[i].k rs[i].f rs[i].l rs[i].m) := rfl
      cases hfd : ruB rs[i] with
      | false =>
        have HV : Hid (rusB rs = false) := HN1.out hfd
        rw [← HE.out, hfd] at HQ
        generalize rs[i].k = fk at *
        generalize rs[i].f = ff at *
        generalize rs[i].l = fl at *
        generalize rs[i].m = fm at *
        clear HF1 HN1 HF HG hfd hzi HE
        obtain ⟨c0, c1, c2, c3⟩ := HC.out wr (Below.refl _ _)
        go_upto_region 6 with fail
        obtain ⟨y0, hy0⟩ : ∃ y0, y0 = wr.alloc (.cells #[.string fk, .string ff, .int .i64 fl, .int .i64 fm] 67) := ⟨_, rfl⟩
        rw [← hy0]
        have BY : Hid (Below wr.heap.size wr y0) := by rw [hy0]; exact (Below.refl _ _).alloc (Nat.le_refl _) _
        have KY : Hid (Bxs y0 wr.heap.size 67 #[.string fk, .string ff, .int .i64 fl, .int .i64 fm]) := by rw [hy0]; exact Bxs.new _ _ _
        have HY : Hid (∀ x, Below y0.heap.size y0 x → x.cell? ⟨wr.heap.size, 0, none⟩ = some (.string fk) ∧ x.cell? ⟨wr.heap.size, 1, none⟩ = some (.string ff) ∧ x.cell? ⟨wr.heap.size, 2, none⟩ = some (.int .i64 fl) ∧ x.cell? ⟨wr.heap.size, 3, none⟩ = some (.int .i64 fm)) := fun x hx => ⟨(KY.out.below hx).cell 0, (KY.out.below hx).cell 1, (KY.out.below hx).cell 2, (KY.out.below hx).cell 3⟩
        have BR : Hid (Below y0.heap.size y0 y0.drew) := (Below.refl _ _).drew
        clear hy0 c0 c1 c2 c3
        refine wp_region_held_drew (S := (fun w' => w'.cell? ⟨wr.heap.size, 0, none⟩ = some (Value.string fk) ∧ w'.cell? ⟨wr.heap.size, 1, none⟩ = some (.string ff) ∧ w'.cell? ⟨wr.heap.size, 2, none⟩ = some (.int .i64 fl) ∧ w'.cell? ⟨wr.heap.size, 3, none⟩ = some (.int .i64 fm))) (by kernel_rfl) (HY.out _ BR.out) (fun hHeld => ?_)
        refine take_at 0 (v := ?_) rfl (by kernel_rfl) (by kernel_rfl) (by kernel_rfl) (fun _ _ _ h => h) hHeld (Or.inl ⟨by rfl, ?_⟩) ?_
        rotate_left
        · (intro w hSw; (try dsimp only at hSw); go_simp; try with_reducible rfl)
        simp only [Act.put, List.setIfInBounds_toArray, List.set_cons_zero, List.set_cons_succ]
        refine ready_at 1 rfl (by kernel_rfl) (fun K hK => ?_)
        go_simp
        (go_at_call 54; with_reducible refine (HQ.out _).mono ?_; rintro e y1 ⟨rfl, z0⟩; have z1 : Below y0.heap.size y0 y1 := chainB BR.out z0)
        refine hK.out _ _ (HY.out _ z1) (fun hHeld => ?_)
        clear hK K
        try simp only [Act.put, List.setIfInBounds_toArray, List.set_cons_zero, List.set_cons_succ]
        refine take_at 2 (v := ?_) rfl (by kernel_rfl) (by kernel_rfl) (by kernel_rfl) (fun _ _ _ h => h) hHeld (Or.inl ⟨by rfl, ?_⟩) ?_
        rotate_left
        · (intro w hSw; (try dsimp only at hSw); go_simp; try with_reducible rfl)
        simp only [Act.put, List.setIfInBounds_toArray, List.set_cons_zero, List.set_cons_succ]
        refine take_at 3 (v := ?_) rfl (by kernel_rfl) (by kernel_rfl) (by kernel_rfl) (fun _ _ _ h => h) hHeld (Or.inl ⟨by rfl, ?_⟩) ?_
        rotate_left
        · (intro w hSw; (try dsimp only at hSw); go_simp; try with_reducible rfl)
        simp only [Act.put, List.setIfInBounds_toArray, List.set_cons_zero, List.set_cons_succ]
        refine take_at 4 (v := undef) rfl (by kernel_rfl) (by kernel_rfl) (by kernel_rfl) (fun _ _ _ h => h) hHeld (Or.inr ⟨by rfl, rfl⟩) ?_
        simp only [Act.put, List.setIfInBounds_toArray, List.set_cons_zero, List.set_cons_succ]
        refine take_at 5 (v := undef) rfl (by kernel_rfl) (by kernel_rfl) (by kernel_rfl) (fun _ _ _ h => h) hHeld (Or.inr ⟨by rfl, rfl⟩) ?_
        simp only [Act.put, List.setIfInBounds_toArray, List.set_cons_zero, List.set_cons_succ]
        refine take_at 6 (v := undef) rfl (by kernel_rfl) (by kernel_rfl) (by kernel_rfl) (fun _ _ _ h => h) hHeld (Or.inr ⟨by rfl, rfl⟩) ?_
        simp only [Act.put, List.setIfInBounds_toArray, List.set_cons_zero, List.set_cons_succ]
        refine take_at 7 (v := undef) rfl (by kernel_rfl) (by kernel_rfl) (by kernel_rfl) (fun _ _ _ h => h) hHeld (Or.inr ⟨by rfl, rfl⟩) ?_
        simp only [Act.put, List.setIfInBounds_toArray, List.set_cons_zero, List.set_cons_succ]
        refine take_at 8 (v := undef) rfl (by kernel_rfl) (by kernel_rfl) (by kernel_rfl) (fun _ _ _ h => h) hHeld (Or.inr ⟨by rfl, rfl⟩) ?_
        simp only [Act.put, List.setIfInBounds_toArray, List.set_cons_zero, List.set_cons_succ]
        refine take_at 9 (v := undef) rfl (by kernel_rfl) (by kernel_rfl) (by kernel_rfl) (fun _ _ _ h => h) hHeld (Or.inr ⟨by rfl, rfl⟩) ?_
        simp only [Act.put, List.setIfInBounds_toArray, List.set_cons_zero, List.set_cons_succ]
        refine take_at 10 (v := undef) rfl (by kernel_rfl) (by kernel_rfl) (by kernel_rfl) (fun _ _ _ h => h) hHeld (Or.inr ⟨by rfl, rfl⟩) ?_
        simp only [Act.put, List.setIfInBounds_toArray, List.set_cons_zero, List.set_cons_succ]
        refine take_at 11 (v := undef) rfl (by kernel_rfl) (by kernel_rfl) (by kernel_rfl) (fun _ _ _ h => h) hHeld (Or.inr ⟨by rfl, rfl⟩) ?_
        simp only [Act.put, List.setIfInBounds_toArray, List.set_cons_zero, List.set_cons_succ]
        refine take_at 12 (v := undef) rfl (by kernel_rfl) (by kernel_rfl) (by kernel_rfl) (fun _ _ _ h => h) hHeld (Or.inr ⟨by rfl, rfl⟩) ?_
        simp only [Act.put, List.setIfInBounds_toArray, List.set_cons_zero, List.set_cons_succ]
        refine take_at 13 (v := undef) rfl (by kernel_rfl) (by kernel_rfl) (by kernel_rfl) (fun _ _ _ h => h) hHeld (Or.inr ⟨by rfl, rfl⟩) ?_
        simp only [Act.put, List.setIfInBounds_toArray, List.set_cons_zero, List.set_cons_succ]
        refine take_at 14 (v := undef) rfl (by kernel_rfl) (by kernel_rfl) (by kernel_rfl) (fun _ _ _ h => h) hHeld (Or.inr ⟨by rfl, rfl⟩) ?_
        simp only [Act.put, List.setIfInBounds_toArray, List.set_cons_zero, List.set_cons_succ]
        refine take_at 15 (v := undef) rfl (by kernel_rfl) (by kernel_rfl) (by kernel_rfl) (fun _ _ _ h => h) hHeld (Or.inr ⟨by rfl, rfl⟩) ?_
        simp only [Act.put, List.setIfInBounds_toArray, List.set_cons_zero, List.set_cons_succ]
        refine take_at 16 (v := ?_) rfl (by kernel_rfl) (by kernel_rfl) (by kernel_rfl) (fun _ _ _ h => h) hHeld (Or.inl ⟨by rfl, ?_⟩) ?_
        rotate_left
        · (intro w hSw; (try dsimp only at hSw); go_simp; try with_reducible rfl)
        simp only [Act.put, List.setIfInBounds_toArray, List.set_cons_zero, List.set_cons_succ]
        refine wpAnyH_done (by kernel_rfl) ?_ _
        go_wp2_with fail
        go_ret
        exact ⟨ret_bool HV.out.symm, chainB HB.out (chainB BY.out z1)⟩
      | true =>
      have HF2 : Hid (∀ j (h : j < rs.length), j < i + 1 → ruB rs[j] = true) := HF1.out hfd
      rw [← HE.out, hfd] at HQ
      by_cases h0 : i = 0
      · have HG2 : Hid (∀ j (h0 : 0 < j) (h : j < rs.length), j < i + 1 → ruLt (rs[j - 1]'(by omega)) rs[j] = true) := fun j h1 h hj => by omega
        have hd0 : decide (0 < (i : Int)) = false := decide_eq_false (by omega)
        have hd0n : decide (0 < i) = false := decide_eq_false (by omega)
        generalize rs[i].k = fk at *
        generalize rs[i].f = ff at *
        generalize rs[i].l = fl at *
        generalize rs[i].m = fm at *
        clear HF1 HN1 HF HG hfd hzi h0 HE
        obtain ⟨c0, c1, c2, c3⟩ := HC.out wr (Below.refl _ _)
        go_upto_region 6 with fail
        obtain ⟨y0, hy0⟩ : ∃ y0, y0 = wr.alloc (.cells #[.string fk, .string ff, .int .i64 fl, .int .i64 fm] 67) := ⟨_, rfl⟩
        rw [← hy0]
        have BY : Hid (Below wr.heap.size wr y0) := by rw [hy0]; exact (Below.refl _ _).alloc (Nat.le_refl _) _
        have KY : Hid (Bxs y0 wr.heap.size 67 #[.string fk, .string ff, .int .i64 fl, .int .i64 fm]) := by rw [hy0]; exact Bxs.new _ _ _
        have HY : Hid (∀ x, Below y0.heap.size y0 x → x.cell? ⟨wr.heap.size, 0, none⟩ = some (.string fk) ∧ x.cell? ⟨wr.heap.size, 1, none⟩ = some (.string ff) ∧ x.cell? ⟨wr.heap.size, 2, none⟩ = some (.int .i64 fl) ∧ x.cell? ⟨wr.heap.size, 3, none⟩ = some (.int .i64 fm)) := fun x hx => ⟨(KY.out.below hx).cell 0, (KY.out.below hx).cell 1, (KY.out.below hx).cell 2, (KY.out.below hx).cell 3⟩
        have BR : Hid (Below y0.heap.size y0 y0.drew) := (Below.refl _ _).drew
        clear hy0 c0 c1 c2 c3
        refine wp_region_held_drew (S := (fun w' => w'.cell? ⟨wr.heap.size, 0, none⟩ = some (Value.string fk) ∧ w'.cell? ⟨wr.heap.size, 1, none⟩ = some (.string ff) ∧ w'.cell? ⟨wr.heap.size, 2, none⟩ = some (.int .i64 fl) ∧ w'.cell? ⟨wr.heap.size, 3, none⟩ = some (.int .i64 fm))) (by kernel_rfl) (HY.out _ BR.out) (fun hHeld => ?_)
        refine take_at 0 (v := ?_) rfl (by kernel_rfl) (by kernel_rfl) (by kernel_rfl) (fun _ _ _ h => h) hHeld (Or.inl ⟨by rfl, ?_⟩) ?_
        rotate_left
        · (intro w hSw; (try dsimp only at hSw); go_simp; try with_reducible rfl)
        simp only [Act.put, List.setIfInBounds_toArray, List.set_cons_zero, List.set_cons_succ]
        refine ready_at 1 rfl (by kernel_rfl) (fun K hK => ?_)
        go_simp
        (go_at_call 54; with_reducible refine (HQ.out _).mono ?_; rintro e y1 ⟨rfl, z0⟩; have z1 : Below y0.heap.size y0 y1 := chainB BR.out z0)
        refine hK.out _ _ (HY.out _ z1) (fun hHeld => ?_)
        clear hK K
        try simp only [Act.put, List.setIfInBounds_toArray, List.set_cons_zero, List.set_cons_succ]
        refine take_at 2 (v := ?_) rfl (by kernel_rfl) (by kernel_rfl) (by kernel_rfl) (fun _ _ _ h => h) hHeld (Or.inl ⟨by rfl, ?_⟩) ?_
        rotate_left
        · (intro w hSw; (try dsimp only at hSw); go_simp; try with_reducible rfl)
        simp only [Act.put, List.setIfInBounds_toArray, List.set_cons_zero, List.set_cons_succ]
        refine take_at 3 (v := ?_) rfl (by kernel_rfl) (by kernel_rfl) (by kernel_rfl) (fun _ _ _ h => h) hHeld (Or.inl ⟨by rfl, ?_⟩) ?_
        rotate_left
        · (intro w hSw; (try dsimp only at hSw); go_simp; try with_reducible rfl)
        simp only [Act.put, List.setIfInBounds_toArray, List.set_cons_zero, List.set_cons_succ]
        refine take_at 4 (v := ?_) rfl (by kernel_rfl) (by kernel_rfl) (by kernel_rfl) (fun _ _ _ h => h) hHeld (Or.inl ⟨by rfl, ?_⟩) ?_
        rotate_left
        · (intro w hSw; (try dsimp only at hSw); go_simp; try with_reducible rfl)
        simp only [Act.put, List.setIfInBounds_toArray, List.set_cons_zero, List.set_cons_succ]
        refine take_at 5 (v := ?_) rfl (by kernel_rfl) (by kernel_rfl) (by kernel_rfl) (fun _ _ _ h => h) hHeld (Or.inl ⟨by rfl, ?_⟩) ?_
        rotate_left
        · (intro w hSw; (try dsimp only at hSw); go_simp; try with_reducible rfl)
        simp only [Act.put, List.setIfInBounds_toArray, List.set_cons_zero, List.set_cons_succ]
        refine take_at 6 (v := ?_) rfl (by kernel_rfl) (by kernel_rfl) (by kernel_rfl) (fun _ _ _ h => h) hHeld (Or.inl ⟨by rfl, ?_⟩) ?_
        rotate_left
        · (intro w hSw; (try dsimp only at hSw); go_simp; try with_reducible rfl)
        simp only [Act.put, List.setIfInBounds_toArray, List.set_cons_zero, List.set_cons_succ]
        refine take_at 7 (v := undef) rfl (by kernel_rfl) (by kernel_rfl) (by kernel_rfl) (fun _ _ _ h => h) hHeld (Or.inr ⟨by rfl, rfl⟩) ?_
        simp only [Act.put, List.setIfInBounds_toArray, List.set_cons_zero, List.set_cons_succ]
        refine take_at 8 (v := undef) rfl (by kernel_rfl) (by kernel_rfl) (by kernel_rfl) (fun _ _ _ h => h) hHeld (Or.inr ⟨by rfl, rfl⟩) ?_
        simp only [Act.put, List.setIfInBounds_toArray, List.set_cons_zero, List.set_cons_succ]
        refine take_at 9 (v := undef) rfl (by kernel_rfl) (by kernel_rfl) (by kernel_rfl) (fun _ _ _ h => h) hHeld (Or.inr ⟨by rfl, rfl⟩) ?_
        simp only [Act.put, List.setIfInBounds_toArray, List.set_cons_zero, List.set_cons_succ]
        refine take_at 10 (v := undef) rfl (by kernel_rfl) (by kernel_rfl) (by kernel_rfl) (fun _ _ _ h => h) hHeld (Or.inr ⟨by rfl, rfl⟩) ?_
        simp only [Act.put, List.setIfInBounds_toArray, List.set_cons_zero, List.set_cons_succ]
        refine take_at 11 (v := undef) rfl (by kernel_rfl) (by kernel_rfl) (by kernel_rfl) (fun _ _ _ h => h) hHeld (Or.inr ⟨by rfl, rfl⟩) ?_
        simp only [Act.put, List.setIfInBounds_toArray, List.set_cons_zero, List.set_cons_succ]
        refine take_at 12 (v := undef) rfl (by kernel_rfl) (by kernel_rfl) (by kernel_rfl) (fun _ _ _ h => h) hHeld (Or.inr ⟨by rfl, rfl⟩) ?_
        simp only [Act.put, List.setIfInBounds_toArray, List.set_cons_zero, List.set_cons_succ]
        refine take_at 13 (v := undef) rfl (by kernel_rfl) (by kernel_rfl) (by kernel_rfl) (fun _ _ _ h => h) hHeld (Or.inr ⟨by rfl, rfl⟩) ?_
        simp only [Act.put, List.setIfInBounds_toArray, List.set_cons_zero, List.set_cons_succ]
        refine take_at 14 (v := undef) rfl (by kernel_rfl) (by kernel_rfl) (by kernel_rfl) (fun _ _ _ h => h) hHeld (Or.inr ⟨by rfl, rfl⟩) ?_
        simp only [Act.put, List.setIfInBounds_toArray, List.set_cons_zero, List.set_cons_succ]
        refine take_at 15 (v := ?_) rfl (by kernel_rfl) (by kernel_rfl) (by kernel_rfl) (fun _ _ _ h => h) hHeld (Or.inl ⟨by rfl, ?_⟩) ?_
        rotate_left
        · (intro w hSw; (try dsimp only at hSw); go_simp; try with_reducible rfl)
        simp only [Act.put, List.setIfInBounds_toArray, List.set_cons_zero, List.set_cons_succ]
        refine take_at 16 (v := ?_) rfl (by kernel_rfl) (by kernel_rfl) (by kernel_rfl) (fun _ _ _ h => h) hHeld (Or.inl ⟨by rfl, ?_⟩) ?_
        rotate_left
        · (intro w hSw; (try dsimp only at hSw); go_simp; try with_reducible rfl)
        simp only [Act.put, List.setIfInBounds_toArray, List.set_cons_zero, List.set_cons_succ]
        refine wpAnyH_done (by kernel_rfl) ?_ _
        have HB2 : Hid (Below w.heap.size w y1) := chainB HB.out (chainB BY.out z1)
        go_wp2_with fail
        go_roundw
        case rel => exact ⟨i + 1, by omega, by go_num, HB2, HF2, HG2⟩
        case measure => simp [Go.RowKit.intOf]; omega
      · have hd0 : decide (0 < (i : Int)) = true := decide_eq_true (by omega)
        have hd0n : decide (0 < i) = true := decide_eq_true (by omega)
        have HG1 : Hid (ruLt (rs[i - 1]'(by omega)) rs[i] = true → ∀ j (h0 : 0 < j) (h : j < rs.length), j < i + 1 → ruLt (rs[j - 1]'(by omega)) rs[j] = true) := fun h1 j h2 h hj => if he : j = i then by subst he; exact h1 else HG.out j h2 h (by omega)
        have HN2 : Hid (ruLt (rs[i - 1]'(by omega)) rs[i] = false → rusB rs = false) := fun h1 => rusB_not_rise (by omega) hlt h1
        obtain ⟨m, hm⟩ : ∃ m, i = m + 1 := ⟨i - 1, by omega⟩
        have him : m < rs.length := by omega
        have hwr : IntKind.i64.wrap ((i : Int) - 1) = (m : Int) := by rw [IntKind.wrap_i64]; omega
        have im1 : (m : Int) < rs.length := by omega
        have HG1 : Hid (ruLt rs[m] rs[i] = true → ∀ j (h0 : 0 < j) (h : j < rs.length), j < i + 1 → ruLt (rs[j - 1]'(by omega)) rs[j] = true) := fun h1 => HG1.out (by simpa only [hm, Nat.add_sub_cancel] using h1)
        have HN2 : Hid (ruLt rs[m] rs[i] = false → rusB rs = false) := fun h1 => HN2.out (by simpa only [hm, Nat.add_sub_cancel] using h1)
        have HCm : Hid (∀ x, Below wr.heap.size wr x → x.cell? ⟨b, off + m * 4, none⟩ = some (.string rs[m].k) ∧ x.cell? ⟨b, off + m * 4 + 1, none⟩ = some (.string rs[m].f) ∧ x.cell? ⟨b, off + m * 4 + 2, none⟩ = some (.int .i64 rs[m].l) ∧ x.cell? ⟨b, off + m * 4 + 3, none⟩ = some (.int .i64 rs[m].m)) := fun x hx => ((HT.out.below HB.out).below hx).at m him
        have HQL : Hid (∀ x, Calls Tryz.prog 55 #[.agg #[.string rs[m].k, .string rs[m].f, .int .i64 rs[m].l, .int .i64 rs[m].m], .agg #[.string rs[i].k, .string rs[i].f, .int .i64 rs[i].l, .int .i64 rs[i].m]] x fun e w' => e = .returned (.int .i64 (crI rs[m].k rs[m].f rs[i].k rs[i].f)) ∧ Below x.heap.size x w') := fun x => compareRules_any _ _ _ _ _ _ _ _ x
        have HL : Hid (ruLt rs[m] rs[i] = rlLess rs[m].k rs[m].f rs[i].k rs[i].f) := rfl
        cases hls : ruLt rs[m] rs[i] with
        | true =>
          have HG2 : Hid (∀ j (h0 : 0 < j) (h : j < rs.length), j < i + 1 → ruLt (rs[j - 1]'(by omega)) rs[j] = true) := HG1.out hls
          have hls2 : rlLess rs[m].k rs[m].f rs[i].k rs[i].f = true := hls
          have hci : decide (0 ≤ crI rs[m].k rs[m].f rs[i].k rs[i].f) = false := by rw [crI_less, hls2]; rfl
          generalize crI rs[m].k rs[m].f rs[i].k rs[i].f = cr at *
          generalize rs[m].k = gk at *
          generalize rs[m].f = gf at *
          generalize rs[m].l = gl at *
          generalize rs[m].m = gm at *
          generalize rs[i].k = fk at *
          generalize rs[i].f = ff at *
          generalize rs[i].l = fl at *
          generalize rs[i].m = fm at *
          clear HF1 HN1 HF HG hfd hzi h0 HE hls hls2 HL HG1 HN2 hm
          obtain ⟨c0, c1, c2, c3⟩ := HC.out wr (Below.refl _ _)
          go_upto_region 6 with fail
          obtain ⟨y0, hy0⟩ : ∃ y0, y0 = wr.alloc (.cells #[.string fk, .string ff, .int .i64 fl, .int .i64 fm] 67) := ⟨_, rfl⟩
          rw [← hy0]
          have BY : Hid (Below wr.heap.size wr y0) := by rw [hy0]; exact (Below.refl _ _).alloc (Nat.le_refl _) _
          have KY : Hid (Bxs y0 wr.heap.size 67 #[.string fk, .string ff, .int .i64 fl, .int .i64 fm]) := by rw [hy0]; exact Bxs.new _ _ _
          have HY : Hid (∀ x, Below y0.heap.size y0 x → x.cell? ⟨wr.heap.size, 0, none⟩ = some (.string fk) ∧ x.cell? ⟨wr.heap.size, 1, none⟩ = some (.string ff) ∧ x.cell? ⟨wr.heap.size, 2, none⟩ = some (.int .i64 fl) ∧ x.cell? ⟨wr.heap.size, 3, none⟩ = some (.int .i64 fm)) := fun x hx => ⟨(KY.out.below hx).cell 0, (KY.out.below hx).cell 1, (KY.out.below hx).cell 2, (KY.out.below hx).cell 3⟩
          have BR : Hid (Below y0.heap.size y0 y0.drew) := (Below.refl _ _).drew
          clear hy0 c0 c1 c2 c3
          refine wp_region_held_drew (S := (fun w' => (w'.cell? ⟨b, off + m * 4, none⟩ = some (Value.string gk) ∧ w'.cell? ⟨b, off + m * 4 + 1, none⟩ = some (.string gf) ∧ w'.cell? ⟨b, off + m * 4 + 2, none⟩ = some (.int .i64 gl) ∧ w'.cell? ⟨b, off + m * 4 + 3, none⟩ = some (.int .i64 gm)) ∧ w'.cell? ⟨wr.heap.size, 0, none⟩ = some (Value.string fk) ∧ w'.cell? ⟨wr.heap.size, 1, none⟩ = some (.string ff) ∧ w'.cell? ⟨wr.heap.size, 2, none⟩ = some (.int .i64 fl) ∧ w'.cell? ⟨wr.heap.size, 3, none⟩ = some (.int .i64 fm))) (by kernel_rfl) (⟨HCm.out _ (chainB BY.out BR.out), HY.out _ BR.out⟩) (fun hHeld => ?_)
          refine take_at 0 (v := ?_) rfl (by kernel_rfl) (by kernel_rfl) (by kernel_rfl) (fun _ _ _ h => h) hHeld (Or.inl ⟨by rfl, ?_⟩) ?_
          rotate_left
          · (intro w hSw; (try dsimp only at hSw); go_simp; try with_reducible rfl)
          simp only [Act.put, List.setIfInBounds_toArray, List.set_cons_zero, List.set_cons_succ]
          refine ready_at 1 rfl (by kernel_rfl) (fun K hK => ?_)
          go_simp
          (go_at_call 54; with_reducible refine (HQ.out _).mono ?_; rintro e y1 ⟨rfl, z0⟩; have z1 : Below y0.heap.size y0 y1 := chainB BR.out z0)
          refine hK.out _ _ (⟨HCm.out _ (chainB BY.out z1), HY.out _ z1⟩) (fun hHeld => ?_)
          clear hK K
          try simp only [Act.put, List.setIfInBounds_toArray, List.set_cons_zero, List.set_cons_succ]
          refine take_at 2 (v := ?_) rfl (by kernel_rfl) (by kernel_rfl) (by kernel_rfl) (fun _ _ _ h => h) hHeld (Or.inl ⟨by rfl, ?_⟩) ?_
          rotate_left
          · (intro w hSw; (try dsimp only at hSw); go_simp; try with_reducible rfl)
          simp only [Act.put, List.setIfInBounds_toArray, List.set_cons_zero, List.set_cons_succ]
          refine take_at 3 (v := ?_) rfl (by kernel_rfl) (by kernel_rfl) (by kernel_rfl) (fun _ _ _ h => h) hHeld (Or.inl ⟨by rfl, ?_⟩) ?_
          rotate_left
          · (intro w hSw; (try dsimp only at hSw); go_simp; try with_reducible rfl)
          simp only [Act.put, List.setIfInBounds_toArray, List.set_cons_zero, List.set_cons_succ]
          refine take_at 4 (v := ?_) rfl (by kernel_rfl) (by kernel_rfl) (by kernel_rfl) (fun _ _ _ h => h) hHeld (Or.inl ⟨by rfl, ?_⟩) ?_
          rotate_left
          · (intro w hSw; (try dsimp only at hSw); go_simp; try with_reducible rfl)
          simp only [Act.put, List.setIfInBounds_toArray, List.set_cons_zero, List.set_cons_succ]
          refine take_at 5 (v := ?_) rfl (by kernel_rfl) (by kernel_rfl) (by kernel_rfl) (fun _ _ _ h => h) hHeld (Or.inl ⟨by rfl, ?_⟩) ?_
          rotate_left
          · (intro w hSw; (try dsimp only at hSw); go_simp; try with_reducible rfl)
          simp only [Act.put, List.setIfInBounds_toArray, List.set_cons_zero, List.set_cons_succ]
          refine take_at 6 (v := ?_) rfl (by kernel_rfl) (by kernel_rfl) (by kernel_rfl) (fun _ _ _ h => h) hHeld (Or.inl ⟨by rfl, ?_⟩) ?_
          rotate_left
          · (intro w hSw; (try dsimp only at hSw); go_simp; try with_reducible rfl)
          simp only [Act.put, List.setIfInBounds_toArray, List.set_cons_zero, List.set_cons_succ]
          refine take_at 7 (v := ?_) rfl (by kernel_rfl) (by kernel_rfl) (by kernel_rfl) (fun _ _ _ h => h) hHeld (Or.inl ⟨by rfl, ?_⟩) ?_
          rotate_left
          · (intro w hSw; (try dsimp only at hSw); go_simp; try with_reducible rfl)
          simp only [Act.put, List.setIfInBounds_toArray, List.set_cons_zero, List.set_cons_succ]
          refine take_at 8 (v := ?_) rfl (by kernel_rfl) (by kernel_rfl) (by kernel_rfl) (fun _ _ _ h => h) hHeld (Or.inl ⟨by rfl, ?_⟩) ?_
          rotate_left
          · (intro w hSw; (try dsimp only at hSw); go_simp; try with_reducible rfl)
          simp only [Act.put, List.setIfInBounds_toArray, List.set_cons_zero, List.set_cons_succ]
          refine take_at 9 (v := ?_) rfl (by kernel_rfl) (by kernel_rfl) (by kernel_rfl) (fun _ _ _ h => h) hHeld (Or.inl ⟨by rfl, ?_⟩) ?_
          rotate_left
          · (intro w hSw; (try dsimp only at hSw); go_simp; try with_reducible rfl)
          simp only [Act.put, List.setIfInBounds_toArray, List.set_cons_zero, List.set_cons_succ]
          refine take_at 10 (v := ?_) rfl (by kernel_rfl) (by kernel_rfl) (by kernel_rfl) (fun _ _ _ h => h) hHeld (Or.inl ⟨by rfl, ?_⟩) ?_
          rotate_left
          · (intro w hSw; (try dsimp only at hSw); go_simp; try with_reducible rfl)
          simp only [Act.put, List.setIfInBounds_toArray, List.set_cons_zero, List.set_cons_succ]
          refine take_at 11 (v := ?_) rfl (by kernel_rfl) (by kernel_rfl) (by kernel_rfl) (fun _ _ _ h => h) hHeld (Or.inl ⟨by rfl, ?_⟩) ?_
          rotate_left
          · (intro w hSw; (try dsimp only at hSw); go_simp; try with_reducible rfl)
          simp only [Act.put, List.setIfInBounds_toArray, List.set_cons_zero, List.set_cons_succ]
          refine take_at 12 (v := ?_) rfl (by kernel_rfl) (by kernel_rfl) (by kernel_rfl) (fun _ _ _ h => h) hHeld (Or.inl ⟨by rfl, ?_⟩) ?_
          rotate_left
          · (intro w hSw; (try dsimp only at hSw); go_simp; try with_reducible rfl)
          simp only [Act.put, List.setIfInBounds_toArray, List.set_cons_zero, List.set_cons_succ]
          refine ready_at 13 rfl (by kernel_rfl) (fun K hK => ?_)
          go_simp
          (go_at_call 55; with_reducible refine (HQL.out _).mono ?_; rintro e y2 ⟨rfl, z3⟩; have z2 : Below y0.heap.size y0 y2 := chainB z1 z3)
          refine hK.out _ _ (⟨HCm.out _ (chainB BY.out z2), HY.out _ z2⟩) (fun hHeld => ?_)
          clear hK K
          try simp only [Act.put, List.setIfInBounds_toArray, List.set_cons_zero, List.set_cons_succ]
          refine take_at 14 (v := ?_) rfl (by kernel_rfl) (by kernel_rfl) (by kernel_rfl) (fun _ _ _ h => h) hHeld (Or.inl ⟨by rfl, ?_⟩) ?_
          rotate_left
          · (intro w hSw; (try dsimp only at hSw); go_simp; try with_reducible rfl)
          simp only [Act.put, List.setIfInBounds_toArray, List.set_cons_zero, List.set_cons_succ]
          refine take_at 15 (v := ?_) rfl (by kernel_rfl) (by kernel_rfl) (by kernel_rfl) (fun _ _ _ h => h) hHeld (Or.inl ⟨by rfl, ?_⟩) ?_
          rotate_left
          · (intro w hSw; (try dsimp only at hSw); go_simp; try with_reducible rfl)
          simp only [Act.put, List.setIfInBounds_toArray, List.set_cons_zero, List.set_cons_succ]
          refine take_at 16 (v := ?_) rfl (by kernel_rfl) (by kernel_rfl) (by kernel_rfl) (fun _ _ _ h => h) hHeld (Or.inl ⟨by rfl, ?_⟩) ?_
          rotate_left
          · (intro w hSw; (try dsimp only at hSw); go_simp; try with_reducible rfl)
          simp only [Act.put, List.setIfInBounds_toArray, List.set_cons_zero, List.set_cons_succ]
          refine wpAnyH_done (by kernel_rfl) ?_ _
          have HB2 : Hid (Below w.heap.size w y2) := chainB HB.out (chainB BY.out z2)
          go_wp2_with fail
          go_roundw
          case rel => exact ⟨i + 1, by omega, by go_num, HB2, HF2, HG2⟩
          case measure => simp [Go.RowKit.intOf]; omega
        | false =>
          have HV : Hid (rusB rs = false) := HN2.out hls
          have hls2 : rlLess rs[m].k rs[m].f rs[i].k rs[i].f = false := hls
          have hci : decide (0 ≤ crI rs[m].k rs[m].f rs[i].k rs[i].f) = true := by rw [crI_less, hls2]; rfl
          generalize crI rs[m].k rs[m].f rs[i].k rs[i].f = cr at *
          generalize rs[m].k = gk at *
          generalize rs[m].f = gf at *
          generalize rs[m].l = gl at *
          generalize rs[m].m = gm at *
          generalize rs[i].k = fk at *
          generalize rs[i].f = ff at *
          generalize rs[i].l = fl at *
          generalize rs[i].m = fm at *
          clear HF1 HN1 HF HG hfd hzi h0 HE hls hls2 HL HG1 HN2 hm
          obtain ⟨c0, c1, c2, c3⟩ := HC.out wr (Below.refl _ _)
          go_upto_region 6 with fail
          obtain ⟨y0, hy0⟩ : ∃ y0, y0 = wr.alloc (.cells #[.string fk, .string ff, .int .i64 fl, .int .i64 fm] 67) := ⟨_, rfl⟩
          rw [← hy0]
          have BY : Hid (Below wr.heap.size wr y0) := by rw [hy0]; exact (Below.refl _ _).alloc (Nat.le_refl _) _
          have KY : Hid (Bxs y0 wr.heap.size 67 #[.string fk, .string ff, .int .i64 fl, .int .i64 fm]) := by rw [hy0]; exact Bxs.new _ _ _
          have HY : Hid (∀ x, Below y0.heap.size y0 x → x.cell? ⟨wr.heap.size, 0, none⟩ = some (.string fk) ∧ x.cell? ⟨wr.heap.size, 1, none⟩ = some (.string ff) ∧ x.cell? ⟨wr.heap.size, 2, none⟩ = some (.int .i64 fl) ∧ x.cell? ⟨wr.heap.size, 3, none⟩ = some (.int .i64 fm)) := fun x hx => ⟨(KY.out.below hx).cell 0, (KY.out.below hx).cell 1, (KY.out.below hx).cell 2, (KY.out.below hx).cell 3⟩
          have BR : Hid (Below y0.heap.size y0 y0.drew) := (Below.refl _ _).drew
          clear hy0 c0 c1 c2 c3
          refine wp_region_held_drew (S := (fun w' => (w'.cell? ⟨b, off + m * 4, none⟩ = some (Value.string gk) ∧ w'.cell? ⟨b, off + m * 4 + 1, none⟩ = some (.string gf) ∧ w'.cell? ⟨b, off + m * 4 + 2, none⟩ = some (.int .i64 gl) ∧ w'.cell? ⟨b, off + m * 4 + 3, none⟩ = some (.int .i64 gm)) ∧ w'.cell? ⟨wr.heap.size, 0, none⟩ = some (Value.string fk) ∧ w'.cell? ⟨wr.heap.size, 1, none⟩ = some (.string ff) ∧ w'.cell? ⟨wr.heap.size, 2, none⟩ = some (.int .i64 fl) ∧ w'.cell? ⟨wr.heap.size, 3, none⟩ = some (.int .i64 fm))) (by kernel_rfl) (⟨HCm.out _ (chainB BY.out BR.out), HY.out _ BR.out⟩) (fun hHeld => ?_)
          refine take_at 0 (v := ?_) rfl (by kernel_rfl) (by kernel_rfl) (by kernel_rfl) (fun _ _ _ h => h) hHeld (Or.inl ⟨by rfl, ?_⟩) ?_
          rotate_left
          · (intro w hSw; (try dsimp only at hSw); go_simp; try with_reducible rfl)
          simp only [Act.put, List.setIfInBounds_toArray, List.set_cons_zero, List.set_cons_succ]
          refine ready_at 1 rfl (by kernel_rfl) (fun K hK => ?_)
          go_simp
          (go_at_call 54; with_reducible refine (HQ.out _).mono ?_; rintro e y1 ⟨rfl, z0⟩; have z1 : Below y0.heap.size y0 y1 := chainB BR.out z0)
          refine hK.out _ _ (⟨HCm.out _ (chainB BY.out z1), HY.out _ z1⟩) (fun hHeld => ?_)
          clear hK K
          try simp only [Act.put, List.setIfInBounds_toArray, List.set_cons_zero, List.set_cons_succ]
          refine take_at 2 (v := ?_) rfl (by kernel_rfl) (by kernel_rfl) (by kernel_rfl) (fun _ _ _ h => h) hHeld (Or.inl ⟨by rfl, ?_⟩) ?_
          rotate_left
          · (intro w hSw; (try dsimp only at hSw); go_simp; try with_reducible rfl)
          simp only [Act.put, List.setIfInBounds_toArray, List.set_cons_zero, List.set_cons_succ]
          refine take_at 3 (v := ?_) rfl (by kernel_rfl) (by kernel_rfl) (by kernel_rfl) (fun _ _ _ h => h) hHeld (Or.inl ⟨by rfl, ?_⟩) ?_
          rotate_left
          · (intro w hSw; (try dsimp only at hSw); go_simp; try with_reducible rfl)
          simp only [Act.put, List.setIfInBounds_toArray, List.set_cons_zero, List.set_cons_succ]
          refine take_at 4 (v := ?_) rfl (by kernel_rfl) (by kernel_rfl) (by kernel_rfl) (fun _ _ _ h => h) hHeld (Or.inl ⟨by rfl, ?_⟩) ?_
          rotate_left
          · (intro w hSw; (try dsimp only at hSw); go_simp; try with_reducible rfl)
          simp only [Act.put, List.setIfInBounds_toArray, List.set_cons_zero, List.set_cons_succ]
          refine take_at 5 (v := ?_) rfl (by kernel_rfl) (by kernel_rfl) (by kernel_rfl) (fun _ _ _ h => h) hHeld (Or.inl ⟨by rfl, ?_⟩) ?_
          rotate_left
          · (intro w hSw; (try dsimp only at hSw); go_simp; try with_reducible rfl)
          simp only [Act.put, List.setIfInBounds_toArray, List.set_cons_zero, List.set_cons_succ]
          refine take_at 6 (v := ?_) rfl (by kernel_rfl) (by kernel_rfl) (by kernel_rfl) (fun _ _ _ h => h) hHeld (Or.inl ⟨by rfl, ?_⟩) ?_
          rotate_left
          · (intro w hSw; (try dsimp only at hSw); go_simp; try with_reducible rfl)
          simp only [Act.put, List.setIfInBounds_toArray, List.set_cons_zero, List.set_cons_succ]
          refine take_at 7 (v := ?_) rfl (by kernel_rfl) (by kernel_rfl) (by kernel_rfl) (fun _ _ _ h => h) hHeld (Or.inl ⟨by rfl, ?_⟩) ?_
          rotate_left
          · (intro w hSw; (try dsimp only at hSw); go_simp; try with_reducible rfl)
          simp only [Act.put, List.setIfInBounds_toArray, List.set_cons_zero, List.set_cons_succ]
          refine take_at 8 (v := ?_) rfl (by kernel_rfl) (by kernel_rfl) (by kernel_rfl) (fun _ _ _ h => h) hHeld (Or.inl ⟨by rfl, ?_⟩) ?_
          rotate_left
          · (intro w hSw; (try dsimp only at hSw); go_simp; try with_reducible rfl)
          simp only [Act.put, List.setIfInBounds_toArray, List.set_cons_zero, List.set_cons_succ]
          refine take_at 9 (v := ?_) rfl (by kernel_rfl) (by kernel_rfl) (by kernel_rfl) (fun _ _ _ h => h) hHeld (Or.inl ⟨by rfl, ?_⟩) ?_
          rotate_left
          · (intro w hSw; (try dsimp only at hSw); go_simp; try with_reducible rfl)
          simp only [Act.put, List.setIfInBounds_toArray, List.set_cons_zero, List.set_cons_succ]
          refine take_at 10 (v := ?_) rfl (by kernel_rfl) (by kernel_rfl) (by kernel_rfl) (fun _ _ _ h => h) hHeld (Or.inl ⟨by rfl, ?_⟩) ?_
          rotate_left
          · (intro w hSw; (try dsimp only at hSw); go_simp; try with_reducible rfl)
          simp only [Act.put, List.setIfInBounds_toArray, List.set_cons_zero, List.set_cons_succ]
          refine take_at 11 (v := ?_) rfl (by kernel_rfl) (by kernel_rfl) (by kernel_rfl) (fun _ _ _ h => h) hHeld (Or.inl ⟨by rfl, ?_⟩) ?_
          rotate_left
          · (intro w hSw; (try dsimp only at hSw); go_simp; try with_reducible rfl)
          simp only [Act.put, List.setIfInBounds_toArray, List.set_cons_zero, List.set_cons_succ]
          refine take_at 12 (v := ?_) rfl (by kernel_rfl) (by kernel_rfl) (by kernel_rfl) (fun _ _ _ h => h) hHeld (Or.inl ⟨by rfl, ?_⟩) ?_
          rotate_left
          · (intro w hSw; (try dsimp only at hSw); go_simp; try with_reducible rfl)
          simp only [Act.put, List.setIfInBounds_toArray, List.set_cons_zero, List.set_cons_succ]
          refine ready_at 13 rfl (by kernel_rfl) (fun K hK => ?_)
          go_simp
          (go_at_call 55; with_reducible refine (HQL.out _).mono ?_; rintro e y2 ⟨rfl, z3⟩; have z2 : Below y0.heap.size y0 y2 := chainB z1 z3)
          refine hK.out _ _ (⟨HCm.out _ (chainB BY.out z2), HY.out _ z2⟩) (fun hHeld => ?_)
          clear hK K
          try simp only [Act.put, List.setIfInBounds_toArray, List.set_cons_zero, List.set_cons_succ]
          refine take_at 14 (v := ?_) rfl (by kernel_rfl) (by kernel_rfl) (by kernel_rfl) (fun _ _ _ h => h) hHeld (Or.inl ⟨by rfl, ?_⟩) ?_
          rotate_left
          · (intro w hSw; (try dsimp only at hSw); go_simp; try with_reducible rfl)
          simp only [Act.put, List.setIfInBounds_toArray, List.set_cons_zero, List.set_cons_succ]
          refine take_at 15 (v := ?_) rfl (by kernel_rfl) (by kernel_rfl) (by kernel_rfl) (fun _ _ _ h => h) hHeld (Or.inl ⟨by rfl, ?_⟩) ?_
          rotate_left
          · (intro w hSw; (try dsimp only at hSw); go_simp; try with_reducible rfl)
          simp only [Act.put, List.setIfInBounds_toArray, List.set_cons_zero, List.set_cons_succ]
          refine take_at 16 (v := ?_) rfl (by kernel_rfl) (by kernel_rfl) (by kernel_rfl) (fun _ _ _ h => h) hHeld (Or.inl ⟨by rfl, ?_⟩) ?_
          rotate_left
          · (intro w hSw; (try dsimp only at hSw); go_simp; try with_reducible rfl)
          simp only [Act.put, List.setIfInBounds_toArray, List.set_cons_zero, List.set_cons_succ]
          refine wpAnyH_done (by kernel_rfl) ?_ _
          go_wp2_with fail
          go_ret
          exact ⟨ret_bool HV.out.symm, chainB HB.out (chainB BY.out z2)⟩
    · have HV : Hid (rusB rs = true) := by show _ = _; unfold rusB; rw [okL_true (fun j h => HF.out j h (by omega)) (fun j h0 h => HG.out j h0 h (by omega)), decide_eq_true (by omega)]; rfl
      obtain rfl : i = rs.length := by omega
      clear HF HG
      go_wp2_with fail
      go_ret
      exact ⟨ret_bool HV.out.symm, HB.out⟩
set_option maxHeartbeats 2000000 in
theorem heldRight_any (p2 : Option Addr) (c2 : Nat) (hs : List Int) (w : World) (hh : IntAt w p2 hs) (hn2 : hs.length ≤ 1048576) (hc2 : hs.length ≤ c2) :
    Calls Tryz.prog 37 #[.slice p2 hs.length c2] w fun e w' => e = .returned (.bool (okL heB heLt hs)) ∧ Below w.heap.size w w' := by
  have HI : Hid (IntAt w p2 hs) := hh
  clear hh
  go_enter Tryz.func37, Tryz.ntmps37
  go_wp2_with fail
  go_loopw [7] (fun i wr => ∃ k : Nat, k ≤ hs.length ∧ i = .int .i64 k ∧ Hid (Below w.heap.size w wr) ∧ Hid (∀ j (h : j < hs.length), j < k → heB hs[j] = true) ∧ Hid (∀ j (h0 : 0 < j) (h : j < hs.length), j < k → heLt (hs[j - 1]'(by omega)) hs[j] = true)) (fun i _ => hs.length - (Go.RowKit.intOf i).toNat)
  case atStart => exact ⟨0, Nat.zero_le _, rfl, Below.refl _ _, fun j h hk => by omega, fun j h0 h hk => by omega⟩
  case round =>
    obtain ⟨i, hi, rfl, HB, HF, HG⟩ := hrel
    by_cases hlt : i < hs.length
    · have i1 : (i : Int) < hs.length := by omega
      obtain ⟨d, of2, rfl, hb0⟩ := HI.out.some_of (by omega)
      have hc := (HI.out.below HB.out).at i hlt
      have HQ : Hid (∀ x, Calls Tryz.prog 56 #[.int .i64 hs[i]] x fun e w' => e = .returned (.bool (heB hs[i])) ∧ w' = x) := fun x => heldRowRight_any hs[i] x
      have HF1 : Hid (heB hs[i] = true → ∀ j (h : j < hs.length), j < i + 1 → heB hs[j] = true) := fun h0 j h hj => if he : j = i then by subst he; exact h0 else HF.out j h (by omega)
      have HN1 : Hid (heB hs[i] = false → okL heB heLt hs = false) := fun h0 => okL_not_all hlt h0
      cases hfd : heB hs[i] with
      | false =>
        have HV : Hid (okL heB heLt hs = false) := HN1.out hfd
        rw [hfd] at HQ
        generalize hs[i] = fx at *
        clear HF1 HN1 HF HG hfd
        go_wp2_with fail
        refine (HQ.out wr).mono ?_
        rintro e y1 ⟨rfl, rfl⟩
        go_wp2_with fail
        go_ret
        exact ⟨ret_bool HV.out.symm, HB.out⟩
      | true =>
      have HF2 : Hid (∀ j (h : j < hs.length), j < i + 1 → heB hs[j] = true) := HF1.out hfd
      rw [hfd] at HQ
      by_cases h0 : i = 0
      · have HG2 : Hid (∀ j (h0 : 0 < j) (h : j < hs.length), j < i + 1 → heLt (hs[j - 1]'(by omega)) hs[j] = true) := fun j h1 h hj => by omega
        have hd0 : decide (0 < (i : Int)) = false := decide_eq_false (by omega)
        have hd0n : decide (0 < i) = false := decide_eq_false (by omega)
        generalize hs[i] = fx at *
        clear HF1 HN1 HF HG hfd h0
        go_wp2_with fail
        refine (HQ.out wr).mono ?_
        rintro e y1 ⟨rfl, rfl⟩
        go_wp2_with fail
        go_roundw
        case rel => exact ⟨i + 1, by omega, by go_num, HB, HF2, HG2⟩
        case measure => simp [Go.RowKit.intOf]; omega
      · have hd0 : decide (0 < (i : Int)) = true := decide_eq_true (by omega)
        have hd0n : decide (0 < i) = true := decide_eq_true (by omega)
        have HG1 : Hid (heLt (hs[i - 1]'(by omega)) hs[i] = true → ∀ j (h0 : 0 < j) (h : j < hs.length), j < i + 1 → heLt (hs[j - 1]'(by omega)) hs[j] = true) := fun h1 j h2 h hj => if he : j = i then by subst he; exact h1 else HG.out j h2 h (by omega)
        have HN2 : Hid (heLt (hs[i - 1]'(by omega)) hs[i] = false → okL heB heLt hs = false) := fun h1 => okL_not_rise (by omega) hlt h1
        obtain ⟨m, hm⟩ : ∃ m, i = m + 1 := ⟨i - 1, by omega⟩
        have him : m < hs.length := by omega
        have hwr : IntKind.i64.wrap ((i : Int) - 1) = (m : Int) := by rw [IntKind.wrap_i64]; omega
        have im1 : (m : Int) < hs.length := by omega
        have HG1 : Hid (heLt hs[m] hs[i] = true → ∀ j (h0 : 0 < j) (h : j < hs.length), j < i + 1 → heLt (hs[j - 1]'(by omega)) hs[j] = true) := fun h1 => HG1.out (by simpa only [hm, Nat.add_sub_cancel] using h1)
        have HN2 : Hid (heLt hs[m] hs[i] = false → okL heB heLt hs = false) := fun h1 => HN2.out (by simpa only [hm, Nat.add_sub_cancel] using h1)
        have hcm := (HI.out.below HB.out).at m him
        cases hls : heLt hs[m] hs[i] with
        | true =>
          have HG2 : Hid (∀ j (h0 : 0 < j) (h : j < hs.length), j < i + 1 → heLt (hs[j - 1]'(by omega)) hs[j] = true) := HG1.out hls
          have q1 : hs[m] < hs[i] := by simpa [heLt] using hls
          generalize hs[m] = gx at *
          generalize hs[i] = fx at *
          have dq : decide (fx ≤ gx) = false := decide_eq_false (by omega)
          clear HF1 HN1 HF HG hfd h0 hls HG1 HN2 hm q1
          go_wp2_with fail
          refine (HQ.out wr).mono ?_
          rintro e y1 ⟨rfl, rfl⟩
          go_wp2_with fail
          go_roundw
          case rel => exact ⟨i + 1, by omega, by go_num, HB, HF2, HG2⟩
          case measure => simp [Go.RowKit.intOf]; omega
        | false =>
          have HV : Hid (okL heB heLt hs = false) := HN2.out hls
          have q1 : ¬ hs[m] < hs[i] := by simpa [heLt] using hls
          generalize hs[m] = gx at *
          generalize hs[i] = fx at *
          have dq : decide (fx ≤ gx) = true := decide_eq_true (by omega)
          clear HF1 HN1 HF HG hfd h0 hls HG1 HN2 hm q1
          go_wp2_with fail
          refine (HQ.out wr).mono ?_
          rintro e y1 ⟨rfl, rfl⟩
          go_wp2_with fail
          go_ret
          exact ⟨ret_bool HV.out.symm, HB.out⟩
    · have HV : Hid (okL heB heLt hs = true) := okL_true (fun j h => HF.out j h (by omega)) (fun j h0 h => HG.out j h0 h (by omega))
      obtain rfl : i = hs.length := by omega
      clear HF HG
      go_wp2_with fail
      go_ret
      exact ⟨ret_bool HV.out.symm, HB.out⟩
set_option maxHeartbeats 2000000 in
theorem implPolicyRight_any (p1 p2 : Option Addr) (c1 c2 : Nat) (rs : List Rul) (hs : List Int) (w : World) (hr : RulAt w p1 rs) (hh : IntAt w p2 hs) (hn1 : rs.length ≤ 1048576) (hn2 : hs.length ≤ 1048576) (hc1 : rs.length ≤ c1) (hc2 : hs.length ≤ c2) (hz : RulsLe rs) :
    Calls Tryz.prog 16 #[.agg #[.slice p1 rs.length c1, .slice p2 hs.length c2]] w fun e w' => e = .returned (.bool (polB rs hs)) ∧ Below w.heap.size w w' := by
  obtain ⟨W1, hW1⟩ : ∃ W1, W1 = w.alloc (.cells #[.slice p1 rs.length c1, .slice p2 hs.length c2] 39) := ⟨_, rfl⟩
  have HW1 : Hid (W1 = w.alloc (.cells #[.slice p1 rs.length c1, .slice p2 hs.length c2] 39)) := hW1
  have B1 : Hid (Below w.heap.size w W1) := by rw [hW1]; exact (Below.refl _ _).alloc (Nat.le_refl _) _
  have K1 : Bxs W1 w.heap.size 39 #[.slice p1 rs.length c1, .slice p2 hs.length c2] := by rw [hW1]; exact Bxs.new _ _ _
  have h1 := rulesRight_any p1 c1 rs W1 (hr.below B1.out) hn1 hc1 hz
  have HQ2 : Hid (∀ x, Below W1.heap.size W1 x → Calls Tryz.prog 37 #[.slice p2 hs.length c2] x fun e w' => e = .returned (.bool (okL heB heLt hs)) ∧ Below x.heap.size x w') := fun x hx => heldRight_any p2 c2 hs x ((hh.below B1.out).below hx) hn2 hc2
  have x0 : W1.cell? ⟨w.heap.size, 0, none⟩ = some (.slice p1 rs.length c1) := K1.cell 0
  have y0 := x0
  rw [hW1] at y0
  have HX : Hid (∀ x, Below W1.heap.size W1 x → x.cell? ⟨w.heap.size, 1, none⟩ = some (.slice p2 hs.length c2)) := fun x hb => (K1.below hb).cell 1
  have HR : Hid (polB rs hs = (rusB rs && okL heB heLt hs)) := by show _ = _; unfold polB rusB; rw [Bool.and_assoc]
  rw [HR.out]
  clear hW1 hr hh hz K1 HR
  generalize rusB rs = b1 at *
  generalize okL heB heLt hs = b2 at *
  cases b1 with
  | false =>
    go_enter Tryz.func16, Tryz.ntmps16
    go_wp2_with fail
    rw [← HW1.out]
    refine h1.mono ?_
    rintro e w1 ⟨rfl, z1⟩
    go_wp2_with fail
    go_ret
    exact ⟨rfl, chainB B1.out z1⟩
  | true =>
    go_enter Tryz.func16, Tryz.ntmps16
    go_wp2_with fail
    rw [← HW1.out]
    refine h1.mono ?_
    rintro e w1 ⟨rfl, z1⟩
    have x1 := HX.out w1 z1
    go_wp2_with fail
    refine (HQ2.out w1 z1).mono ?_
    rintro e w2 ⟨rfl, z2⟩
    go_wp2_with fail
    go_ret
    exact ⟨rfl, chainB B1.out (chainB z1 z2)⟩
end Go.Proofs.YtpijadhfdpihkaaGreatDoor
