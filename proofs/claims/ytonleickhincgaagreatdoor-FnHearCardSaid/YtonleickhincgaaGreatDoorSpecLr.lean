/-
  Whether a log is right, as the specification answers.
  Conditions: the cells hold the rows and leaves.
-/
import Derived.Test.YtonleickhincgaaGreatDoorRows
import Derived.Test.YtonleickhincgaaGreatDoorBytesDigMath
import Derived.Test.YtonleickhincgaaGreatDoorTreeMathSlABxKSlBOwnS
import Derived.Test.YtonleickhincgaaGreatDoorLgLawTakesTakesLPutterPathI
import Derived.Test.YtonleickhincgaaGreatDoorFldIsTimeIGrKSpecGNSpecGTTillTwoFldN
import Derived.Test.YtonleickhincgaaGreatDoorTimeBPutMathPutNumJoinedPutTextFldMath
import Derived.Test.YtonleickhincgaaGreatDoorImplVerInc2SignRSignWFldRiseScanMath
import Derived.Test.YtonleickhincgaaGreatDoorFldRSpecTgFldL
import Derived.Test.YtonleickhincgaaGreatDoorGetValGetTxtNumMathFldRdNumFromTmbMathLgMath
import Derived.Test.YtonleickhincgaaGreatDoorLgAtKLgAnsLgRtAudMathHdMathClaMathHearMathFldGOneKFldBlkRwBlkRowOps
import Derived.Test.YtonleickhincgaaGreatDoorSpecLv
import Derived.Handy
import Derived.WalkSpells
import Derived.OwnWalk
import Derived.Deep.RegionHeld3
import Derived.Deep.Cut
namespace Go.Proofs.YtonleickhincgaaGreatDoor
open Go.RowKit Go.Lib
set_option linter.unusedVariables false
set_option maxRecDepth 20000

theorem rs_no {rs : List Rw} {now : Int} {i : Nat} (hi : i < rs.length) (h : (rB rs[i] && decide (rs[i].a ≤ now)) = false) : rsB rs now = false := by
  unfold rsB
  rw [List.all_eq_false]
  exact ⟨_, List.getElem_mem hi, by rw [h]; exact Bool.false_ne_true⟩
theorem rs_yes {rs : List Rw} {now : Int} (h : ∀ i (hi : i < rs.length), (rB rs[i] && decide (rs[i].a ≤ now)) = true) : rsB rs now = true := by
  unfold rsB
  rw [List.all_eq_true]
  intro r hr
  obtain ⟨i, hi, rfl⟩ := List.getElem_of_mem hr
  exact h i hi
theorem rs_right {rs : List Rw} {now : Int} (h : rsB rs now = true) : ∀ r ∈ rs, rB r = true := fun r hr => by
  unfold rsB at h
  rw [List.all_eq_true] at h
  exact (Bool.and_eq_true_iff.1 (h r hr)).1
/-- No field that is gone lacks its note: up to row i, field k. -/
def doneTo7 (rs : List Rw) (lv : List ByteArray) (i k : Nat) : Prop := (∀ j (h : j < rs.length), j < i → alB7 lv j rs[j].fs = true) ∧ (∀ (h : i < rs.length) m (hm : m < rs[i].fs.length), m < k → rs[i].fs[m].g = true → 0 ≤ tbAt lv (i : Int) (m : Int))
theorem al_of {lv : List ByteArray} {i : Nat} {fs : List Fld} (h : ∀ m (hm : m < fs.length), fs[m].g = true → 0 ≤ tbAt lv (i : Int) (m : Int)) : alB7 lv i fs = true := by
  unfold alB7
  simp only [List.all_eq_true, List.mem_range, Bool.or_eq_true, Bool.not_eq_true', decide_eq_true_iff]
  intro m hm
  cases hg : (fs.getD m fldZ).g with
  | false => exact .inl rfl
  | true =>
    rw [List.getD_eq_getElem?_getD, List.getElem?_eq_getElem hm, Option.getD_some] at hg
    exact .inr (h m hm hg)
theorem all_of {rs : List Rw} {lv : List ByteArray} (h : ∀ j (h : j < rs.length), alB7 lv j rs[j].fs = true) : allB rs lv = true := by
  unfold allB
  rw [List.all_eq_true]
  intro i hi
  rw [List.mem_range] at hi
  have := h i hi
  rwa [List.getD_eq_getElem?_getD, List.getElem?_eq_getElem hi, Option.getD_some]
theorem all_no {rs : List Rw} {lv : List ByteArray} {i m : Nat} (hi : i < rs.length) (hm : m < rs[i].fs.length) (hg : rs[i].fs[m].g = true) (ht : tbAt lv (i : Int) (m : Int) < 0) : allB rs lv = false := by
  cases e : allB rs lv with
  | false => rfl
  | true =>
    unfold allB alB7 at e
    simp only [List.all_eq_true, List.mem_range, Bool.or_eq_true, Bool.not_eq_true', decide_eq_true_iff] at e
    have e1 : rs.getD i rwZ = rs[i] := by rw [List.getD_eq_getElem?_getD, List.getElem?_eq_getElem hi, Option.getD_some]
    rcases e i hi m (by rw [e1]; exact hm) with q | q
    · rw [e1, List.getD_eq_getElem?_getD, List.getElem?_eq_getElem hm, Option.getD_some, hg] at q; cases q
    · omega
theorem lg_parts (rs : List Rw) (lv : List ByteArray) (now : Int) : lgB rs lv now = (decide (rs.length ≤ 6) && (decide (lv.length ≤ 64) && (timeB now && (rsB rs now && (lvGo rs now lv 0 0 lv && allB rs lv))))) := rfl
set_option maxHeartbeats 8000000 in
theorem specLogRight_any (p : Option Addr) (lv : List ByteArray) (cp : Nat) (q : Option Addr) (rs : List Rw) (cq : Nat) (now : Int) (w : World) (hA : LgAt p lv cp q rs cq w) :
    Calls Tryz.prog 23 #[.agg #[.slice q rs.length cq, .slice p lv.length cp, .int .i64 now]] w fun e w' => e = .returned (.bool (lgB rs lv now)) ∧ Below w.heap.size w w' := by
  obtain ⟨W1, hW1⟩ : ∃ W1, W1 = w.alloc (.cells #[.slice q rs.length cq, .slice p lv.length cp, .int .i64 now] 41) := ⟨_, rfl⟩
  have HW1 : Hid (W1 = w.alloc (.cells #[.slice q rs.length cq, .slice p lv.length cp, .int .i64 now] 41)) := hW1
  have B1 : Hid (Below w.heap.size w W1) := by rw [hW1]; exact (Below.refl _ _).alloc (Nat.le_refl _) _
  have K1 : Hid (Bxs W1 w.heap.size 41 #[.slice q rs.length cq, .slice p lv.length cp, .int .i64 now]) := by rw [hW1]; exact Bxs.new _ _ _
  have HA : Hid (LgAt p lv cp q rs cq W1) := hA.below B1.out
  have hTi := l07Time_any now W1
  have HP : Hid (lgB rs lv now = _) := lg_parts rs lv now
  have hln := hA.ln
  have hrn := hA.rn
  clear hW1 hA
  have x0 := K1.out.cell 0
  have x1 := K1.out.cell 1
  have x2 := K1.out.cell 2
  by_cases h6 : rs.length ≤ 6
  · have d6 : decide ((6 : Int) < (rs.length : Int)) = false := decide_eq_false (by omega)
    rw [decide_eq_true h6, Bool.true_and] at HP
    by_cases h64 : lv.length ≤ 64
    · have d64 : decide ((64 : Int) < (lv.length : Int)) = false := decide_eq_false (by omega)
      rw [decide_eq_true h64, Bool.true_and] at HP
      cases ht : timeB now with
      | false =>
        rw [ht] at hTi
        rw [ht, Bool.false_and] at HP
        rw [HP.out]
        rw [HW1.out] at x0 x1 x2 hTi
        go_enter Tryz.func23, Tryz.ntmps23
        go_wp2_with fail
        refine hTi.mono ?_
        rintro e y ⟨rfl, rfl⟩
        go_wp2_with fail
        go_ret
        rw [← HW1.out]
        exact ⟨rfl, B1.out⟩
      | true =>
        rw [ht] at hTi
        rw [ht, Bool.true_and] at HP
        rw [HW1.out] at x0 x1 x2 hTi
        go_enter Tryz.func23, Tryz.ntmps23
        go_wp2_with fail
        refine hTi.mono ?_
        rintro e y ⟨rfl, hy⟩
        rw [← HW1.out] at hy
        subst hy
        clear hTi x0 x1 x2 HW1
        go_wp2_with fail
        go_loopw [3] (fun ii wr => ∃ i : Nat, i ≤ rs.length ∧ ii = .int .i64 i ∧ Hid (Below y.heap.size y wr) ∧ Hid (∀ j (h : j < rs.length), j < i → (rB rs[j] && decide (rs[j].a ≤ now)) = true)) (fun ii _ => rs.length - (Go.RowKit.intOf ii).toNat)
        case atStart => exact ⟨0, Nat.zero_le _, rfl, Below.refl _ _, fun j h hk => by omega⟩
        case round =>
          obtain ⟨i, hi, rfl, HB, HF⟩ := hrel
          by_cases hlt : i < rs.length
          · have i1 : (i : Int) < rs.length := by omega
            obtain ⟨br, orr, rq, rc, rfl, hbr, r0, r1, r2, r3, r4⟩ := (HA.out.rw.below HB.out) i hlt
            have hzz := HA.out.rz _ (List.getElem_mem hlt)
            have hQ := specRowRight_any rs[i].k rs[i].a rq rc rs[i].fs wr.drew (r4.below (Below.refl _ _).drew) hzz.1 r3 hzz.2.1 hzz.2.2
            have HX : Hid (∀ x, Below wr.heap.size wr x → x.cell? ⟨w.heap.size, 0, none⟩ = some (.slice (some ⟨br, orr, none⟩) rs.length cq) ∧ x.cell? ⟨w.heap.size, 2, none⟩ = some (.int .i64 now) ∧ x.cell? ⟨br, orr + i * 3, none⟩ = some (.string rs[i].k) ∧ x.cell? ⟨br, orr + i * 3 + 1, none⟩ = some (.int .i64 rs[i].a) ∧ x.cell? ⟨br, orr + i * 3 + 2, none⟩ = some (.slice rq rs[i].fs.length rc)) := fun x hb => ⟨((K1.out.below HB.out).below hb).cell 0, ((K1.out.below HB.out).below hb).cell 2, (hb.cell (p := ⟨br, orr + i * 3, none⟩) hbr).trans r0, (hb.cell (p := ⟨br, orr + i * 3 + 1, none⟩) hbr).trans r1, (hb.cell (p := ⟨br, orr + i * 3 + 2, none⟩) hbr).trans r2⟩
            have x0 := (K1.out.below HB.out).cell 0
            have HN : Hid ((rB rs[i] && decide (rs[i].a ≤ now)) = false → lgB rs lv now = false) := fun h => by rw [HP.out, rs_no hlt h, Bool.false_and]
            have HF1 : Hid ((rB rs[i] && decide (rs[i].a ≤ now)) = true → ∀ j (h : j < rs.length), j < i + 1 → (rB rs[j] && decide (rs[j].a ≤ now)) = true) := fun h0 j h hj => if he : j = i then by subst he; exact h0 else HF.out j h (by omega)
            change Calls _ _ _ _ (fun e w' => e = .returned (.bool (rB rs[i])) ∧ _) at hQ
            clear hzz r0 r1 r2 r3 r4 HF
            cases hRB : rB rs[i] with
            | false =>
              have HV := HN.out (by rw [hRB]; rfl)
              rw [hRB] at hQ
              clear HN HF1 hRB
              generalize rs[i].k = rk at *
              generalize rs[i].a = ra at *
              generalize rs[i].fs.length = fl at *
              go_upto_region 6 with fail
              refine wp_region_held_drew (S := (fun w' => w'.cell? ⟨w.heap.size, 0, none⟩ = some (.slice (some ⟨br, orr, none⟩) rs.length cq) ∧ w'.cell? ⟨w.heap.size, 2, none⟩ = some (.int .i64 now) ∧ w'.cell? ⟨br, orr + i * 3, none⟩ = some (.string rk) ∧ w'.cell? ⟨br, orr + i * 3 + 1, none⟩ = some (.int .i64 ra) ∧ w'.cell? ⟨br, orr + i * 3 + 2, none⟩ = some (.slice rq fl rc))) (by kernel_rfl) (HX.out _ (Below.refl _ _).drew) (fun hHeld => ?_)
              refine take_at 0 (v := ?_) rfl (by kernel_rfl) (by kernel_rfl) (by kernel_rfl) (fun _ _ _ h => h) hHeld (Or.inl ⟨by rfl, ?_⟩) ?_
              rotate_left
              · (intro w hSw; (try dsimp only at hSw); go_simp; try with_reducible rfl)
              simp only [Act.put, List.setIfInBounds_toArray, List.set_cons_zero, List.set_cons_succ]
              refine take_at 1 (v := ?_) rfl (by kernel_rfl) (by kernel_rfl) (by kernel_rfl) (fun _ _ _ h => h) hHeld (Or.inl ⟨by rfl, ?_⟩) ?_
              rotate_left
              · (intro w hSw; (try dsimp only at hSw); go_simp; try with_reducible rfl)
              simp only [Act.put, List.setIfInBounds_toArray, List.set_cons_zero, List.set_cons_succ]
              refine take_at 2 (v := ?_) rfl (by kernel_rfl) (by kernel_rfl) (by kernel_rfl) (fun _ _ _ h => h) hHeld (Or.inl ⟨by rfl, ?_⟩) ?_
              rotate_left
              · (intro w hSw; (try dsimp only at hSw); go_simp; try with_reducible rfl)
              simp only [Act.put, List.setIfInBounds_toArray, List.set_cons_zero, List.set_cons_succ]
              refine take_at 3 (v := ?_) rfl (by kernel_rfl) (by kernel_rfl) (by kernel_rfl) (fun _ _ _ h => h) hHeld (Or.inl ⟨by rfl, ?_⟩) ?_
              rotate_left
              · (intro w hSw; (try dsimp only at hSw); go_simp; try with_reducible rfl)
              simp only [Act.put, List.setIfInBounds_toArray, List.set_cons_zero, List.set_cons_succ]
              refine take_at 4 (v := ?_) rfl (by kernel_rfl) (by kernel_rfl) (by kernel_rfl) (fun _ _ _ h => h) hHeld (Or.inl ⟨by rfl, ?_⟩) ?_
              rotate_left
              · (intro w hSw; (try dsimp only at hSw); go_simp; try with_reducible rfl)
              simp only [Act.put, List.setIfInBounds_toArray, List.set_cons_zero, List.set_cons_succ]
              refine ready_at 5 rfl (by kernel_rfl) (fun K hK => ?_)
              go_simp
              (go_at_call 73; with_reducible refine hQ.mono ?_; rintro e ya ⟨rfl, z0⟩; have z1 : Below wr.heap.size wr ya := chainB (Below.refl _ _).drew z0)
              refine hK.out _ _ (HX.out _ z1) (fun hHeld => ?_)
              clear hK K
              try simp only [Act.put, List.setIfInBounds_toArray, List.set_cons_zero, List.set_cons_succ]
              refine take_at 6 (v := ?_) rfl (by kernel_rfl) (by kernel_rfl) (by kernel_rfl) (fun _ _ _ h => h) hHeld (Or.inl ⟨by rfl, ?_⟩) ?_
              rotate_left
              · (intro w hSw; (try dsimp only at hSw); go_simp; try with_reducible rfl)
              simp only [Act.put, List.setIfInBounds_toArray, List.set_cons_zero, List.set_cons_succ]
              refine take_at 7 (v := ?_) rfl (by kernel_rfl) (by kernel_rfl) (by kernel_rfl) (fun _ _ _ h => h) hHeld (Or.inl ⟨by rfl, ?_⟩) ?_
              rotate_left
              · (intro w hSw; (try dsimp only at hSw); go_simp; try with_reducible rfl)
              simp only [Act.put, List.setIfInBounds_toArray, List.set_cons_zero, List.set_cons_succ]
              refine take_at 8 (v := undef) rfl (by kernel_rfl) (by kernel_rfl) (by kernel_rfl) (fun _ _ _ h => h) hHeld (Or.inr ⟨by rfl, rfl⟩) ?_
              simp only [Act.put, List.setIfInBounds_toArray, List.set_cons_zero, List.set_cons_succ]
              refine take_at 9 (v := undef) rfl (by kernel_rfl) (by kernel_rfl) (by kernel_rfl) (fun _ _ _ h => h) hHeld (Or.inr ⟨by rfl, rfl⟩) ?_
              simp only [Act.put, List.setIfInBounds_toArray, List.set_cons_zero, List.set_cons_succ]
              refine take_at 10 (v := undef) rfl (by kernel_rfl) (by kernel_rfl) (by kernel_rfl) (fun _ _ _ h => h) hHeld (Or.inr ⟨by rfl, rfl⟩) ?_
              simp only [Act.put, List.setIfInBounds_toArray, List.set_cons_zero, List.set_cons_succ]
              refine take_at 11 (v := undef) rfl (by kernel_rfl) (by kernel_rfl) (by kernel_rfl) (fun _ _ _ h => h) hHeld (Or.inr ⟨by rfl, rfl⟩) ?_
              simp only [Act.put, List.setIfInBounds_toArray, List.set_cons_zero, List.set_cons_succ]
              refine take_at 12 (v := undef) rfl (by kernel_rfl) (by kernel_rfl) (by kernel_rfl) (fun _ _ _ h => h) hHeld (Or.inr ⟨by rfl, rfl⟩) ?_
              simp only [Act.put, List.setIfInBounds_toArray, List.set_cons_zero, List.set_cons_succ]
              refine take_at 13 (v := undef) rfl (by kernel_rfl) (by kernel_rfl) (by kernel_rfl) (fun _ _ _ h => h) hHeld (Or.inr ⟨by rfl, rfl⟩) ?_
              simp only [Act.put, List.setIfInBounds_toArray, List.set_cons_zero, List.set_cons_succ]
              refine take_at 14 (v := undef) rfl (by kernel_rfl) (by kernel_rfl) (by kernel_rfl) (fun _ _ _ h => h) hHeld (Or.inr ⟨by rfl, rfl⟩) ?_
              simp only [Act.put, List.setIfInBounds_toArray, List.set_cons_zero, List.set_cons_succ]
              refine take_at 15 (v := undef) rfl (by kernel_rfl) (by kernel_rfl) (by kernel_rfl) (fun _ _ _ h => h) hHeld (Or.inr ⟨by rfl, rfl⟩) ?_
              simp only [Act.put, List.setIfInBounds_toArray, List.set_cons_zero, List.set_cons_succ]
              refine take_at 16 (v := undef) rfl (by kernel_rfl) (by kernel_rfl) (by kernel_rfl) (fun _ _ _ h => h) hHeld (Or.inr ⟨by rfl, rfl⟩) ?_
              simp only [Act.put, List.setIfInBounds_toArray, List.set_cons_zero, List.set_cons_succ]
              refine take_at 17 (v := ?_) rfl (by kernel_rfl) (by kernel_rfl) (by kernel_rfl) (fun _ _ _ h => h) hHeld (Or.inl ⟨by rfl, ?_⟩) ?_
              rotate_left
              · (intro w hSw; (try dsimp only at hSw); go_simp; try with_reducible rfl)
              simp only [Act.put, List.setIfInBounds_toArray, List.set_cons_zero, List.set_cons_succ]
              refine wpAnyH_done (by kernel_rfl) ?_ _
              go_wp2_with fail
              go_ret
              exact ⟨by rw [HV]; rfl, chainB (chainB B1.out HB.out) z1⟩
            | true =>
              rw [hRB] at hQ
              cases hd : decide (rs[i].a ≤ now) with
              | false =>
                have HV := HN.out (by rw [hRB, hd]; rfl)
                have hd2 : decide (now < rs[i].a) = true := decide_eq_true (by have := of_decide_eq_false hd; omega)
                clear HN HF1 hRB hd
                generalize rs[i].k = rk at *
                generalize rs[i].a = ra at *
                generalize rs[i].fs.length = fl at *
                go_upto_region 6 with fail
                refine wp_region_held_drew (S := (fun w' => w'.cell? ⟨w.heap.size, 0, none⟩ = some (.slice (some ⟨br, orr, none⟩) rs.length cq) ∧ w'.cell? ⟨w.heap.size, 2, none⟩ = some (.int .i64 now) ∧ w'.cell? ⟨br, orr + i * 3, none⟩ = some (.string rk) ∧ w'.cell? ⟨br, orr + i * 3 + 1, none⟩ = some (.int .i64 ra) ∧ w'.cell? ⟨br, orr + i * 3 + 2, none⟩ = some (.slice rq fl rc))) (by kernel_rfl) (HX.out _ (Below.refl _ _).drew) (fun hHeld => ?_)
                refine take_at 0 (v := ?_) rfl (by kernel_rfl) (by kernel_rfl) (by kernel_rfl) (fun _ _ _ h => h) hHeld (Or.inl ⟨by rfl, ?_⟩) ?_
                rotate_left
                · (intro w hSw; (try dsimp only at hSw); go_simp; try with_reducible rfl)
                simp only [Act.put, List.setIfInBounds_toArray, List.set_cons_zero, List.set_cons_succ]
                refine take_at 1 (v := ?_) rfl (by kernel_rfl) (by kernel_rfl) (by kernel_rfl) (fun _ _ _ h => h) hHeld (Or.inl ⟨by rfl, ?_⟩) ?_
                rotate_left
                · (intro w hSw; (try dsimp only at hSw); go_simp; try with_reducible rfl)
                simp only [Act.put, List.setIfInBounds_toArray, List.set_cons_zero, List.set_cons_succ]
                refine take_at 2 (v := ?_) rfl (by kernel_rfl) (by kernel_rfl) (by kernel_rfl) (fun _ _ _ h => h) hHeld (Or.inl ⟨by rfl, ?_⟩) ?_
                rotate_left
                · (intro w hSw; (try dsimp only at hSw); go_simp; try with_reducible rfl)
                simp only [Act.put, List.setIfInBounds_toArray, List.set_cons_zero, List.set_cons_succ]
                refine take_at 3 (v := ?_) rfl (by kernel_rfl) (by kernel_rfl) (by kernel_rfl) (fun _ _ _ h => h) hHeld (Or.inl ⟨by rfl, ?_⟩) ?_
                rotate_left
                · (intro w hSw; (try dsimp only at hSw); go_simp; try with_reducible rfl)
                simp only [Act.put, List.setIfInBounds_toArray, List.set_cons_zero, List.set_cons_succ]
                refine take_at 4 (v := ?_) rfl (by kernel_rfl) (by kernel_rfl) (by kernel_rfl) (fun _ _ _ h => h) hHeld (Or.inl ⟨by rfl, ?_⟩) ?_
                rotate_left
                · (intro w hSw; (try dsimp only at hSw); go_simp; try with_reducible rfl)
                simp only [Act.put, List.setIfInBounds_toArray, List.set_cons_zero, List.set_cons_succ]
                refine ready_at 5 rfl (by kernel_rfl) (fun K hK => ?_)
                go_simp
                (go_at_call 73; with_reducible refine hQ.mono ?_; rintro e ya ⟨rfl, z0⟩; have z1 : Below wr.heap.size wr ya := chainB (Below.refl _ _).drew z0)
                refine hK.out _ _ (HX.out _ z1) (fun hHeld => ?_)
                clear hK K
                try simp only [Act.put, List.setIfInBounds_toArray, List.set_cons_zero, List.set_cons_succ]
                refine take_at 6 (v := ?_) rfl (by kernel_rfl) (by kernel_rfl) (by kernel_rfl) (fun _ _ _ h => h) hHeld (Or.inl ⟨by rfl, ?_⟩) ?_
                rotate_left
                · (intro w hSw; (try dsimp only at hSw); go_simp; try with_reducible rfl)
                simp only [Act.put, List.setIfInBounds_toArray, List.set_cons_zero, List.set_cons_succ]
                refine take_at 7 (v := ?_) rfl (by kernel_rfl) (by kernel_rfl) (by kernel_rfl) (fun _ _ _ h => h) hHeld (Or.inl ⟨by rfl, ?_⟩) ?_
                rotate_left
                · (intro w hSw; (try dsimp only at hSw); go_simp; try with_reducible rfl)
                simp only [Act.put, List.setIfInBounds_toArray, List.set_cons_zero, List.set_cons_succ]
                refine take_at 8 (v := ?_) rfl (by kernel_rfl) (by kernel_rfl) (by kernel_rfl) (fun _ _ _ h => h) hHeld (Or.inl ⟨by rfl, ?_⟩) ?_
                rotate_left
                · (intro w hSw; (try dsimp only at hSw); go_simp; try with_reducible rfl)
                simp only [Act.put, List.setIfInBounds_toArray, List.set_cons_zero, List.set_cons_succ]
                refine take_at 9 (v := ?_) rfl (by kernel_rfl) (by kernel_rfl) (by kernel_rfl) (fun _ _ _ h => h) hHeld (Or.inl ⟨by rfl, ?_⟩) ?_
                rotate_left
                · (intro w hSw; (try dsimp only at hSw); go_simp; try with_reducible rfl)
                simp only [Act.put, List.setIfInBounds_toArray, List.set_cons_zero, List.set_cons_succ]
                refine take_at 10 (v := ?_) rfl (by kernel_rfl) (by kernel_rfl) (by kernel_rfl) (fun _ _ _ h => h) hHeld (Or.inl ⟨by rfl, ?_⟩) ?_
                rotate_left
                · (intro w hSw; (try dsimp only at hSw); go_simp; try with_reducible rfl)
                simp only [Act.put, List.setIfInBounds_toArray, List.set_cons_zero, List.set_cons_succ]
                refine take_at 11 (v := ?_) rfl (by kernel_rfl) (by kernel_rfl) (by kernel_rfl) (fun _ _ _ h => h) hHeld (Or.inl ⟨by rfl, ?_⟩) ?_
                rotate_left
                · (intro w hSw; (try dsimp only at hSw); go_simp; try with_reducible rfl)
                simp only [Act.put, List.setIfInBounds_toArray, List.set_cons_zero, List.set_cons_succ]
                refine take_at 12 (v := ?_) rfl (by kernel_rfl) (by kernel_rfl) (by kernel_rfl) (fun _ _ _ h => h) hHeld (Or.inl ⟨by rfl, ?_⟩) ?_
                rotate_left
                · (intro w hSw; (try dsimp only at hSw); go_simp; try with_reducible rfl)
                simp only [Act.put, List.setIfInBounds_toArray, List.set_cons_zero, List.set_cons_succ]
                refine take_at 13 (v := ?_) rfl (by kernel_rfl) (by kernel_rfl) (by kernel_rfl) (fun _ _ _ h => h) hHeld (Or.inl ⟨by rfl, ?_⟩) ?_
                rotate_left
                · (intro w hSw; (try dsimp only at hSw); go_simp; try with_reducible rfl)
                simp only [Act.put, List.setIfInBounds_toArray, List.set_cons_zero, List.set_cons_succ]
                refine take_at 14 (v := ?_) rfl (by kernel_rfl) (by kernel_rfl) (by kernel_rfl) (fun _ _ _ h => h) hHeld (Or.inl ⟨by rfl, ?_⟩) ?_
                rotate_left
                · (intro w hSw; (try dsimp only at hSw); go_simp; try with_reducible rfl)
                simp only [Act.put, List.setIfInBounds_toArray, List.set_cons_zero, List.set_cons_succ]
                refine take_at 15 (v := ?_) rfl (by kernel_rfl) (by kernel_rfl) (by kernel_rfl) (fun _ _ _ h => h) hHeld (Or.inl ⟨by rfl, ?_⟩) ?_
                rotate_left
                · (intro w hSw; (try dsimp only at hSw); go_simp; try with_reducible rfl)
                simp only [Act.put, List.setIfInBounds_toArray, List.set_cons_zero, List.set_cons_succ]
                refine take_at 16 (v := ?_) rfl (by kernel_rfl) (by kernel_rfl) (by kernel_rfl) (fun _ _ _ h => h) hHeld (Or.inl ⟨by rfl, ?_⟩) ?_
                rotate_left
                · (intro w hSw; (try dsimp only at hSw); go_simp; try with_reducible rfl)
                simp only [Act.put, List.setIfInBounds_toArray, List.set_cons_zero, List.set_cons_succ]
                refine take_at 17 (v := ?_) rfl (by kernel_rfl) (by kernel_rfl) (by kernel_rfl) (fun _ _ _ h => h) hHeld (Or.inl ⟨by rfl, ?_⟩) ?_
                rotate_left
                · (intro w hSw; (try dsimp only at hSw); go_simp; try with_reducible rfl)
                simp only [Act.put, List.setIfInBounds_toArray, List.set_cons_zero, List.set_cons_succ]
                refine wpAnyH_done (by kernel_rfl) ?_ _
                go_wp2_with fail
                go_ret
                exact ⟨by rw [HV]; rfl, chainB (chainB B1.out HB.out) z1⟩
              | true =>
                have HV := HF1.out (by rw [hRB, hd]; rfl)
                have HV2 : Hid (∀ j (h : j < rs.length), j < i + 1 → (rB rs[j] && decide (rs[j].a ≤ now)) = true) := HV
                have hd2 : decide (now < rs[i].a) = false := decide_eq_false (by have := of_decide_eq_true hd; omega)
                clear HN HF1 hRB hd HV
                generalize rs[i].k = rk at *
                generalize rs[i].a = ra at *
                generalize rs[i].fs.length = fl at *
                go_upto_region 6 with fail
                refine wp_region_held_drew (S := (fun w' => w'.cell? ⟨w.heap.size, 0, none⟩ = some (.slice (some ⟨br, orr, none⟩) rs.length cq) ∧ w'.cell? ⟨w.heap.size, 2, none⟩ = some (.int .i64 now) ∧ w'.cell? ⟨br, orr + i * 3, none⟩ = some (.string rk) ∧ w'.cell? ⟨br, orr + i * 3 + 1, none⟩ = some (.int .i64 ra) ∧ w'.cell? ⟨br, orr + i * 3 + 2, none⟩ = some (.slice rq fl rc))) (by kernel_rfl) (HX.out _ (Below.refl _ _).drew) (fun hHeld => ?_)
                refine take_at 0 (v := ?_) rfl (by kernel_rfl) (by kernel_rfl) (by kernel_rfl) (fun _ _ _ h => h) hHeld (Or.inl ⟨by rfl, ?_⟩) ?_
                rotate_left
                · (intro w hSw; (try dsimp only at hSw); go_simp; try with_reducible rfl)
                simp only [Act.put, List.setIfInBounds_toArray, List.set_cons_zero, List.set_cons_succ]
                refine take_at 1 (v := ?_) rfl (by kernel_rfl) (by kernel_rfl) (by kernel_rfl) (fun _ _ _ h => h) hHeld (Or.inl ⟨by rfl, ?_⟩) ?_
                rotate_left
                · (intro w hSw; (try dsimp only at hSw); go_simp; try with_reducible rfl)
                simp only [Act.put, List.setIfInBounds_toArray, List.set_cons_zero, List.set_cons_succ]
                refine take_at 2 (v := ?_) rfl (by kernel_rfl) (by kernel_rfl) (by kernel_rfl) (fun _ _ _ h => h) hHeld (Or.inl ⟨by rfl, ?_⟩) ?_
                rotate_left
                · (intro w hSw; (try dsimp only at hSw); go_simp; try with_reducible rfl)
                simp only [Act.put, List.setIfInBounds_toArray, List.set_cons_zero, List.set_cons_succ]
                refine take_at 3 (v := ?_) rfl (by kernel_rfl) (by kernel_rfl) (by kernel_rfl) (fun _ _ _ h => h) hHeld (Or.inl ⟨by rfl, ?_⟩) ?_
                rotate_left
                · (intro w hSw; (try dsimp only at hSw); go_simp; try with_reducible rfl)
                simp only [Act.put, List.setIfInBounds_toArray, List.set_cons_zero, List.set_cons_succ]
                refine take_at 4 (v := ?_) rfl (by kernel_rfl) (by kernel_rfl) (by kernel_rfl) (fun _ _ _ h => h) hHeld (Or.inl ⟨by rfl, ?_⟩) ?_
                rotate_left
                · (intro w hSw; (try dsimp only at hSw); go_simp; try with_reducible rfl)
                simp only [Act.put, List.setIfInBounds_toArray, List.set_cons_zero, List.set_cons_succ]
                refine ready_at 5 rfl (by kernel_rfl) (fun K hK => ?_)
                go_simp
                (go_at_call 73; with_reducible refine hQ.mono ?_; rintro e ya ⟨rfl, z0⟩; have z1 : Below wr.heap.size wr ya := chainB (Below.refl _ _).drew z0)
                refine hK.out _ _ (HX.out _ z1) (fun hHeld => ?_)
                clear hK K
                try simp only [Act.put, List.setIfInBounds_toArray, List.set_cons_zero, List.set_cons_succ]
                refine take_at 6 (v := ?_) rfl (by kernel_rfl) (by kernel_rfl) (by kernel_rfl) (fun _ _ _ h => h) hHeld (Or.inl ⟨by rfl, ?_⟩) ?_
                rotate_left
                · (intro w hSw; (try dsimp only at hSw); go_simp; try with_reducible rfl)
                simp only [Act.put, List.setIfInBounds_toArray, List.set_cons_zero, List.set_cons_succ]
                refine take_at 7 (v := ?_) rfl (by kernel_rfl) (by kernel_rfl) (by kernel_rfl) (fun _ _ _ h => h) hHeld (Or.inl ⟨by rfl, ?_⟩) ?_
                rotate_left
                · (intro w hSw; (try dsimp only at hSw); go_simp; try with_reducible rfl)
                simp only [Act.put, List.setIfInBounds_toArray, List.set_cons_zero, List.set_cons_succ]
                refine take_at 8 (v := ?_) rfl (by kernel_rfl) (by kernel_rfl) (by kernel_rfl) (fun _ _ _ h => h) hHeld (Or.inl ⟨by rfl, ?_⟩) ?_
                rotate_left
                · (intro w hSw; (try dsimp only at hSw); go_simp; try with_reducible rfl)
                simp only [Act.put, List.setIfInBounds_toArray, List.set_cons_zero, List.set_cons_succ]
                refine take_at 9 (v := ?_) rfl (by kernel_rfl) (by kernel_rfl) (by kernel_rfl) (fun _ _ _ h => h) hHeld (Or.inl ⟨by rfl, ?_⟩) ?_
                rotate_left
                · (intro w hSw; (try dsimp only at hSw); go_simp; try with_reducible rfl)
                simp only [Act.put, List.setIfInBounds_toArray, List.set_cons_zero, List.set_cons_succ]
                refine take_at 10 (v := ?_) rfl (by kernel_rfl) (by kernel_rfl) (by kernel_rfl) (fun _ _ _ h => h) hHeld (Or.inl ⟨by rfl, ?_⟩) ?_
                rotate_left
                · (intro w hSw; (try dsimp only at hSw); go_simp; try with_reducible rfl)
                simp only [Act.put, List.setIfInBounds_toArray, List.set_cons_zero, List.set_cons_succ]
                refine take_at 11 (v := ?_) rfl (by kernel_rfl) (by kernel_rfl) (by kernel_rfl) (fun _ _ _ h => h) hHeld (Or.inl ⟨by rfl, ?_⟩) ?_
                rotate_left
                · (intro w hSw; (try dsimp only at hSw); go_simp; try with_reducible rfl)
                simp only [Act.put, List.setIfInBounds_toArray, List.set_cons_zero, List.set_cons_succ]
                refine take_at 12 (v := ?_) rfl (by kernel_rfl) (by kernel_rfl) (by kernel_rfl) (fun _ _ _ h => h) hHeld (Or.inl ⟨by rfl, ?_⟩) ?_
                rotate_left
                · (intro w hSw; (try dsimp only at hSw); go_simp; try with_reducible rfl)
                simp only [Act.put, List.setIfInBounds_toArray, List.set_cons_zero, List.set_cons_succ]
                refine take_at 13 (v := ?_) rfl (by kernel_rfl) (by kernel_rfl) (by kernel_rfl) (fun _ _ _ h => h) hHeld (Or.inl ⟨by rfl, ?_⟩) ?_
                rotate_left
                · (intro w hSw; (try dsimp only at hSw); go_simp; try with_reducible rfl)
                simp only [Act.put, List.setIfInBounds_toArray, List.set_cons_zero, List.set_cons_succ]
                refine take_at 14 (v := ?_) rfl (by kernel_rfl) (by kernel_rfl) (by kernel_rfl) (fun _ _ _ h => h) hHeld (Or.inl ⟨by rfl, ?_⟩) ?_
                rotate_left
                · (intro w hSw; (try dsimp only at hSw); go_simp; try with_reducible rfl)
                simp only [Act.put, List.setIfInBounds_toArray, List.set_cons_zero, List.set_cons_succ]
                refine take_at 15 (v := ?_) rfl (by kernel_rfl) (by kernel_rfl) (by kernel_rfl) (fun _ _ _ h => h) hHeld (Or.inl ⟨by rfl, ?_⟩) ?_
                rotate_left
                · (intro w hSw; (try dsimp only at hSw); go_simp; try with_reducible rfl)
                simp only [Act.put, List.setIfInBounds_toArray, List.set_cons_zero, List.set_cons_succ]
                refine take_at 16 (v := ?_) rfl (by kernel_rfl) (by kernel_rfl) (by kernel_rfl) (fun _ _ _ h => h) hHeld (Or.inl ⟨by rfl, ?_⟩) ?_
                rotate_left
                · (intro w hSw; (try dsimp only at hSw); go_simp; try with_reducible rfl)
                simp only [Act.put, List.setIfInBounds_toArray, List.set_cons_zero, List.set_cons_succ]
                refine take_at 17 (v := ?_) rfl (by kernel_rfl) (by kernel_rfl) (by kernel_rfl) (fun _ _ _ h => h) hHeld (Or.inl ⟨by rfl, ?_⟩) ?_
                rotate_left
                · (intro w hSw; (try dsimp only at hSw); go_simp; try with_reducible rfl)
                simp only [Act.put, List.setIfInBounds_toArray, List.set_cons_zero, List.set_cons_succ]
                refine wpAnyH_done (by kernel_rfl) ?_ _
                go_wp2_with fail
                go_roundw
                case rel => exact ⟨i + 1, by omega, by simp, chainB HB.out z1, HV2.out⟩
                case measure => simp [Go.RowKit.intOf]; omega
          · obtain rfl : i = rs.length := by omega
            have HRS : Hid (rsB rs now = true) := rs_yes (fun j h => HF.out j h h)
            rw [HRS.out, Bool.true_and] at HP
            have hLv := l09Leaves_any p lv cp q rs cq now wr (HA.out.tx.below HB.out) h64 HA.out.lc HA.out.lz (HA.out.rw.below HB.out) HA.out.rc (rs_right HRS.out) HA.out.rz h6
            have HTo : Hid (∀ (r f : Int) x, Below y.heap.size y x → Calls Tryz.prog 64 #[.slice p lv.length cp, .int .i64 r, .int .i64 f] x fun e w' => e = .returned (.int .i64 (tbAt lv r f)) ∧ Below x.heap.size x w') := fun r f x hb => l09Tomb_any p lv cp r f x (HA.out.tx.below hb) (by omega) HA.out.lc HA.out.lz
            have H3 : Hid (∀ r ∈ rs, r.fs.length ≤ 3) := fun r hr => (rwB_parts (rs_right HRS.out r hr)).2.2.1.2
            have x0 := (K1.out.below HB.out).cell 0
            have x1 := (K1.out.below HB.out).cell 1
            have x2 := (K1.out.below HB.out).cell 2
            clear HF HRS
            cases hlo : lvGo rs now lv 0 0 lv with
            | false =>
              rw [hlo] at hLv
              rw [hlo, Bool.false_and] at HP
              have HV : Hid (lgB rs lv now = false) := HP.out
              go_wp2_with fail
              refine hLv.mono ?_
              rintro e ya ⟨rfl, bya⟩
              go_wp2_with fail
              go_ret
              exact ⟨by rw [HV.out]; rfl, chainB (chainB B1.out HB.out) bya⟩
            | true =>
              rw [hlo] at hLv
              rw [hlo, Bool.true_and] at HP
              have HV : Hid (lgB rs lv now = allB rs lv) := HP.out
              clear hlo HP
              go_wp2_with fail
              refine hLv.mono ?_
              rintro e ya ⟨rfl, bya⟩
              clear hLv x0 x1 x2
              have HBy : Hid (Below y.heap.size y ya) := chainB HB.out bya
              go_wp2_with fail
              clear bya HB
              go_loopw [4] (fun ii wr => ∃ i : Nat, i ≤ rs.length ∧ ii = .int .i64 i ∧ Hid (Below y.heap.size y wr) ∧ Hid (doneTo7 rs lv i 0)) (fun ii _ => rs.length - (Go.RowKit.intOf ii).toNat)
              case atStart => exact ⟨0, Nat.zero_le _, rfl, HBy.out, fun j h hk => by omega, fun h m hm hk => by omega⟩
              case round =>
                obtain ⟨i, hi, rfl, HB, HD⟩ := hrel
                have x0 := (K1.out.below HB.out).cell 0
                by_cases hlt : i < rs.length
                · have i1 : (i : Int) < rs.length := by omega
                  have hf3 := H3.out _ (List.getElem_mem hlt)
                  go_wp2_with fail
                  go_loopw [5] (fun kk wr => ∃ k : Nat, k ≤ rs[i].fs.length ∧ kk = .int .i64 k ∧ Hid (Below y.heap.size y wr) ∧ Hid (doneTo7 rs lv i k)) (fun kk _ => rs[i].fs.length - (Go.RowKit.intOf kk).toNat)
                  case atStart => exact ⟨0, Nat.zero_le _, rfl, HB.out, HD.out⟩
                  case round =>
                    obtain ⟨k, hk, rfl, HBk, HDk⟩ := hrel
                    obtain ⟨br, orr, rq, rc, rfl, hbr, r0, r1, r2, r3, r4⟩ := (HA.out.rw.below HBk.out) i hlt
                    have x0' := (K1.out.below HBk.out).cell 0
                    have x1' := (K1.out.below HBk.out).cell 1
                    by_cases hkt : k < rs[i].fs.length
                    · have k1 : (k : Int) < rs[i].fs.length := by omega
                      obtain ⟨bf, of, rfl, hbf, f0, f1, f2, f3, f4⟩ := r4 k hkt
                      have hTo := HTo.out (i : Int) (k : Int) wr HBk.out
                      have HNx : Hid ((rs[i].fs[k].g = true → 0 ≤ tbAt lv (i : Int) (k : Int)) → doneTo7 rs lv i (k + 1)) := fun h => ⟨HDk.out.1, fun h1 m hm hmk hg => if e : m = k then by subst e; exact h hg else HDk.out.2 h1 m hm (by omega) hg⟩
                      have HNo : Hid (rs[i].fs[k].g = true → tbAt lv (i : Int) (k : Int) < 0 → lgB rs lv now = false) := fun hg ht => by rw [HV.out, all_no hlt hkt hg ht]
                      clear f0 f1 f2 f3 r0 r1 r4 HDk hbf hbr x0
                      cases hg : rs[i].fs[k].g with
                      | false =>
                        have HN2 : Hid (doneTo7 rs lv i (k + 1)) := HNx.out (fun h => by rw [hg] at h; cases h)
                        rw [hg] at f4
                        clear HNx HNo hTo
                        go_wp2_with fail
                        go_roundw
                        case rel => exact ⟨k + 1, by omega, by simp, HBk.out, HN2.out⟩
                        case measure => simp [Go.RowKit.intOf]; omega
                      | true =>
                        rw [hg] at f4
                        by_cases ht : tbAt lv (i : Int) (k : Int) < 0
                        · have HV3 := HNo.out hg ht
                          have dt : decide (tbAt lv (i : Int) (k : Int) < 0) = true := decide_eq_true ht
                          clear HNx HNo
                          generalize tbAt lv (i : Int) (k : Int) = TV at *
                          go_wp2_with fail
                          refine hTo.mono ?_
                          rintro e yb ⟨rfl, byb⟩
                          go_wp2_with fail
                          go_ret
                          exact ⟨by rw [HV3]; rfl, chainB (chainB B1.out HBk.out) byb⟩
                        · have HN2 : Hid (doneTo7 rs lv i (k + 1)) := HNx.out (fun _ => by omega)
                          have dt : decide (tbAt lv (i : Int) (k : Int) < 0) = false := decide_eq_false ht
                          clear HNx HNo
                          generalize tbAt lv (i : Int) (k : Int) = TV at *
                          go_wp2_with fail
                          refine hTo.mono ?_
                          rintro e yb ⟨rfl, byb⟩
                          have HBb : Hid (Below y.heap.size y yb) := chainB HBk.out byb
                          go_wp2_with fail
                          go_roundw
                          case rel => exact ⟨k + 1, by omega, by simp, HBb.out, HN2.out⟩
                          case measure => simp [Go.RowKit.intOf]; omega
                    · obtain rfl : k = rs[i].fs.length := by omega
                      have HN2 : Hid (doneTo7 rs lv (i + 1) 0) := ⟨fun j h hj => if e : j = i then by subst e; exact al_of (fun m hm hg => HDk.out.2 h m hm hm hg) else HDk.out.1 j h (by omega), fun h m hm hk => by omega⟩
                      clear r0 r1 r4 HDk hbr x0
                      go_wp2_with fail
                      go_roundw
                      case rel => exact ⟨i + 1, by omega, by simp, HBk.out, HN2.out⟩
                      case measure => simp [Go.RowKit.intOf]; omega
                · obtain rfl : i = rs.length := by omega
                  have HV3 : Hid (lgB rs lv now = true) := by show _ = _; rw [HV.out]; exact all_of (fun j h => HD.out.1 j h h)
                  go_wp2_with fail
                  go_ret
                  exact ⟨by rw [HV3.out]; rfl, chainB B1.out HB.out⟩
    · have d64 : decide ((64 : Int) < (lv.length : Int)) = true := decide_eq_true (by omega)
      rw [decide_eq_false h64, Bool.false_and] at HP
      rw [HP.out]
      rw [HW1.out] at x0 x1
      go_enter Tryz.func23, Tryz.ntmps23
      go_wp2_with fail
      go_ret
      rw [← HW1.out]
      exact ⟨rfl, B1.out⟩
  · have d6 : decide ((6 : Int) < (rs.length : Int)) = true := decide_eq_true (by omega)
    rw [decide_eq_false h6, Bool.false_and] at HP
    rw [HP.out]
    rw [HW1.out] at x0
    go_enter Tryz.func23, Tryz.ntmps23
    go_wp2_with fail
    go_ret
    rw [← HW1.out]
    exact ⟨rfl, B1.out⟩
end Go.Proofs.YtonleickhincgaaGreatDoor
