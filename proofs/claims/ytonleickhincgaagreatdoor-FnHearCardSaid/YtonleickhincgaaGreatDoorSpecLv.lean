/-
  Whether the leaves of a log are those of its rows and notes, as the specification answers.
  Conditions: the cells hold the rows and leaves; the rows are right.
-/
import Derived.Test.YtonleickhincgaaGreatDoorRows
import Derived.Test.YtonleickhincgaaGreatDoorBytesDigMath
import Derived.Test.YtonleickhincgaaGreatDoorTreeMathSlABxKSlBOwnS
import Derived.Test.YtonleickhincgaaGreatDoorLgLawTakesTakesLPutterPathI
import Derived.Test.YtonleickhincgaaGreatDoorFldIsTimeIGrKSpecGNSpecGTTillTwoFldN
import Derived.Test.YtonleickhincgaaGreatDoorTimeBPutMathPutNumJoinedPutTextFldMath
import Derived.Test.YtonleickhincgaaGreatDoorImplVerInc2SignRSignWFldRiseScanMath
import Derived.Test.YtonleickhincgaaGreatDoorFldRSpecTgFldL
import Derived.Test.YtonleickhincgaaGreatDoorFldTbFldTrImplFCBlNot
import Derived.Test.YtonleickhincgaaGreatDoorGetValGetTxtNumMathFldRdNumFromTmbMathLgMath
import Derived.Handy
import Derived.WalkSpells
import Derived.OwnWalk
import Derived.Deep.RegionHeld3
import Derived.Deep.Cut
namespace Go.Proofs.YtonleickhincgaaGreatDoor
open Go.RowKit Go.Lib
set_option linter.unusedVariables false
set_option maxRecDepth 20000

theorem lv_next (rs : List Rw) (now : Int) (lv : List ByteArray) (i n : Nat) (h : i < lv.length) : lvGo rs now lv i n (lv.drop i) = if isNx rs n lv[i] = true then lvGo rs now lv (i + 1) (n + 1) (lv.drop (i + 1)) else if tbOk rs now lv i n lv[i] = true then lvGo rs now lv (i + 1) n (lv.drop (i + 1)) else false := by
  rw [List.drop_eq_getElem_cons h, lvGo]
theorem nx_eql {rs : List Rw} {n : Nat} {t : ByteArray} (h : n < rs.length) : isNx rs n t = (t.toList == (rlB rs[n]).toList) := by
  unfold isNx
  rw [decide_eq_true h, Bool.true_and, List.getD_eq_getElem?_getD, List.getElem?_eq_getElem h, Option.getD_some, ba_beq]
theorem tbOk_eq (rs : List Rw) (now : Int) (all : List ByteArray) (i n : Nat) (t : ByteArray) : tbOk rs now all i n t = ((trC t == 0) && (decide ((trO t).r < (n : Int)) && (goneAt rs (trO t).r (trO t).f && (decide ((trO t).a ≤ now) && (tbAt all (trO t).r (trO t).f == (i : Int)))))) := by
  unfold tbOk
  rw [Bool.eq_iff_iff]
  simp only [Bool.and_eq_true, decide_eq_true_iff, beq_iff_eq]
set_option maxHeartbeats 16000000 in
theorem l09Leaves_any (p : Option Addr) (lv : List ByteArray) (cp : Nat) (q : Option Addr) (rs : List Rw) (cq : Nat) (now : Int) (w : World) (hL : TxtAt w p lv) (hl : lv.length ≤ 64) (hcp : lv.length ≤ cp) (hzl : TxtsLe lv) (hR : RwAt w q rs) (hcq : rs.length ≤ cq) (hr : ∀ r ∈ rs, rB r = true) (hz : RwsLe rs) (h6 : rs.length ≤ 6) :
    Calls Tryz.prog 74 #[.agg #[.slice q rs.length cq, .slice p lv.length cp, .int .i64 now]] w fun e w' => e = .returned (.bool (lvGo rs now lv 0 0 lv)) ∧ Below w.heap.size w w' := by
  obtain ⟨W1, hW1⟩ : ∃ W1, W1 = w.alloc (.cells #[.slice q rs.length cq, .slice p lv.length cp, .int .i64 now] 41) := ⟨_, rfl⟩
  have HW1 : Hid (W1 = w.alloc (.cells #[.slice q rs.length cq, .slice p lv.length cp, .int .i64 now] 41)) := hW1
  have B1 : Hid (Below w.heap.size w W1) := by rw [hW1]; exact (Below.refl _ _).alloc (Nat.le_refl _) _
  have K1 : Hid (Bxs W1 w.heap.size 41 #[.slice q rs.length cq, .slice p lv.length cp, .int .i64 now]) := by rw [hW1]; exact Bxs.new _ _ _
  have HR : Hid (RwAt W1 q rs) := hR.below B1.out
  have HL : Hid (TxtAt W1 p lv) := hL.below B1.out
  have HZ : Hid (RwsLe rs) := hz
  have HZL : Hid (TxtsLe lv) := hzl
  have Hr : Hid (∀ r ∈ rs, rB r = true) := hr
  have HGo0 : Hid (∀ (r f : Int) x, Below W1.heap.size W1 x → Calls Tryz.prog 119 #[.agg #[.slice q rs.length cq, .slice p lv.length cp, .int .i64 now], .int .i64 r, .int .i64 f] x fun e w' => e = .returned (.bool (goneAt rs r f)) ∧ Below x.heap.size x w') := fun r f x hb => l09Gone_any p lv cp q rs cq now r f x (HR.out.below hb) (by omega) hcq (fun r hr => (HZ.out r hr).1)
  have HTo0 : Hid (∀ (r f : Int) x, Below W1.heap.size W1 x → Calls Tryz.prog 64 #[.slice p lv.length cp, .int .i64 r, .int .i64 f] x fun e w' => e = .returned (.int .i64 (tbAt lv r f)) ∧ Below x.heap.size x w') := fun r f x hb => l09Tomb_any p lv cp r f x (HL.out.below hb) (by omega) hcp HZL.out
  clear hW1 hR hL hz hzl hr
  go_enter Tryz.func74, Tryz.ntmps74
  go_wp2_with fail
  rw [← HW1.out]
  clear HW1
  go_loopw [4, 3] (fun ii nn wr => ∃ i n : Nat, i ≤ lv.length ∧ n ≤ rs.length ∧ ii = .int .i64 i ∧ nn = .int .i64 n ∧ Hid (Below W1.heap.size W1 wr) ∧ Hid (lvGo rs now lv 0 0 lv = lvGo rs now lv i n (lv.drop i))) (fun ii _ _ => lv.length - (Go.RowKit.intOf ii).toNat)
  case atStart => exact ⟨0, 0, Nat.zero_le _, Nat.zero_le _, rfl, rfl, Below.refl _ _, rfl⟩
  case round =>
    obtain ⟨i, n, hi, hn, rfl, rfl, HB, HV⟩ := hrel
    have x0 := (K1.out.below HB.out).cell 0
    have x1 := (K1.out.below HB.out).cell 1
    by_cases hlt : i < lv.length
    · have i1 : (i : Int) < lv.length := by omega
      obtain ⟨b, off, rfl, hb0, c0⟩ := (HL.out.below HB.out) i hlt
      have HS : Hid (lvGo rs now lv 0 0 lv = if isNx rs n lv[i] = true then lvGo rs now lv (i + 1) (n + 1) (lv.drop (i + 1)) else if tbOk rs now lv i n lv[i] = true then lvGo rs now lv (i + 1) n (lv.drop (i + 1)) else false) := HV.out.trans (lv_next rs now lv i n hlt)
      have hTO := tbOk_eq rs now lv i n lv[i]
      have HTr : Hid (∀ x, Below W1.heap.size W1 x → Calls Tryz.prog 69 #[.string lv[i]] x fun e w' => e = .returned (tmO (trO lv[i]) (trC lv[i])) ∧ Below x.heap.size x w') := fun x _ => specTombRead_any lv[i] x (HZL.out _ (List.getElem_mem hlt))
      have HGo : Hid (∀ x, Below W1.heap.size W1 x → _) := fun x hb => HGo0.out (trO lv[i]).r (trO lv[i]).f x hb
      have HTo : Hid (∀ x, Below W1.heap.size W1 x → _) := fun x hb => HTo0.out (trO lv[i]).r (trO lv[i]).f x hb
      have HNX : Hid (∀ h : n < rs.length, isNx rs n lv[i] = (lv[i].toList == (rlB rs[n]).toList)) := fun h => nx_eql h
      have HNX0 : Hid (¬ n < rs.length → isNx rs n lv[i] = false) := fun h => by unfold isNx; rw [decide_eq_false h]; rfl
      unfold tmO at HTr
      have hBI : Hid (∀ x, Below W1.heap.size W1 x → x.cell? ⟨b, off + i, none⟩ = some (.string lv[i])) := fun x hb => ((HL.out.below hb).at i hlt)
      clear HV HGo0 HTo0 hb0 c0
      generalize lv[i] = t at *
      generalize trC t = C at *
      generalize (trO t).r = n1 at *
      generalize (trO t).f = n2 at *
      generalize (trO t).y = n3 at *
      generalize (trO t).a = n4 at *
      generalize goneAt rs n1 n2 = GA at *
      generalize tbAt lv n1 n2 = TB at *
      generalize tbOk rs now lv i n t = TOK at *
      generalize isNx rs n t = NX at *
      have HTO : Hid (TOK = ((C == 0) && (decide (n1 < (n : Int)) && (GA && (decide (n4 ≤ now) && (TB == (i : Int))))))) := hTO
      clear hTO
      cases hNX : NX with
      | true =>
        subst hNX
        have hnl : n < rs.length := by
          rcases Nat.lt_or_ge n rs.length with h | h
          · exact h
          · exact absurd (HNX0.out (by omega)) (by simp)
        rw [if_pos rfl] at HS
        obtain ⟨br, orr, rq, rc, rfl, hbr, r0, r1, r2, r3, r4⟩ := (HR.out.below HB.out) n hnl
        have hE := HNX.out hnl
        have hLf := l07Leaf_any rs[n].k rs[n].a rq rc rs[n].fs wr.drew (r4.below (Below.refl _ _).drew) r3 (Hr.out _ (List.getElem_mem hnl))
        have HX : Hid (∀ x, Below wr.heap.size wr x → x.cell? ⟨w.heap.size, 0, none⟩ = some (.slice (some ⟨br, orr, none⟩) rs.length cq) ∧ x.cell? ⟨w.heap.size, 1, none⟩ = some (.slice (some ⟨b, off, none⟩) lv.length cp) ∧ x.cell? ⟨b, off + i, none⟩ = some (.string t) ∧ x.cell? ⟨br, orr + n * 3, none⟩ = some (.string rs[n].k) ∧ x.cell? ⟨br, orr + n * 3 + 1, none⟩ = some (.int .i64 rs[n].a) ∧ x.cell? ⟨br, orr + n * 3 + 2, none⟩ = some (.slice rq rs[n].fs.length rc)) := fun x hb => ⟨((K1.out.below HB.out).below hb).cell 0, ((K1.out.below HB.out).below hb).cell 1, hBI.out x (chainB HB.out hb), (hb.cell (p := ⟨br, orr + n * 3, none⟩) hbr).trans r0, (hb.cell (p := ⟨br, orr + n * 3 + 1, none⟩) hbr).trans r1, (hb.cell (p := ⟨br, orr + n * 3 + 2, none⟩) hbr).trans r2⟩
        have hE2 : (t.toList == (rlB rs[n]).toList) = true := hE.symm
        change Calls _ _ _ _ (fun e w' => e = .returned (.string (rlB rs[n])) ∧ _) at hLf
        have i2 : (n : Int) < rs.length := by omega
        have d2 : decide ((n : Int) < (rs.length : Int)) = true := decide_eq_true i2
        clear r0 r1 r2 r3 r4 hE HNX HNX0 HTr HGo HTo HTO
        generalize rlB rs[n] = LF at *
        generalize rs[n].k = rk at *
        generalize rs[n].a = ra at *
        generalize rs[n].fs.length = fl at *
        go_upto_region 5 with fail
        refine wp_region_held_drew (S := (fun w' => w'.cell? ⟨w.heap.size, 0, none⟩ = some (.slice (some ⟨br, orr, none⟩) rs.length cq) ∧ w'.cell? ⟨w.heap.size, 1, none⟩ = some (.slice (some ⟨b, off, none⟩) lv.length cp) ∧ w'.cell? ⟨b, off + i, none⟩ = some (.string t) ∧ w'.cell? ⟨br, orr + n * 3, none⟩ = some (.string rk) ∧ w'.cell? ⟨br, orr + n * 3 + 1, none⟩ = some (.int .i64 ra) ∧ w'.cell? ⟨br, orr + n * 3 + 2, none⟩ = some (.slice rq fl rc))) (by kernel_rfl) (HX.out _ (Below.refl _ _).drew) (fun hHeld => ?_)
        refine take_at 0 (v := ?_) rfl (by kernel_rfl) (by kernel_rfl) (by kernel_rfl) (fun _ _ _ h => h) hHeld (Or.inl ⟨by rfl, ?_⟩) ?_
        rotate_left
        · (intro w hSw; (try dsimp only at hSw); go_simp; try with_reducible rfl)
        simp only [Act.put, List.setIfInBounds_toArray, List.set_cons_zero, List.set_cons_succ]
        refine take_at 1 (v := ?_) rfl (by kernel_rfl) (by kernel_rfl) (by kernel_rfl) (fun _ _ _ h => h) hHeld (Or.inl ⟨by rfl, ?_⟩) ?_
        rotate_left
        · (intro w hSw; (try dsimp only at hSw); go_simp; try with_reducible rfl)
        simp only [Act.put, List.setIfInBounds_toArray, List.set_cons_zero, List.set_cons_succ]
        refine take_at 2 (v := ?_) rfl (by kernel_rfl) (by kernel_rfl) (by kernel_rfl) (fun _ _ _ h => h) hHeld (Or.inl ⟨by rfl, ?_⟩) ?_
        rotate_left
        · (intro w hSw; (try dsimp only at hSw); go_simp; try with_reducible rfl)
        simp only [Act.put, List.setIfInBounds_toArray, List.set_cons_zero, List.set_cons_succ]
        refine take_at 3 (v := ?_) rfl (by kernel_rfl) (by kernel_rfl) (by kernel_rfl) (fun _ _ _ h => h) hHeld (Or.inl ⟨by rfl, ?_⟩) ?_
        rotate_left
        · (intro w hSw; (try dsimp only at hSw); go_simp; try with_reducible rfl)
        simp only [Act.put, List.setIfInBounds_toArray, List.set_cons_zero, List.set_cons_succ]
        refine take_at 4 (v := ?_) rfl (by kernel_rfl) (by kernel_rfl) (by kernel_rfl) (fun _ _ _ h => h) hHeld (Or.inl ⟨by rfl, ?_⟩) ?_
        rotate_left
        · (intro w hSw; (try dsimp only at hSw); go_simp; try with_reducible rfl)
        simp only [Act.put, List.setIfInBounds_toArray, List.set_cons_zero, List.set_cons_succ]
        refine take_at 5 (v := ?_) rfl (by kernel_rfl) (by kernel_rfl) (by kernel_rfl) (fun _ _ _ h => h) hHeld (Or.inl ⟨by rfl, ?_⟩) ?_
        rotate_left
        · (intro w hSw; (try dsimp only at hSw); go_simp; try with_reducible rfl)
        simp only [Act.put, List.setIfInBounds_toArray, List.set_cons_zero, List.set_cons_succ]
        refine take_at 6 (v := ?_) rfl (by kernel_rfl) (by kernel_rfl) (by kernel_rfl) (fun _ _ _ h => h) hHeld (Or.inl ⟨by rfl, ?_⟩) ?_
        rotate_left
        · (intro w hSw; (try dsimp only at hSw); go_simp; try with_reducible rfl)
        simp only [Act.put, List.setIfInBounds_toArray, List.set_cons_zero, List.set_cons_succ]
        refine take_at 7 (v := ?_) rfl (by kernel_rfl) (by kernel_rfl) (by kernel_rfl) (fun _ _ _ h => h) hHeld (Or.inl ⟨by rfl, ?_⟩) ?_
        rotate_left
        · (intro w hSw; (try dsimp only at hSw); go_simp; try with_reducible rfl)
        simp only [Act.put, List.setIfInBounds_toArray, List.set_cons_zero, List.set_cons_succ]
        refine take_at 8 (v := ?_) rfl (by kernel_rfl) (by kernel_rfl) (by kernel_rfl) (fun _ _ _ h => h) hHeld (Or.inl ⟨by rfl, ?_⟩) ?_
        rotate_left
        · (intro w hSw; (try dsimp only at hSw); go_simp; try with_reducible rfl)
        simp only [Act.put, List.setIfInBounds_toArray, List.set_cons_zero, List.set_cons_succ]
        refine take_at 9 (v := ?_) rfl (by kernel_rfl) (by kernel_rfl) (by kernel_rfl) (fun _ _ _ h => h) hHeld (Or.inl ⟨by rfl, ?_⟩) ?_
        rotate_left
        · (intro w hSw; (try dsimp only at hSw); go_simp; try with_reducible rfl)
        simp only [Act.put, List.setIfInBounds_toArray, List.set_cons_zero, List.set_cons_succ]
        refine take_at 10 (v := ?_) rfl (by kernel_rfl) (by kernel_rfl) (by kernel_rfl) (fun _ _ _ h => h) hHeld (Or.inl ⟨by rfl, ?_⟩) ?_
        rotate_left
        · (intro w hSw; (try dsimp only at hSw); go_simp; try with_reducible rfl)
        simp only [Act.put, List.setIfInBounds_toArray, List.set_cons_zero, List.set_cons_succ]
        refine take_at 11 (v := ?_) rfl (by kernel_rfl) (by kernel_rfl) (by kernel_rfl) (fun _ _ _ h => h) hHeld (Or.inl ⟨by rfl, ?_⟩) ?_
        rotate_left
        · (intro w hSw; (try dsimp only at hSw); go_simp; try with_reducible rfl)
        simp only [Act.put, List.setIfInBounds_toArray, List.set_cons_zero, List.set_cons_succ]
        refine take_at 12 (v := ?_) rfl (by kernel_rfl) (by kernel_rfl) (by kernel_rfl) (fun _ _ _ h => h) hHeld (Or.inl ⟨by rfl, ?_⟩) ?_
        rotate_left
        · (intro w hSw; (try dsimp only at hSw); go_simp; try with_reducible rfl)
        simp only [Act.put, List.setIfInBounds_toArray, List.set_cons_zero, List.set_cons_succ]
        refine take_at 13 (v := ?_) rfl (by kernel_rfl) (by kernel_rfl) (by kernel_rfl) (fun _ _ _ h => h) hHeld (Or.inl ⟨by rfl, ?_⟩) ?_
        rotate_left
        · (intro w hSw; (try dsimp only at hSw); go_simp; try with_reducible rfl)
        simp only [Act.put, List.setIfInBounds_toArray, List.set_cons_zero, List.set_cons_succ]
        refine take_at 14 (v := ?_) rfl (by kernel_rfl) (by kernel_rfl) (by kernel_rfl) (fun _ _ _ h => h) hHeld (Or.inl ⟨by rfl, ?_⟩) ?_
        rotate_left
        · (intro w hSw; (try dsimp only at hSw); go_simp; try with_reducible rfl)
        simp only [Act.put, List.setIfInBounds_toArray, List.set_cons_zero, List.set_cons_succ]
        refine take_at 15 (v := ?_) rfl (by kernel_rfl) (by kernel_rfl) (by kernel_rfl) (fun _ _ _ h => h) hHeld (Or.inl ⟨by rfl, ?_⟩) ?_
        rotate_left
        · (intro w hSw; (try dsimp only at hSw); go_simp; try with_reducible rfl)
        simp only [Act.put, List.setIfInBounds_toArray, List.set_cons_zero, List.set_cons_succ]
        refine ready_at 16 rfl (by kernel_rfl) (fun K hK => ?_)
        go_simp
        (go_at_call 118; with_reducible refine hLf.mono ?_; rintro e ya ⟨rfl, z0⟩; have z1 : Below wr.heap.size wr ya := chainB (Below.refl _ _).drew z0)
        refine hK.out _ _ (HX.out _ z1) (fun hHeld => ?_)
        clear hK K
        try simp only [Act.put, List.setIfInBounds_toArray, List.set_cons_zero, List.set_cons_succ]
        refine take_at 17 (v := ?_) rfl (by kernel_rfl) (by kernel_rfl) (by kernel_rfl) (fun _ _ _ h => h) hHeld (Or.inl ⟨by rfl, ?_⟩) ?_
        rotate_left
        · (intro w hSw; (try dsimp only at hSw); go_simp; try with_reducible rfl)
        simp only [Act.put, List.setIfInBounds_toArray, List.set_cons_zero, List.set_cons_succ]
        refine take_at 18 (v := ?_) rfl (by kernel_rfl) (by kernel_rfl) (by kernel_rfl) (fun _ _ _ h => h) hHeld (Or.inl ⟨by rfl, ?_⟩) ?_
        rotate_left
        · (intro w hSw; (try dsimp only at hSw); go_simp; try with_reducible rfl)
        simp only [Act.put, List.setIfInBounds_toArray, List.set_cons_zero, List.set_cons_succ]
        refine wpAnyH_done (by kernel_rfl) ?_ _
        go_wp2_with fail
        go_roundw
        case rel => exact ⟨i + 1, n + 1, by omega, by omega, by simp, by simp, chainB HB.out z1, HS.out⟩
        case measure => simp [Go.RowKit.intOf]; omega
      | false =>
        subst hNX
        rw [if_neg Bool.false_ne_true] at HS
        have HNo : Hid (((C == 0) && (decide (n1 < (n : Int)) && (GA && (decide (n4 ≤ now) && (TB == (i : Int)))))) = false → lvGo rs now lv 0 0 lv = false) := fun h => by rw [HS.out, HTO.out, h, if_neg Bool.false_ne_true]
        have HYes : Hid (((C == 0) && (decide (n1 < (n : Int)) && (GA && (decide (n4 ≤ now) && (TB == (i : Int)))))) = true → lvGo rs now lv 0 0 lv = lvGo rs now lv (i + 1) n (lv.drop (i + 1))) := fun h => by rw [HS.out, HTO.out, h, if_pos rfl]
        clear HS HTO
        by_cases hnl : n < rs.length
        · obtain ⟨br, orr, rq, rc, rfl, hbr, r0, r1, r2, r3, r4⟩ := (HR.out.below HB.out) n hnl
          have hE := HNX.out hnl
          have hLf := l07Leaf_any rs[n].k rs[n].a rq rc rs[n].fs wr.drew (r4.below (Below.refl _ _).drew) r3 (Hr.out _ (List.getElem_mem hnl))
          have HX : Hid (∀ x, Below wr.heap.size wr x → x.cell? ⟨w.heap.size, 0, none⟩ = some (.slice (some ⟨br, orr, none⟩) rs.length cq) ∧ x.cell? ⟨w.heap.size, 1, none⟩ = some (.slice (some ⟨b, off, none⟩) lv.length cp) ∧ x.cell? ⟨b, off + i, none⟩ = some (.string t) ∧ x.cell? ⟨br, orr + n * 3, none⟩ = some (.string rs[n].k) ∧ x.cell? ⟨br, orr + n * 3 + 1, none⟩ = some (.int .i64 rs[n].a) ∧ x.cell? ⟨br, orr + n * 3 + 2, none⟩ = some (.slice rq rs[n].fs.length rc)) := fun x hb => ⟨((K1.out.below HB.out).below hb).cell 0, ((K1.out.below HB.out).below hb).cell 1, hBI.out x (chainB HB.out hb), (hb.cell (p := ⟨br, orr + n * 3, none⟩) hbr).trans r0, (hb.cell (p := ⟨br, orr + n * 3 + 1, none⟩) hbr).trans r1, (hb.cell (p := ⟨br, orr + n * 3 + 2, none⟩) hbr).trans r2⟩
          have hE2 : (t.toList == (rlB rs[n]).toList) = false := hE.symm
          change Calls _ _ _ _ (fun e w' => e = .returned (.string (rlB rs[n])) ∧ _) at hLf
          have i2 : (n : Int) < rs.length := by omega
          have d2 : decide ((n : Int) < (rs.length : Int)) = true := decide_eq_true i2
          clear r0 r1 r2 r3 r4 hE HNX HNX0
          generalize rlB rs[n] = LF at *
          generalize rs[n].k = rk at *
          generalize rs[n].a = ra at *
          generalize rs[n].fs.length = fl at *
          go_upto_region 5 with fail
          refine wp_region_held_drew (S := (fun w' => w'.cell? ⟨w.heap.size, 0, none⟩ = some (.slice (some ⟨br, orr, none⟩) rs.length cq) ∧ w'.cell? ⟨w.heap.size, 1, none⟩ = some (.slice (some ⟨b, off, none⟩) lv.length cp) ∧ w'.cell? ⟨b, off + i, none⟩ = some (.string t) ∧ w'.cell? ⟨br, orr + n * 3, none⟩ = some (.string rk) ∧ w'.cell? ⟨br, orr + n * 3 + 1, none⟩ = some (.int .i64 ra) ∧ w'.cell? ⟨br, orr + n * 3 + 2, none⟩ = some (.slice rq fl rc))) (by kernel_rfl) (HX.out _ (Below.refl _ _).drew) (fun hHeld => ?_)
          refine take_at 0 (v := ?_) rfl (by kernel_rfl) (by kernel_rfl) (by kernel_rfl) (fun _ _ _ h => h) hHeld (Or.inl ⟨by rfl, ?_⟩) ?_
          rotate_left
          · (intro w hSw; (try dsimp only at hSw); go_simp; try with_reducible rfl)
          simp only [Act.put, List.setIfInBounds_toArray, List.set_cons_zero, List.set_cons_succ]
          refine take_at 1 (v := ?_) rfl (by kernel_rfl) (by kernel_rfl) (by kernel_rfl) (fun _ _ _ h => h) hHeld (Or.inl ⟨by rfl, ?_⟩) ?_
          rotate_left
          · (intro w hSw; (try dsimp only at hSw); go_simp; try with_reducible rfl)
          simp only [Act.put, List.setIfInBounds_toArray, List.set_cons_zero, List.set_cons_succ]
          refine take_at 2 (v := ?_) rfl (by kernel_rfl) (by kernel_rfl) (by kernel_rfl) (fun _ _ _ h => h) hHeld (Or.inl ⟨by rfl, ?_⟩) ?_
          rotate_left
          · (intro w hSw; (try dsimp only at hSw); go_simp; try with_reducible rfl)
          simp only [Act.put, List.setIfInBounds_toArray, List.set_cons_zero, List.set_cons_succ]
          refine take_at 3 (v := ?_) rfl (by kernel_rfl) (by kernel_rfl) (by kernel_rfl) (fun _ _ _ h => h) hHeld (Or.inl ⟨by rfl, ?_⟩) ?_
          rotate_left
          · (intro w hSw; (try dsimp only at hSw); go_simp; try with_reducible rfl)
          simp only [Act.put, List.setIfInBounds_toArray, List.set_cons_zero, List.set_cons_succ]
          refine take_at 4 (v := ?_) rfl (by kernel_rfl) (by kernel_rfl) (by kernel_rfl) (fun _ _ _ h => h) hHeld (Or.inl ⟨by rfl, ?_⟩) ?_
          rotate_left
          · (intro w hSw; (try dsimp only at hSw); go_simp; try with_reducible rfl)
          simp only [Act.put, List.setIfInBounds_toArray, List.set_cons_zero, List.set_cons_succ]
          refine take_at 5 (v := ?_) rfl (by kernel_rfl) (by kernel_rfl) (by kernel_rfl) (fun _ _ _ h => h) hHeld (Or.inl ⟨by rfl, ?_⟩) ?_
          rotate_left
          · (intro w hSw; (try dsimp only at hSw); go_simp; try with_reducible rfl)
          simp only [Act.put, List.setIfInBounds_toArray, List.set_cons_zero, List.set_cons_succ]
          refine take_at 6 (v := ?_) rfl (by kernel_rfl) (by kernel_rfl) (by kernel_rfl) (fun _ _ _ h => h) hHeld (Or.inl ⟨by rfl, ?_⟩) ?_
          rotate_left
          · (intro w hSw; (try dsimp only at hSw); go_simp; try with_reducible rfl)
          simp only [Act.put, List.setIfInBounds_toArray, List.set_cons_zero, List.set_cons_succ]
          refine take_at 7 (v := ?_) rfl (by kernel_rfl) (by kernel_rfl) (by kernel_rfl) (fun _ _ _ h => h) hHeld (Or.inl ⟨by rfl, ?_⟩) ?_
          rotate_left
          · (intro w hSw; (try dsimp only at hSw); go_simp; try with_reducible rfl)
          simp only [Act.put, List.setIfInBounds_toArray, List.set_cons_zero, List.set_cons_succ]
          refine take_at 8 (v := ?_) rfl (by kernel_rfl) (by kernel_rfl) (by kernel_rfl) (fun _ _ _ h => h) hHeld (Or.inl ⟨by rfl, ?_⟩) ?_
          rotate_left
          · (intro w hSw; (try dsimp only at hSw); go_simp; try with_reducible rfl)
          simp only [Act.put, List.setIfInBounds_toArray, List.set_cons_zero, List.set_cons_succ]
          refine take_at 9 (v := ?_) rfl (by kernel_rfl) (by kernel_rfl) (by kernel_rfl) (fun _ _ _ h => h) hHeld (Or.inl ⟨by rfl, ?_⟩) ?_
          rotate_left
          · (intro w hSw; (try dsimp only at hSw); go_simp; try with_reducible rfl)
          simp only [Act.put, List.setIfInBounds_toArray, List.set_cons_zero, List.set_cons_succ]
          refine take_at 10 (v := ?_) rfl (by kernel_rfl) (by kernel_rfl) (by kernel_rfl) (fun _ _ _ h => h) hHeld (Or.inl ⟨by rfl, ?_⟩) ?_
          rotate_left
          · (intro w hSw; (try dsimp only at hSw); go_simp; try with_reducible rfl)
          simp only [Act.put, List.setIfInBounds_toArray, List.set_cons_zero, List.set_cons_succ]
          refine take_at 11 (v := ?_) rfl (by kernel_rfl) (by kernel_rfl) (by kernel_rfl) (fun _ _ _ h => h) hHeld (Or.inl ⟨by rfl, ?_⟩) ?_
          rotate_left
          · (intro w hSw; (try dsimp only at hSw); go_simp; try with_reducible rfl)
          simp only [Act.put, List.setIfInBounds_toArray, List.set_cons_zero, List.set_cons_succ]
          refine take_at 12 (v := ?_) rfl (by kernel_rfl) (by kernel_rfl) (by kernel_rfl) (fun _ _ _ h => h) hHeld (Or.inl ⟨by rfl, ?_⟩) ?_
          rotate_left
          · (intro w hSw; (try dsimp only at hSw); go_simp; try with_reducible rfl)
          simp only [Act.put, List.setIfInBounds_toArray, List.set_cons_zero, List.set_cons_succ]
          refine take_at 13 (v := ?_) rfl (by kernel_rfl) (by kernel_rfl) (by kernel_rfl) (fun _ _ _ h => h) hHeld (Or.inl ⟨by rfl, ?_⟩) ?_
          rotate_left
          · (intro w hSw; (try dsimp only at hSw); go_simp; try with_reducible rfl)
          simp only [Act.put, List.setIfInBounds_toArray, List.set_cons_zero, List.set_cons_succ]
          refine take_at 14 (v := ?_) rfl (by kernel_rfl) (by kernel_rfl) (by kernel_rfl) (fun _ _ _ h => h) hHeld (Or.inl ⟨by rfl, ?_⟩) ?_
          rotate_left
          · (intro w hSw; (try dsimp only at hSw); go_simp; try with_reducible rfl)
          simp only [Act.put, List.setIfInBounds_toArray, List.set_cons_zero, List.set_cons_succ]
          refine take_at 15 (v := ?_) rfl (by kernel_rfl) (by kernel_rfl) (by kernel_rfl) (fun _ _ _ h => h) hHeld (Or.inl ⟨by rfl, ?_⟩) ?_
          rotate_left
          · (intro w hSw; (try dsimp only at hSw); go_simp; try with_reducible rfl)
          simp only [Act.put, List.setIfInBounds_toArray, List.set_cons_zero, List.set_cons_succ]
          refine ready_at 16 rfl (by kernel_rfl) (fun K hK => ?_)
          go_simp
          (go_at_call 118; with_reducible refine hLf.mono ?_; rintro e ya ⟨rfl, z0⟩; have z1 : Below wr.heap.size wr ya := chainB (Below.refl _ _).drew z0)
          refine hK.out _ _ (HX.out _ z1) (fun hHeld => ?_)
          clear hK K
          try simp only [Act.put, List.setIfInBounds_toArray, List.set_cons_zero, List.set_cons_succ]
          refine take_at 17 (v := ?_) rfl (by kernel_rfl) (by kernel_rfl) (by kernel_rfl) (fun _ _ _ h => h) hHeld (Or.inl ⟨by rfl, ?_⟩) ?_
          rotate_left
          · (intro w hSw; (try dsimp only at hSw); go_simp; try with_reducible rfl)
          simp only [Act.put, List.setIfInBounds_toArray, List.set_cons_zero, List.set_cons_succ]
          refine take_at 18 (v := ?_) rfl (by kernel_rfl) (by kernel_rfl) (by kernel_rfl) (fun _ _ _ h => h) hHeld (Or.inl ⟨by rfl, ?_⟩) ?_
          rotate_left
          · (intro w hSw; (try dsimp only at hSw); go_simp; try with_reducible rfl)
          simp only [Act.put, List.setIfInBounds_toArray, List.set_cons_zero, List.set_cons_succ]
          refine wpAnyH_done (by kernel_rfl) ?_ _
          have bya : Below W1.heap.size W1 ya := chainB HB.out z1
          have x1a := (K1.out.below bya).cell 1
          have tca := hBI.out ya bya
          clear x0 x1 hHeld HX hLf
          -- the tomb's test
          have HTM := HTr.out ya bya
          go_wp2_with fail
          refine HTM.mono ?_
          rintro e z ⟨rfl, bz⟩
          clear HTM
          have HBz : Hid (Below W1.heap.size W1 z) := chainB bya bz
          obtain ⟨ZA, hZA⟩ : ∃ ZA, ZA = (z.alloc (.cells #[.int .i64 n1, .int .i64 n2, .int .i64 n3, .int .i64 n4, .int .i64 C] 116)).alloc (.cells #[.int .i64 n1, .int .i64 n2, .int .i64 n3, .int .i64 n4] 114) := ⟨_, rfl⟩
          have HZA : Hid (ZA = (z.alloc (.cells #[.int .i64 n1, .int .i64 n2, .int .i64 n3, .int .i64 n4, .int .i64 C] 116)).alloc (.cells #[.int .i64 n1, .int .i64 n2, .int .i64 n3, .int .i64 n4] 114)) := hZA
          have KT : Hid (Bxs ZA z.heap.size 116 #[.int .i64 n1, .int .i64 n2, .int .i64 n3, .int .i64 n4, .int .i64 C]) := by rw [hZA]; exact (Bxs.new _ _ _).alloc _
          have KU : Hid (Bxs ZA (z.heap.size + 1) 114 #[.int .i64 n1, .int .i64 n2, .int .i64 n3, .int .i64 n4]) := by
            rw [hZA]
            have := Bxs.new (z.alloc (.cells #[.int .i64 n1, .int .i64 n2, .int .i64 n3, .int .i64 n4, .int .i64 C] 116)) 114 #[.int .i64 n1, .int .i64 n2, .int .i64 n3, .int .i64 n4]
            rwa [szA] at this
          have HBZ : Hid (Below W1.heap.size W1 ZA) := by rw [hZA]; exact alB (alB HBz.out _) _
          have KL : Hid (Bxs ZA w.heap.size 41 #[.slice (some ⟨br, orr, none⟩) rs.length cq, .slice (some ⟨b, off, none⟩) lv.length cp, .int .i64 now]) := K1.out.below HBZ.out
          clear hZA bya bz
          go_upto_region 9 with fail
          rw [← HZA.out]
          have t4 := KT.out.cell 4
          obtain ⟨u0, u1, u2, u3⟩ := KU.out.four
          obtain ⟨v0, v1, v2⟩ : ZA.cell? ⟨w.heap.size, 0, none⟩ = some (.slice (some ⟨br, orr, none⟩) rs.length cq) ∧ ZA.cell? ⟨w.heap.size, 1, none⟩ = some (.slice (some ⟨b, off, none⟩) lv.length cp) ∧ ZA.cell? ⟨w.heap.size, 2, none⟩ = some (.int .i64 now) := ⟨KL.out.cell 0, KL.out.cell 1, KL.out.cell 2⟩
          have HGn := HGo.out ZA HBZ.out
          cases hC : (C == 0) with
          | false =>
            have hC' : (C != 0) = true := by rw [bne, hC]; rfl
            have HV := HNo.out (by rw [hC]; rfl)
            go_wp2_with fail
            go_ret
            exact ⟨by rw [HV]; rfl, chainB B1.out HBZ.out⟩
          | true =>
            have hC' : (C != 0) = false := by rw [bne, hC]; rfl
            cases h1 : decide (n1 < (n : Int)) with
            | false =>
              have h1' : decide ((n : Int) ≤ n1) = true := decide_eq_true (by have := of_decide_eq_false h1; omega)
              have HV := HNo.out (by rw [hC, h1]; rfl)
              go_wp2_with fail
              go_ret
              exact ⟨by rw [HV]; rfl, chainB B1.out HBZ.out⟩
            | true =>
              have h1' : decide ((n : Int) ≤ n1) = false := decide_eq_false (by have := of_decide_eq_true h1; omega)
              cases h2 : GA with
              | false =>
                have HV := HNo.out (by rw [hC, h1, h2]; rfl)
                subst h2
                go_wp2_with fail
                refine HGn.mono ?_
                rintro e z2 ⟨rfl, bz2⟩
                go_wp2_with fail
                go_ret
                exact ⟨by rw [HV]; rfl, chainB (chainB B1.out HBZ.out) bz2⟩
              | true =>
                subst h2
                cases h3 : decide (n4 ≤ now) with
                | false =>
                  have h3' : decide (now < n4) = true := decide_eq_true (by have := of_decide_eq_false h3; omega)
                  have HV := HNo.out (by rw [hC, h1, h3]; rfl)
                  go_wp2_with fail
                  refine HGn.mono ?_
                  rintro e z2 ⟨rfl, bz2⟩
                  have q3 := (KU.out.below bz2).cell 3
                  have q4 := (KL.out.below bz2).cell 2
                  go_wp2_with fail
                  go_ret
                  exact ⟨by rw [HV]; rfl, chainB (chainB B1.out HBZ.out) bz2⟩
                | true =>
                  have h3' : decide (now < n4) = false := decide_eq_false (by have := of_decide_eq_true h3; omega)
                  cases h4 : (TB == (i : Int)) with
                  | false =>
                    have h4' : (TB != (i : Int)) = true := by rw [bne, h4]; rfl
                    have HV := HNo.out (by rw [hC, h1, h3, h4]; rfl)
                    go_wp2_with fail
                    refine HGn.mono ?_
                    rintro e z2 ⟨rfl, bz2⟩
                    have q0 := (KU.out.below bz2).cell 0
                    have q1 := (KU.out.below bz2).cell 1
                    have q3 := (KU.out.below bz2).cell 3
                    have q4 := (KL.out.below bz2).cell 2
                    have q5 := (KL.out.below bz2).cell 1
                    have HTb := HTo.out z2 (chainB HBZ.out bz2)
                    go_wp2_with fail
                    refine HTb.mono ?_
                    rintro e z3 ⟨rfl, bz3⟩
                    go_wp2_with fail
                    go_ret
                    exact ⟨by rw [HV]; rfl, chainB (chainB (chainB B1.out HBZ.out) bz2) bz3⟩
                  | true =>
                    have h4' : (TB != (i : Int)) = false := by rw [bne, h4]; rfl
                    have HV := HYes.out (by rw [hC, h1, h3, h4]; rfl)
                    have HV2 : Hid (lvGo rs now lv 0 0 lv = lvGo rs now lv (i + 1) n (lv.drop (i + 1))) := HV
                    clear HV HYes HNo
                    go_wp2_with fail
                    refine HGn.mono ?_
                    rintro e z2 ⟨rfl, bz2⟩
                    have q0 := (KU.out.below bz2).cell 0
                    have q1 := (KU.out.below bz2).cell 1
                    have q3 := (KU.out.below bz2).cell 3
                    have q4 := (KL.out.below bz2).cell 2
                    have q5 := (KL.out.below bz2).cell 1
                    have HTb := HTo.out z2 (chainB HBZ.out bz2)
                    go_wp2_with fail
                    refine HTb.mono ?_
                    rintro e z3 ⟨rfl, bz3⟩
                    have HB9 : Hid (Below W1.heap.size W1 z3) := chainB (chainB HBZ.out bz2) bz3
                    go_wp2_with fail
                    go_roundw
                    case rel => exact ⟨i + 1, n, by omega, by omega, by simp, rfl, HB9.out, HV2.out⟩
                    case measure => simp [Go.RowKit.intOf]; omega
        · have d2 : decide ((n : Int) < (rs.length : Int)) = false := decide_eq_false (by omega)
          have HX : Hid (∀ x, Below wr.heap.size wr x → x.cell? ⟨w.heap.size, 0, none⟩ = some (.slice q rs.length cq) ∧ x.cell? ⟨w.heap.size, 1, none⟩ = some (.slice (some ⟨b, off, none⟩) lv.length cp) ∧ x.cell? ⟨b, off + i, none⟩ = some (.string t)) := fun x hb => ⟨((K1.out.below HB.out).below hb).cell 0, ((K1.out.below HB.out).below hb).cell 1, hBI.out x (chainB HB.out hb)⟩
          clear HNX HNX0
          go_upto_region 5 with fail
          refine wp_region_held_drew (S := (fun w' => w'.cell? ⟨w.heap.size, 0, none⟩ = some (.slice q rs.length cq) ∧ w'.cell? ⟨w.heap.size, 1, none⟩ = some (.slice (some ⟨b, off, none⟩) lv.length cp) ∧ w'.cell? ⟨b, off + i, none⟩ = some (.string t))) (by kernel_rfl) (HX.out _ (Below.refl _ _).drew) (fun hHeld => ?_)
          refine take_at 0 (v := ?_) rfl (by kernel_rfl) (by kernel_rfl) (by kernel_rfl) (fun _ _ _ h => h) hHeld (Or.inl ⟨by rfl, ?_⟩) ?_
          rotate_left
          · (intro w hSw; (try dsimp only at hSw); go_simp; try with_reducible rfl)
          simp only [Act.put, List.setIfInBounds_toArray, List.set_cons_zero, List.set_cons_succ]
          refine take_at 1 (v := ?_) rfl (by kernel_rfl) (by kernel_rfl) (by kernel_rfl) (fun _ _ _ h => h) hHeld (Or.inl ⟨by rfl, ?_⟩) ?_
          rotate_left
          · (intro w hSw; (try dsimp only at hSw); go_simp; try with_reducible rfl)
          simp only [Act.put, List.setIfInBounds_toArray, List.set_cons_zero, List.set_cons_succ]
          refine take_at 2 (v := ?_) rfl (by kernel_rfl) (by kernel_rfl) (by kernel_rfl) (fun _ _ _ h => h) hHeld (Or.inl ⟨by rfl, ?_⟩) ?_
          rotate_left
          · (intro w hSw; (try dsimp only at hSw); go_simp; try with_reducible rfl)
          simp only [Act.put, List.setIfInBounds_toArray, List.set_cons_zero, List.set_cons_succ]
          refine take_at 3 (v := ?_) rfl (by kernel_rfl) (by kernel_rfl) (by kernel_rfl) (fun _ _ _ h => h) hHeld (Or.inl ⟨by rfl, ?_⟩) ?_
          rotate_left
          · (intro w hSw; (try dsimp only at hSw); go_simp; try with_reducible rfl)
          simp only [Act.put, List.setIfInBounds_toArray, List.set_cons_zero, List.set_cons_succ]
          refine take_at 4 (v := ?_) rfl (by kernel_rfl) (by kernel_rfl) (by kernel_rfl) (fun _ _ _ h => h) hHeld (Or.inl ⟨by rfl, ?_⟩) ?_
          rotate_left
          · (intro w hSw; (try dsimp only at hSw); go_simp; try with_reducible rfl)
          simp only [Act.put, List.setIfInBounds_toArray, List.set_cons_zero, List.set_cons_succ]
          refine take_at 5 (v := ?_) rfl (by kernel_rfl) (by kernel_rfl) (by kernel_rfl) (fun _ _ _ h => h) hHeld (Or.inl ⟨by rfl, ?_⟩) ?_
          rotate_left
          · (intro w hSw; (try dsimp only at hSw); go_simp; try with_reducible rfl)
          simp only [Act.put, List.setIfInBounds_toArray, List.set_cons_zero, List.set_cons_succ]
          refine take_at 6 (v := undef) rfl (by kernel_rfl) (by kernel_rfl) (by kernel_rfl) (fun _ _ _ h => h) hHeld (Or.inr ⟨by rfl, rfl⟩) ?_
          simp only [Act.put, List.setIfInBounds_toArray, List.set_cons_zero, List.set_cons_succ]
          refine take_at 7 (v := undef) rfl (by kernel_rfl) (by kernel_rfl) (by kernel_rfl) (fun _ _ _ h => h) hHeld (Or.inr ⟨by rfl, rfl⟩) ?_
          simp only [Act.put, List.setIfInBounds_toArray, List.set_cons_zero, List.set_cons_succ]
          refine take_at 8 (v := undef) rfl (by kernel_rfl) (by kernel_rfl) (by kernel_rfl) (fun _ _ _ h => h) hHeld (Or.inr ⟨by rfl, rfl⟩) ?_
          simp only [Act.put, List.setIfInBounds_toArray, List.set_cons_zero, List.set_cons_succ]
          refine take_at 9 (v := undef) rfl (by kernel_rfl) (by kernel_rfl) (by kernel_rfl) (fun _ _ _ h => h) hHeld (Or.inr ⟨by rfl, rfl⟩) ?_
          simp only [Act.put, List.setIfInBounds_toArray, List.set_cons_zero, List.set_cons_succ]
          refine take_at 10 (v := undef) rfl (by kernel_rfl) (by kernel_rfl) (by kernel_rfl) (fun _ _ _ h => h) hHeld (Or.inr ⟨by rfl, rfl⟩) ?_
          simp only [Act.put, List.setIfInBounds_toArray, List.set_cons_zero, List.set_cons_succ]
          refine take_at 11 (v := undef) rfl (by kernel_rfl) (by kernel_rfl) (by kernel_rfl) (fun _ _ _ h => h) hHeld (Or.inr ⟨by rfl, rfl⟩) ?_
          simp only [Act.put, List.setIfInBounds_toArray, List.set_cons_zero, List.set_cons_succ]
          refine take_at 12 (v := undef) rfl (by kernel_rfl) (by kernel_rfl) (by kernel_rfl) (fun _ _ _ h => h) hHeld (Or.inr ⟨by rfl, rfl⟩) ?_
          simp only [Act.put, List.setIfInBounds_toArray, List.set_cons_zero, List.set_cons_succ]
          refine take_at 13 (v := undef) rfl (by kernel_rfl) (by kernel_rfl) (by kernel_rfl) (fun _ _ _ h => h) hHeld (Or.inr ⟨by rfl, rfl⟩) ?_
          simp only [Act.put, List.setIfInBounds_toArray, List.set_cons_zero, List.set_cons_succ]
          refine take_at 14 (v := undef) rfl (by kernel_rfl) (by kernel_rfl) (by kernel_rfl) (fun _ _ _ h => h) hHeld (Or.inr ⟨by rfl, rfl⟩) ?_
          simp only [Act.put, List.setIfInBounds_toArray, List.set_cons_zero, List.set_cons_succ]
          refine take_at 15 (v := undef) rfl (by kernel_rfl) (by kernel_rfl) (by kernel_rfl) (fun _ _ _ h => h) hHeld (Or.inr ⟨by rfl, rfl⟩) ?_
          simp only [Act.put, List.setIfInBounds_toArray, List.set_cons_zero, List.set_cons_succ]
          refine take_at 16 (v := undef) rfl (by kernel_rfl) (by kernel_rfl) (by kernel_rfl) (fun _ _ _ h => h) hHeld (Or.inr ⟨by rfl, rfl⟩) ?_
          simp only [Act.put, List.setIfInBounds_toArray, List.set_cons_zero, List.set_cons_succ]
          refine take_at 17 (v := undef) rfl (by kernel_rfl) (by kernel_rfl) (by kernel_rfl) (fun _ _ _ h => h) hHeld (Or.inr ⟨by rfl, rfl⟩) ?_
          simp only [Act.put, List.setIfInBounds_toArray, List.set_cons_zero, List.set_cons_succ]
          refine take_at 18 (v := ?_) rfl (by kernel_rfl) (by kernel_rfl) (by kernel_rfl) (fun _ _ _ h => h) hHeld (Or.inl ⟨by rfl, ?_⟩) ?_
          rotate_left
          · (intro w hSw; (try dsimp only at hSw); go_simp; try with_reducible rfl)
          simp only [Act.put, List.setIfInBounds_toArray, List.set_cons_zero, List.set_cons_succ]
          refine wpAnyH_done (by kernel_rfl) ?_ _
          obtain ⟨ya, hya⟩ : ∃ ya, ya = wr.drew := ⟨_, rfl⟩
          rw [← hya]
          have bya : Below W1.heap.size W1 ya := by rw [hya]; exact HB.out.drew
          have x1a := (K1.out.below bya).cell 1
          have tca := hBI.out ya bya
          clear x0 x1 hHeld HX hya
          -- the tomb's test
          have HTM := HTr.out ya bya
          go_wp2_with fail
          refine HTM.mono ?_
          rintro e z ⟨rfl, bz⟩
          clear HTM
          have HBz : Hid (Below W1.heap.size W1 z) := chainB bya bz
          obtain ⟨ZA, hZA⟩ : ∃ ZA, ZA = (z.alloc (.cells #[.int .i64 n1, .int .i64 n2, .int .i64 n3, .int .i64 n4, .int .i64 C] 116)).alloc (.cells #[.int .i64 n1, .int .i64 n2, .int .i64 n3, .int .i64 n4] 114) := ⟨_, rfl⟩
          have HZA : Hid (ZA = (z.alloc (.cells #[.int .i64 n1, .int .i64 n2, .int .i64 n3, .int .i64 n4, .int .i64 C] 116)).alloc (.cells #[.int .i64 n1, .int .i64 n2, .int .i64 n3, .int .i64 n4] 114)) := hZA
          have KT : Hid (Bxs ZA z.heap.size 116 #[.int .i64 n1, .int .i64 n2, .int .i64 n3, .int .i64 n4, .int .i64 C]) := by rw [hZA]; exact (Bxs.new _ _ _).alloc _
          have KU : Hid (Bxs ZA (z.heap.size + 1) 114 #[.int .i64 n1, .int .i64 n2, .int .i64 n3, .int .i64 n4]) := by
            rw [hZA]
            have := Bxs.new (z.alloc (.cells #[.int .i64 n1, .int .i64 n2, .int .i64 n3, .int .i64 n4, .int .i64 C] 116)) 114 #[.int .i64 n1, .int .i64 n2, .int .i64 n3, .int .i64 n4]
            rwa [szA] at this
          have HBZ : Hid (Below W1.heap.size W1 ZA) := by rw [hZA]; exact alB (alB HBz.out _) _
          have KL : Hid (Bxs ZA w.heap.size 41 #[.slice q rs.length cq, .slice (some ⟨b, off, none⟩) lv.length cp, .int .i64 now]) := K1.out.below HBZ.out
          clear hZA bya bz
          go_upto_region 9 with fail
          rw [← HZA.out]
          have t4 := KT.out.cell 4
          obtain ⟨u0, u1, u2, u3⟩ := KU.out.four
          obtain ⟨v0, v1, v2⟩ : ZA.cell? ⟨w.heap.size, 0, none⟩ = some (.slice q rs.length cq) ∧ ZA.cell? ⟨w.heap.size, 1, none⟩ = some (.slice (some ⟨b, off, none⟩) lv.length cp) ∧ ZA.cell? ⟨w.heap.size, 2, none⟩ = some (.int .i64 now) := ⟨KL.out.cell 0, KL.out.cell 1, KL.out.cell 2⟩
          have HGn := HGo.out ZA HBZ.out
          cases hC : (C == 0) with
          | false =>
            have hC' : (C != 0) = true := by rw [bne, hC]; rfl
            have HV := HNo.out (by rw [hC]; rfl)
            go_wp2_with fail
            go_ret
            exact ⟨by rw [HV]; rfl, chainB B1.out HBZ.out⟩
          | true =>
            have hC' : (C != 0) = false := by rw [bne, hC]; rfl
            cases h1 : decide (n1 < (n : Int)) with
            | false =>
              have h1' : decide ((n : Int) ≤ n1) = true := decide_eq_true (by have := of_decide_eq_false h1; omega)
              have HV := HNo.out (by rw [hC, h1]; rfl)
              go_wp2_with fail
              go_ret
              exact ⟨by rw [HV]; rfl, chainB B1.out HBZ.out⟩
            | true =>
              have h1' : decide ((n : Int) ≤ n1) = false := decide_eq_false (by have := of_decide_eq_true h1; omega)
              cases h2 : GA with
              | false =>
                have HV := HNo.out (by rw [hC, h1, h2]; rfl)
                subst h2
                go_wp2_with fail
                refine HGn.mono ?_
                rintro e z2 ⟨rfl, bz2⟩
                go_wp2_with fail
                go_ret
                exact ⟨by rw [HV]; rfl, chainB (chainB B1.out HBZ.out) bz2⟩
              | true =>
                subst h2
                cases h3 : decide (n4 ≤ now) with
                | false =>
                  have h3' : decide (now < n4) = true := decide_eq_true (by have := of_decide_eq_false h3; omega)
                  have HV := HNo.out (by rw [hC, h1, h3]; rfl)
                  go_wp2_with fail
                  refine HGn.mono ?_
                  rintro e z2 ⟨rfl, bz2⟩
                  have q3 := (KU.out.below bz2).cell 3
                  have q4 := (KL.out.below bz2).cell 2
                  go_wp2_with fail
                  go_ret
                  exact ⟨by rw [HV]; rfl, chainB (chainB B1.out HBZ.out) bz2⟩
                | true =>
                  have h3' : decide (now < n4) = false := decide_eq_false (by have := of_decide_eq_true h3; omega)
                  cases h4 : (TB == (i : Int)) with
                  | false =>
                    have h4' : (TB != (i : Int)) = true := by rw [bne, h4]; rfl
                    have HV := HNo.out (by rw [hC, h1, h3, h4]; rfl)
                    go_wp2_with fail
                    refine HGn.mono ?_
                    rintro e z2 ⟨rfl, bz2⟩
                    have q0 := (KU.out.below bz2).cell 0
                    have q1 := (KU.out.below bz2).cell 1
                    have q3 := (KU.out.below bz2).cell 3
                    have q4 := (KL.out.below bz2).cell 2
                    have q5 := (KL.out.below bz2).cell 1
                    have HTb := HTo.out z2 (chainB HBZ.out bz2)
                    go_wp2_with fail
                    refine HTb.mono ?_
                    rintro e z3 ⟨rfl, bz3⟩
                    go_wp2_with fail
                    go_ret
                    exact ⟨by rw [HV]; rfl, chainB (chainB (chainB B1.out HBZ.out) bz2) bz3⟩
                  | true =>
                    have h4' : (TB != (i : Int)) = false := by rw [bne, h4]; rfl
                    have HV := HYes.out (by rw [hC, h1, h3, h4]; rfl)
                    have HV2 : Hid (lvGo rs now lv 0 0 lv = lvGo rs now lv (i + 1) n (lv.drop (i + 1))) := HV
                    clear HV HYes HNo
                    go_wp2_with fail
                    refine HGn.mono ?_
                    rintro e z2 ⟨rfl, bz2⟩
                    have q0 := (KU.out.below bz2).cell 0
                    have q1 := (KU.out.below bz2).cell 1
                    have q3 := (KU.out.below bz2).cell 3
                    have q4 := (KL.out.below bz2).cell 2
                    have q5 := (KL.out.below bz2).cell 1
                    have HTb := HTo.out z2 (chainB HBZ.out bz2)
                    go_wp2_with fail
                    refine HTb.mono ?_
                    rintro e z3 ⟨rfl, bz3⟩
                    have HB9 : Hid (Below W1.heap.size W1 z3) := chainB (chainB HBZ.out bz2) bz3
                    go_wp2_with fail
                    go_roundw
                    case rel => exact ⟨i + 1, n, by omega, by omega, by simp, rfl, HB9.out, HV2.out⟩
                    case measure => simp [Go.RowKit.intOf]; omega
    · obtain rfl : i = lv.length := by omega
      have HE : Hid (lvGo rs now lv 0 0 lv = decide (n = rs.length)) := by show _ = _; rw [HV.out, List.drop_length]; rfl
      have HF : Hid (decide (n = rs.length) = ((n : Int) == (rs.length : Int))) := by show _ = _; rw [Bool.eq_iff_iff, decide_eq_true_iff, beq_iff_eq]; omega
      clear HV
      go_wp2_with fail
      go_ret
      exact ⟨by rw [HE.out, HF.out]; rfl, chainB B1.out HB.out⟩
end Go.Proofs.YtonleickhincgaaGreatDoor
