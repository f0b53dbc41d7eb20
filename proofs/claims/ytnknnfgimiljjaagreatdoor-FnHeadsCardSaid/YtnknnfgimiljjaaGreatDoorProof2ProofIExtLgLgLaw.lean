/-
  Parts of one proof, laid as one text: Proof2, ProofI, ExtLg, LgLaw; what each says stands at its head.
-/
import Derived.Test.YtnknnfgimiljjaaGreatDoorRows
import Derived.Test.YtnknnfgimiljjaaGreatDoorBytesDigMath
import Derived.Test.YtnknnfgimiljjaaGreatDoorTreeMathSlABxKSlBOwnSJoinedOwnB
import Derived.Test.YtnknnfgimiljjaaGreatDoorPowerHalvesTreeTree2TreeHPathMathIncMathTakerTakePathConMathTakeProofConI
import Derived.Handy
import Derived.OwnWalk
import Derived.Deep.AppendLies
import Derived.Deep.RegionLaw
import Derived.Test.YtnknnfgimiljjaaGreatDoorPath2PutterPathILawSLawMLawMGLawFLawFMLawFRLawSG
import Derived.Test.YtnknnfgimiljjaaGreatDoorGetValGetTxtNumMathFldRdNumFromTmbMathLgMath
import Derived.Test.YtnknnfgimiljjaaGreatDoorLgAtKLgAnsLgRtShwKOneKFldGFldBlkRwBlkRowOpsLgO
import Derived.Test.YtnknnfgimiljjaaGreatDoorSpecLr
import Derived.Test.YtnknnfgimiljjaaGreatDoorLogRIImplPlCopiedImplClLfF
import Derived.WalkSpells
import Derived.Test.YtnknnfgimiljjaaGreatDoorTimeBPutMathPutNumPutTextFldMathFldRiseScanMath
import Derived.Test.YtnknnfgimiljjaaGreatDoorLtMathLaMathLfMathTakesLStepAppGrKDigAllTimeIImplFCBlNotTakes
/-
  The specification's l03Proof and ProofOf: the proof of the first ones, 'proofA', in new memory of its own.
  Conditions: the slice's cells hold the entries; old is an int64.
-/
namespace Go.Proofs.YtnknnfgimiljjaaGreatDoor
open Go.RowKit Go.Lib
set_option linter.unusedVariables false
set_option maxRecDepth 20000

set_option maxHeartbeats 2000000 in
theorem proof2_any (N : Nat) : ∀ (p : Option Addr) (cap : Nat) (ss : List ByteArray) (m : Nat) (whole : Bool) (w : World), ss.length = N → TxtAt w p ss → ss.length ≤ 1024 → ss.length ≤ cap → (∀ x ∈ ss, x.size ≤ 100) → 1 ≤ m → m ≤ ss.length →
    Calls Tryz.prog 85 #[.int .i64 (m : Int), .slice p ss.length cap, .bool whole] w fun e w' => ∃ v, e = .returned v ∧ w'.ownsRow w.heap.size 9 1 v (proofB m ss whole).length (strRow (proofB m ss whole)) ∧ Below w.heap.size w w' := by
  induction N using Nat.strongRecOn with
  | _ N ih =>
  intro p cap ss m whole w hN hp hn hcap h100 hm1 hm
  subst hN
  have HP : Hid (TxtAt w p ss) := hp
  have HX : Hid (∀ x ∈ ss, x.size ≤ 100) := h100
  clear hp h100
  by_cases he : m = ss.length
  · have d0 : ((m : Int) == (ss.length : Int)) = true := by simp; omega
    cases whole
    · have HB : Hid (proofB m ss false = [treeB ss]) := by show _ = _; rw [proofB_all he]; rfl
      have HC := tree2_any ss.length p cap ss w rfl HP.out (by omega) hcap HX.out
      generalize treeB ss = T at *
      clear ih he
      go_enter Tryz.func85, Tryz.ntmps85
      go_wp2_with fail
      refine HC.mono ?_
      rintro e w3 ⟨rfl, b3⟩
      go_wp2_with fail
      go_ret
      exact ⟨_, rfl, by rw [HB.out]; exact ownS_mono (alloc_own w3 T) b3.size, b3.alloc b3.size _⟩
    · have HB : Hid (proofB m ss true = []) := by show _ = _; rw [proofB_all he]; rfl
      clear ih he
      go_enter Tryz.func85, Tryz.ntmps85
      go_wp2_with fail
      go_ret
      exact ⟨_, rfl, by rw [HB.out]; exact ownS_none w, (Below.refl _ _).alloc (Nat.le_refl _) _⟩
  · have d0 : ((m : Int) == (ss.length : Int)) = false := by simp; omega
    have h2 : 2 ≤ ss.length := by omega
    obtain ⟨b, off, rfl, hb, _⟩ := HP.out 0 (by omega)
    have h1 := halfN_lt h2
    have h0 := halfN_pos ss.length
    have l1 : (ss.take (halfN ss.length)).length = halfN ss.length := by simp; omega
    have l2 : (ss.drop (halfN ss.length)).length = ss.length - halfN ss.length := by simp
    have hH := fun w => half2_any ss.length w h2 (by omega)
    obtain ⟨i0, hi0, hz0, hz1, hz2⟩ := info_parts infoStr
    by_cases hik : m ≤ halfN ss.length
    · have hlen := proofB_len (ss.take (halfN ss.length)) m hm1 (by omega) whole
      have HB : Hid (proofB m (ss.take (halfN ss.length)) whole ++ [treeB (ss.drop (halfN ss.length))] = proofB m ss whole) := (proofB_left h2 he hik whole).symm
      have I1 : Hid (∀ w', Below w.heap.size w w' → Calls Tryz.prog 85 #[.int .i64 (m : Int), .slice (some ⟨b, off, none⟩) (halfN ss.length) cap, .bool whole] w' fun e w'' => ∃ v, e = .returned v ∧ w''.ownsRow w.heap.size 9 1 v (proofB m (ss.take (halfN ss.length)) whole).length (strRow (proofB m (ss.take (halfN ss.length)) whole)) ∧ Below w'.heap.size w' w'') := by
        intro w' hbl
        have := ih _ (by omega) (some ⟨b, off, none⟩) cap (ss.take (halfN ss.length)) m whole w' l1 ((HP.out.below hbl).take _) (by omega) (by omega) (fun x hx => HX.out x (List.mem_of_mem_take hx)) hm1 (by omega)
        rw [l1] at this
        exact this.mono fun e w'' ⟨v, he, ho, hb⟩ => ⟨v, he, ownS_mono ho hbl.size, hb⟩
      have I2 : Hid (∀ w', Below w.heap.size w w' → Calls Tryz.prog 34 #[.slice (some ⟨b, off + halfN ss.length, none⟩) (ss.length - halfN ss.length) (cap - halfN ss.length)] w' fun e w'' => e = .returned (.string (treeB (ss.drop (halfN ss.length)))) ∧ Below w'.heap.size w' w'') := by
        intro w' hbl
        have := tree2_any _ (some ⟨b, off + halfN ss.length, none⟩) (cap - halfN ss.length) (ss.drop (halfN ss.length)) w' l2 ((HP.out.below hbl).drop _) (by omega) (by omega) (fun x hx => HX.out x (List.mem_of_mem_drop hx))
        rwa [l2] at this
      clear l1 l2
      have hQl : (proofB m (ss.take (halfN ss.length)) whole).length ≤ 1024 := by simp at hlen; omega
      clear hlen
      generalize proofB m (ss.take (halfN ss.length)) whole = Q at *
      generalize treeB (ss.drop (halfN ss.length)) = T at *
      generalize halfN ss.length = k at *
      clear ih he
      have q1 : (k : Int) ≤ cap := by omega
      have q2 : (k : Int) ≤ ss.length := by omega
      have q3 : (ss.length : Int) ≤ cap := by omega
      have q4 : ¬ cap = k := by omega
      have q5 : (0 : Int) ≤ k := by omega
      have q6 : IntKind.i64.wrap ((m : Int) - (k : Int)) = (m : Int) - (k : Int) := by rw [IntKind.wrap_i64]; omega
      go_enter Tryz.func85, Tryz.ntmps85
      go_wp2_with fail
      refine (hH _).mono ?_
      rintro e w1 ⟨rfl, hw1⟩
      subst hw1
      go_wp2_with fail
      go_region_law
        (first
          | (refine step_append_lies _ rfl _ _ 24 rfl w1.heap.size 9 i0 (.string ByteArray.empty) 1 16 Tryz.underlying24 hi0 hz0 hz1 hz2 rfl (by omega) v2 Q.length (strRow Q) rfl (own3.alloc _) ⟨w3.heap.size, 0, none⟩ 1 1 [.string T] rfl rfl (World.news_of_block (cs := #[.string T]) (t := 9) (fr := (0, 0)) (MapKept.heap_alloc w3 _).1) (by simp [Value.oneCell']) (by omega) (by unfold maxLen; omega) (by omega) (by simp; omega) (w3.heap.size + 1) (by simp) ?_; intro g2 cap2 w4 hown4 hgrow hat hltg)
          | (go_simp; go_at_call 34; refine (I2.out _ b2).mono ?_; rintro e w3 ⟨rfl, b3⟩; have own3 := ownS_below own2 b3; have b3 := chainB b2 b3; have hs3 := b3.size)
          | (go_simp; go_at_call 85; refine (I1.out _ ((Below.refl _ _).drew)).mono ?_; rintro e w2 ⟨v2, rfl, own2, b2⟩; have b2 := chainB ((Below.refl _ _).drew) b2))
      all_goals
        have B4 : Below w1.heap.size w1 w4 := (b3.alloc b3.size _).grown hgrow (by simp; omega) (fun j hj => (own3.lt j hj).1)
        have hfin : w4.ownsRow w1.heap.size 9 1 (.slice (some ⟨g2, 0, none⟩) (Q.length + 1) cap2) (proofB m ss whole).length (strRow (proofB m ss whole)) := by
          rw [← HB.out]
          have e1 : (Q ++ [T]).length = Q.length + 1 := by simp
          have e2 : strRow (Q ++ [T]) = strRow Q ++ [.string T] := by simp [strRow]
          rw [e1, e2]
          exact hown4
        go_wp2
        go_ret
        exact ⟨_, rfl, hfin, B4⟩
    · have hlen := proofB_len (ss.drop (halfN ss.length)) (m - halfN ss.length) (by omega) (by omega) false
      have HB : Hid (proofB (m - halfN ss.length) (ss.drop (halfN ss.length)) false ++ [treeB (ss.take (halfN ss.length))] = proofB m ss whole) := (proofB_right h2 he hik whole).symm
      have I1 : Hid (∀ w', Below w.heap.size w w' → Calls Tryz.prog 85 #[.int .i64 ((m : Int) - (halfN ss.length : Int)), .slice (some ⟨b, off + halfN ss.length, none⟩) (ss.length - halfN ss.length) (cap - halfN ss.length), .bool false] w' fun e w'' => ∃ v, e = .returned v ∧ w''.ownsRow w.heap.size 9 1 v (proofB (m - halfN ss.length) (ss.drop (halfN ss.length)) false).length (strRow (proofB (m - halfN ss.length) (ss.drop (halfN ss.length)) false)) ∧ Below w'.heap.size w' w'') := by
        intro w' hbl
        have := ih _ (by omega) (some ⟨b, off + halfN ss.length, none⟩) (cap - halfN ss.length) (ss.drop (halfN ss.length)) (m - halfN ss.length) false w' l2 ((HP.out.below hbl).drop _) (by omega) (by omega) (fun x hx => HX.out x (List.mem_of_mem_drop hx)) (by omega) (by omega)
        rw [l2, show ((m - halfN ss.length : Nat) : Int) = (m : Int) - (halfN ss.length : Int) by omega] at this
        exact this.mono fun e w'' ⟨v, he, ho, hb⟩ => ⟨v, he, ownS_mono ho hbl.size, hb⟩
      have I2 : Hid (∀ w', Below w.heap.size w w' → Calls Tryz.prog 34 #[.slice (some ⟨b, off, none⟩) (halfN ss.length) cap] w' fun e w'' => e = .returned (.string (treeB (ss.take (halfN ss.length)))) ∧ Below w'.heap.size w' w'') := by
        intro w' hbl
        have := tree2_any _ (some ⟨b, off, none⟩) cap (ss.take (halfN ss.length)) w' l1 ((HP.out.below hbl).take _) (by omega) (by omega) (fun x hx => HX.out x (List.mem_of_mem_take hx))
        rwa [l1] at this
      clear l1 l2
      have hQl : (proofB (m - halfN ss.length) (ss.drop (halfN ss.length)) false).length ≤ 1024 := by simp at hlen; omega
      clear hlen
      generalize proofB (m - halfN ss.length) (ss.drop (halfN ss.length)) false = Q at *
      generalize treeB (ss.take (halfN ss.length)) = T at *
      generalize halfN ss.length = k at *
      clear ih he
      have q1 : (k : Int) ≤ cap := by omega
      have q2 : (k : Int) ≤ ss.length := by omega
      have q3 : (ss.length : Int) ≤ cap := by omega
      have q4 : ¬ cap = k := by omega
      have q5 : (0 : Int) ≤ k := by omega
      have q6 : IntKind.i64.wrap ((m : Int) - (k : Int)) = (m : Int) - (k : Int) := by rw [IntKind.wrap_i64]; omega
      go_enter Tryz.func85, Tryz.ntmps85
      go_wp2_with fail
      refine (hH _).mono ?_
      rintro e w1 ⟨rfl, hw1⟩
      subst hw1
      go_wp2_with fail
      go_region_law
        (first
          | (refine step_append_lies _ rfl _ _ 24 rfl w1.heap.size 9 i0 (.string ByteArray.empty) 1 16 Tryz.underlying24 hi0 hz0 hz1 hz2 rfl (by omega) v2 Q.length (strRow Q) rfl (own3.alloc _) ⟨w3.heap.size, 0, none⟩ 1 1 [.string T] rfl rfl (World.news_of_block (cs := #[.string T]) (t := 9) (fr := (0, 0)) (MapKept.heap_alloc w3 _).1) (by simp [Value.oneCell']) (by omega) (by unfold maxLen; omega) (by omega) (by simp; omega) (w3.heap.size + 1) (by simp) ?_; intro g2 cap2 w4 hown4 hgrow hat hltg)
          | (go_simp; go_at_call 34; refine (I2.out _ b2).mono ?_; rintro e w3 ⟨rfl, b3⟩; have own3 := ownS_below own2 b3; have b3 := chainB b2 b3; have hs3 := b3.size)
          | (go_simp; go_at_call 85; refine (I1.out _ ((Below.refl _ _).drew)).mono ?_; rintro e w2 ⟨v2, rfl, own2, b2⟩; have b2 := chainB ((Below.refl _ _).drew) b2))
      all_goals
        have B4 : Below w1.heap.size w1 w4 := (b3.alloc b3.size _).grown hgrow (by simp; omega) (fun j hj => (own3.lt j hj).1)
        have hfin : w4.ownsRow w1.heap.size 9 1 (.slice (some ⟨g2, 0, none⟩) (Q.length + 1) cap2) (proofB m ss whole).length (strRow (proofB m ss whole)) := by
          rw [← HB.out]
          have e1 : (Q ++ [T]).length = Q.length + 1 := by simp
          have e2 : strRow (Q ++ [T]) = strRow Q ++ [.string T] := by simp [strRow]
          rw [e1, e2]
          exact hown4
        go_wp2
        go_ret
        exact ⟨_, rfl, hfin, B4⟩

set_option maxHeartbeats 1000000 in
theorem specProof_any (p : Option Addr) (cap : Nat) (ss : List ByteArray) (i : Int) (w : World) (hp : TxtAt w p ss) (hn : ss.length ≤ 140737488355328) (hcap : ss.length ≤ cap) (i0 : -9223372036854775808 ≤ i) (i1 : i ≤ 9223372036854775807) :
    Calls Tryz.prog 43 #[.slice p ss.length cap, .int .i64 i] w fun e w' => ∃ v, e = .returned v ∧ w'.ownsRow w.heap.size 9 1 v (proofA ss i).length (strRow (proofA ss i)) ∧ Below w.heap.size w w' := by
  have HP : Hid (TxtAt w p ss) := hp
  clear hp
  have H0 : Hid (proofA ss i = if entB ss = true ∧ 1 ≤ i ∧ i ≤ ss.length then proofB i.toNat ss true else []) := rfl
  have B0 : Hid (Below w.heap.size w (w.alloc (.cells #[] 9))) := (Below.refl _ _).alloc (Nat.le_refl _) _
  by_cases hl : ss.length ≤ 400
  case neg =>
    have d0 : decide (400 < (ss.length : Int)) = true := decide_eq_true (by omega)
    have H : Hid (proofA ss i = []) := H0.out.trans (if_neg fun h => by have := entB_len h.1; omega)
    go_enter Tryz.func43, Tryz.ntmps43
    go_wp2_with fail
    go_ret
    exact ⟨_, rfl, by rw [H.out]; exact ownS_none w, B0.out⟩
  have d0 : decide (400 < (ss.length : Int)) = false := decide_eq_false (by omega)
  have hr := ent2_any p cap ss w HP.out hn hcap
  cases he : entB ss
  · rw [he] at hr
    have H : Hid (proofA ss i = []) := H0.out.trans (if_neg fun h => by rw [he] at h; exact absurd h.1 (by simp))
    clear he
    go_enter Tryz.func43, Tryz.ntmps43
    go_wp2_with fail
    refine hr.mono ?_
    rintro e w1 ⟨rfl, rfl⟩
    go_wp2_with fail
    go_ret
    exact ⟨_, rfl, by rw [H.out]; exact ownS_none w1, B0.out⟩
  by_cases c1 : 1 ≤ i
  case neg =>
    rw [he] at hr
    have d1 : decide (i < 1) = true := decide_eq_true (by omega)
    have H : Hid (proofA ss i = []) := H0.out.trans (if_neg fun h => c1 h.2.1)
    clear he
    go_enter Tryz.func43, Tryz.ntmps43
    go_wp2_with fail
    refine hr.mono ?_
    rintro e w1 ⟨rfl, rfl⟩
    go_wp2_with fail
    go_ret
    exact ⟨_, rfl, by rw [H.out]; exact ownS_none w1, B0.out⟩
  have d1 : decide (i < 1) = false := decide_eq_false (by omega)
  by_cases c2 : i ≤ ss.length
  case neg =>
    rw [he] at hr
    have d2 : decide ((ss.length : Int) < i) = true := decide_eq_true (by omega)
    have H : Hid (proofA ss i = []) := H0.out.trans (if_neg fun h => c2 h.2.2)
    clear he
    go_enter Tryz.func43, Tryz.ntmps43
    go_wp2_with fail
    refine hr.mono ?_
    rintro e w1 ⟨rfl, rfl⟩
    go_wp2_with fail
    go_ret
    exact ⟨_, rfl, by rw [H.out]; exact ownS_none w1, B0.out⟩
  have d2 : decide ((ss.length : Int) < i) = false := decide_eq_false (by omega)
  have H : Hid (proofA ss i = proofB i.toNat ss true) := H0.out.trans (if_pos ⟨he, c1, c2⟩)
  have h100 := entB_all he
  rw [he] at hr
  obtain ⟨I, rfl⟩ := Int.eq_ofNat_of_zero_le (show 0 ≤ i by omega)
  rw [Int.toNat_natCast] at H
  have d3 : decide (ss.length < I) = false := decide_eq_false (by omega)
  have hc := proof2_any ss.length p cap ss I true w rfl HP.out (by omega) hcap h100 (by omega) (by omega)
  rw [← H.out] at hc
  clear he h100 H0 H
  generalize proofA ss (I : Int) = R at *
  go_enter Tryz.func43, Tryz.ntmps43
  go_wp2_with fail
  refine hr.mono ?_
  rintro e w1 ⟨rfl, hw1⟩
  subst hw1
  go_wp2_with fail
  refine hc.mono ?_
  rintro e w2 ⟨v, rfl, ho, hb⟩
  have HO : Hid (w2.ownsRow w1.heap.size 9 1 v R.length (strRow R)) := ho
  clear ho
  go_wp2_with fail
  go_ret
  exact ⟨_, rfl, HO.out, hb⟩
end Go.Proofs.YtnknnfgimiljjaaGreatDoor
/-
  The program's putProof and ProofOf: the proof of the first ones, 'proofA', in new memory of its own.
  Conditions: the slice's cells hold the entries; old is an int64; the two tables lie as the program's text lays them.
-/
namespace Go.Proofs.YtnknnfgimiljjaaGreatDoor
open Go.RowKit Go.Lib
set_option linter.unusedVariables false
set_option maxRecDepth 20000

set_option maxHeartbeats 1000000 in
theorem putProof_any (N : Nat) : ∀ (W0 : World) (X : Nat) (p : Option Addr) (cap : Nat) (ss : List ByteArray) (m : Nat) (whole : Bool) (l : List ByteArray) (v : Value) (w : World), ss.length = N → Tabs W0 → TxtAt W0 p ss → ss.length ≤ 1024 → ss.length ≤ cap → (∀ x ∈ ss, x.size ≤ 100) →
    1 ≤ m → m ≤ ss.length → l.length + ss.length ≤ 1048576 → PutS W0 X l v w →
    Calls Tryz.prog 83 #[.slice p ss.length cap, .int .i64 (m : Int), .bool whole, putF X] w fun e w' => e = .returned (.tuple #[]) ∧ ∃ v', PutS W0 X (l ++ proofB m ss whole) v' w' := by
  induction N using Nat.strongRecOn with
  | _ N ih =>
  intro W0 X p cap ss m whole l v w hN hT hp hn hcap h100 hm1 hm hl hK
  subst hN
  have HT : Hid (Tabs W0) := hT
  have HP : Hid (TxtAt W0 p ss) := hp
  have HX : Hid (∀ x ∈ ss, x.size ≤ 100) := h100
  have HK : Hid (PutS W0 X l v w) := hK
  clear hT hp h100 hK
  unfold putF at ih ⊢
  by_cases he : m = ss.length
  · have d0 : ((m : Int) == (ss.length : Int)) = true := by simp; omega
    cases whole
    · have HB : Hid (l ++ [treeB ss] = l ++ proofB m ss false) := by show _ = _; rw [proofB_all he]; rfl
      have HC := put_any W0 X l v p cap ss w HT.out HP.out (by omega) hcap HX.out (by omega) HK.out
      rw [HB.out] at HC
      clear ih he HB
      generalize l ++ proofB m ss false = Q at *
      go_enter Tryz.func83, Tryz.ntmps83
      go_wp2_with fail
      refine HC.mono ?_
      rintro e w3 ⟨rfl, v3, K3⟩
      have HK3 : Hid (PutS W0 X Q v3 w3) := K3
      clear K3
      go_wp2_with fail
      refine bodyPost_ret (results_none rfl _ _ _) rfl ?_
      exact ⟨rfl, v3, HK3.out⟩
    · have HB : Hid (l = l ++ proofB m ss true) := by show _ = _; rw [proofB_all he]; simp
      clear ih he
      go_enter Tryz.func83, Tryz.ntmps83
      go_wp2_with fail
      refine bodyPost_ret (results_none rfl _ _ _) rfl ?_
      exact ⟨rfl, v, by rw [← HB.out]; exact HK.out⟩
  · have d0 : ((m : Int) == (ss.length : Int)) = false := by simp; omega
    have h2 : 2 ≤ ss.length := by omega
    obtain ⟨b, off, rfl, hb, _⟩ := HP.out 0 (by omega)
    have h1 := halfN_lt h2
    have h0 := halfN_pos ss.length
    have l1 : (ss.take (halfN ss.length)).length = halfN ss.length := by simp; omega
    have l2 : (ss.drop (halfN ss.length)).length = ss.length - halfN ss.length := by simp
    have hH := fun w => halves_any b off ss.length cap w h2 (by omega) hcap
    by_cases hik : m ≤ halfN ss.length
    · have hlen := proofB_len (ss.take (halfN ss.length)) m hm1 (by omega) whole
      have HB : Hid (l ++ proofB m (ss.take (halfN ss.length)) whole ++ [treeB (ss.drop (halfN ss.length))] = l ++ proofB m ss whole) := by
        show _ = _
        rw [proofB_left h2 he hik, List.append_assoc]
      have I1 : Hid (∀ w', PutS W0 X l v w' → Calls Tryz.prog 83 #[.slice (some ⟨b, off, none⟩) (halfN ss.length) (halfN ss.length), .int .i64 (m : Int), .bool whole, .func (.func 128) #[] #[.pointer (some ⟨X, 0, none⟩)]] w' fun e w'' => e = .returned (.tuple #[]) ∧ ∃ v', PutS W0 X (l ++ proofB m (ss.take (halfN ss.length)) whole) v' w'') := by
        intro w' hK
        have := ih _ (by omega) W0 X (some ⟨b, off, none⟩) (halfN ss.length) (ss.take (halfN ss.length)) m whole l v w' l1 HT.out (HP.out.take _) (by omega) (by omega) (fun x hx => HX.out x (List.mem_of_mem_take hx)) hm1 (by omega) (by omega) hK
        rwa [l1] at this
      have I2 : Hid (∀ l' v' w', l'.length ≤ 1048576 → PutS W0 X l' v' w' → Calls Tryz.prog 128 #[.slice (some ⟨b, off + halfN ss.length, none⟩) (ss.length - halfN ss.length) (ss.length - halfN ss.length), .pointer (some ⟨X, 0, none⟩)] w' fun e w'' => e = .returned (.tuple #[]) ∧ ∃ v'', PutS W0 X (l' ++ [treeB (ss.drop (halfN ss.length))]) v'' w'') := by
        intro l' v' w' hl' hK
        have := put_any W0 X l' v' (some ⟨b, off + halfN ss.length, none⟩) (ss.length - halfN ss.length) (ss.drop (halfN ss.length)) w' HT.out (HP.out.drop _) (by omega) (by omega) (fun x hx => HX.out x (List.mem_of_mem_drop hx)) hl' hK
        rwa [l2] at this
      have hll : (l ++ proofB m (ss.take (halfN ss.length)) whole).length ≤ 1048576 := by rw [List.length_append]; omega
      clear l1 l2 hlen
      generalize l ++ proofB m (ss.take (halfN ss.length)) whole = Q at *
      generalize treeB (ss.drop (halfN ss.length)) = T2 at *
      generalize halfN ss.length = k at *
      clear ih he
      go_enter Tryz.func83, Tryz.ntmps83
      go_wp2_with fail
      refine (hH _).mono ?_
      rintro e w1 ⟨rfl, b1⟩
      go_wp2_with fail
      refine (I1.out _ (HK.out.below b1)).mono ?_
      rintro e w2 ⟨rfl, v2, K2⟩
      have HK2 : Hid (PutS W0 X Q v2 w2) := K2
      clear K2
      go_wp2_with fail
      refine (I2.out Q v2 _ hll HK2.out).mono ?_
      rintro e w3 ⟨rfl, v3, K3⟩
      have HK3 : Hid (PutS W0 X (Q ++ [T2]) v3 w3) := K3
      clear K3
      go_wp2_with fail
      refine bodyPost_ret (results_none rfl _ _ _) rfl ?_
      exact ⟨rfl, v3, by rw [← HB.out]; exact HK3.out⟩
    · have hlen := proofB_len (ss.drop (halfN ss.length)) (m - halfN ss.length) (by omega) (by omega) false
      have HB : Hid (l ++ proofB (m - halfN ss.length) (ss.drop (halfN ss.length)) false ++ [treeB (ss.take (halfN ss.length))] = l ++ proofB m ss whole) := by
        show _ = _
        rw [proofB_right h2 he hik, List.append_assoc]
      have I1 : Hid (∀ w', PutS W0 X l v w' → Calls Tryz.prog 83 #[.slice (some ⟨b, off + halfN ss.length, none⟩) (ss.length - halfN ss.length) (ss.length - halfN ss.length), .int .i64 ((m : Int) - (halfN ss.length : Int)), .bool false, .func (.func 128) #[] #[.pointer (some ⟨X, 0, none⟩)]] w' fun e w'' => e = .returned (.tuple #[]) ∧ ∃ v', PutS W0 X (l ++ proofB (m - halfN ss.length) (ss.drop (halfN ss.length)) false) v' w'') := by
        intro w' hK
        have := ih _ (by omega) W0 X (some ⟨b, off + halfN ss.length, none⟩) (ss.length - halfN ss.length) (ss.drop (halfN ss.length)) (m - halfN ss.length) false l v w' l2 HT.out (HP.out.drop _) (by omega) (by omega) (fun x hx => HX.out x (List.mem_of_mem_drop hx)) (by omega) (by omega) (by omega) hK
        rw [l2, show ((m - halfN ss.length : Nat) : Int) = (m : Int) - (halfN ss.length : Int) by omega] at this
        exact this
      have I2 : Hid (∀ l' v' w', l'.length ≤ 1048576 → PutS W0 X l' v' w' → Calls Tryz.prog 128 #[.slice (some ⟨b, off, none⟩) (halfN ss.length) (halfN ss.length), .pointer (some ⟨X, 0, none⟩)] w' fun e w'' => e = .returned (.tuple #[]) ∧ ∃ v'', PutS W0 X (l' ++ [treeB (ss.take (halfN ss.length))]) v'' w'') := by
        intro l' v' w' hl' hK
        have := put_any W0 X l' v' (some ⟨b, off, none⟩) (halfN ss.length) (ss.take (halfN ss.length)) w' HT.out (HP.out.take _) (by omega) (by omega) (fun x hx => HX.out x (List.mem_of_mem_take hx)) hl' hK
        rwa [l1] at this
      have hll : (l ++ proofB (m - halfN ss.length) (ss.drop (halfN ss.length)) false).length ≤ 1048576 := by rw [List.length_append]; omega
      clear l1 l2 hlen
      generalize l ++ proofB (m - halfN ss.length) (ss.drop (halfN ss.length)) false = Q at *
      generalize treeB (ss.take (halfN ss.length)) = T2 at *
      generalize halfN ss.length = k at *
      clear ih he
      go_enter Tryz.func83, Tryz.ntmps83
      go_wp2_with fail
      refine (hH _).mono ?_
      rintro e w1 ⟨rfl, b1⟩
      go_wp2_with fail
      refine (I1.out _ (HK.out.below b1)).mono ?_
      rintro e w2 ⟨rfl, v2, K2⟩
      have HK2 : Hid (PutS W0 X Q v2 w2) := K2
      clear K2
      go_wp2_with fail
      refine (I2.out Q v2 _ hll HK2.out).mono ?_
      rintro e w3 ⟨rfl, v3, K3⟩
      have HK3 : Hid (PutS W0 X (Q ++ [T2]) v3 w3) := K3
      clear K3
      go_wp2_with fail
      go_end0
      exact ⟨rfl, v3, by rw [← HB.out]; exact HK3.out⟩

set_option maxHeartbeats 1000000 in
theorem implProof_any (p : Option Addr) (cap : Nat) (ss : List ByteArray) (i : Int) (w : World) (hT : Tabs w) (hp : TxtAt w p ss) (hn : ss.length ≤ 140737488355328) (hcap : ss.length ≤ cap) (i0 : -9223372036854775808 ≤ i) (i1 : i ≤ 9223372036854775807) :
    Calls Tryz.prog 42 #[.slice p ss.length cap, .int .i64 i] w fun e w' => ∃ v, e = .returned v ∧ w'.ownsRow w.heap.size 9 1 v (proofA ss i).length (strRow (proofA ss i)) ∧ Below w.heap.size w w' := by
  have HT : Hid (Tabs w) := hT
  have HP : Hid (TxtAt w p ss) := hp
  clear hT hp
  have hr := entR_any p cap ss w HP.out hn hcap
  have H0 : Hid (proofA ss i = if entB ss = true ∧ 1 ≤ i ∧ i ≤ ss.length then proofB i.toNat ss true else []) := rfl
  cases he : entB ss
  · rw [he] at hr
    have H : Hid (proofA ss i = []) := H0.out.trans (if_neg fun h => by rw [he] at h; exact absurd h.1 (by simp))
    clear he
    go_enter Tryz.func42, Tryz.ntmps42
    go_wp2_with fail
    refine hr.mono ?_
    rintro e w1 ⟨rfl, rfl⟩
    go_wp2_with fail
    go_ret
    exact ⟨_, rfl, by rw [H.out]; exact World.ownsRow_nil _ _ _ _, Below.refl _ _⟩
  by_cases c1 : 1 ≤ i
  case neg =>
    rw [he] at hr
    have d1 : decide (i < 1) = true := decide_eq_true (by omega)
    have H : Hid (proofA ss i = []) := H0.out.trans (if_neg fun h => c1 h.2.1)
    clear he
    go_enter Tryz.func42, Tryz.ntmps42
    go_wp2_with fail
    refine hr.mono ?_
    rintro e w1 ⟨rfl, rfl⟩
    go_wp2_with fail
    go_ret
    exact ⟨_, rfl, by rw [H.out]; exact World.ownsRow_nil _ _ _ _, Below.refl _ _⟩
  have d1 : decide (i < 1) = false := decide_eq_false (by omega)
  by_cases c2 : i ≤ ss.length
  case neg =>
    rw [he] at hr
    have d2 : decide ((ss.length : Int) < i) = true := decide_eq_true (by omega)
    have H : Hid (proofA ss i = []) := H0.out.trans (if_neg fun h => c2 h.2.2)
    clear he
    go_enter Tryz.func42, Tryz.ntmps42
    go_wp2_with fail
    refine hr.mono ?_
    rintro e w1 ⟨rfl, rfl⟩
    go_wp2_with fail
    go_ret
    exact ⟨_, rfl, by rw [H.out]; exact World.ownsRow_nil _ _ _ _, Below.refl _ _⟩
  have d2 : decide ((ss.length : Int) < i) = false := decide_eq_false (by omega)
  have H : Hid (proofA ss i = proofB i.toNat ss true) := H0.out.trans (if_pos ⟨he, c1, c2⟩)
  have h100 := entB_all he
  have h64 := entB_len he
  rw [he] at hr
  obtain ⟨I, rfl⟩ := Int.eq_ofNat_of_zero_le (show 0 ≤ i by omega)
  rw [Int.toNat_natCast] at H
  have d3 : decide (ss.length < I) = false := decide_eq_false (by omega)
  have HPP : Hid (∀ w', PutS w w.heap.size [] (.slice none 0 0) w' → Calls Tryz.prog 83 #[.slice p ss.length cap, .int .i64 (I : Int), .bool true, .func (.func 128) #[] #[.pointer (some ⟨w.heap.size, 0, none⟩)]] w' fun e w'' => e = .returned (.tuple #[]) ∧ ∃ v', PutS w w.heap.size (proofA ss I) v' w'') := by
    intro w' hK
    have := putProof_any ss.length w w.heap.size p cap ss I true [] _ w' rfl HT.out HP.out (by omega) hcap h100 (by omega) (by omega) (by simp; omega) hK
    rw [List.nil_append, ← H.out] at this
    exact this
  have HTK := putter_any w
  unfold putF allF at HTK
  clear he h100 H0 H
  generalize proofA ss (I : Int) = R at *
  go_enter Tryz.func42, Tryz.ntmps42
  go_wp2_with fail
  refine hr.mono ?_
  rintro e w1 ⟨rfl, hw1⟩
  subst hw1
  go_wp2_with fail
  refine HTK.mono ?_
  rintro e w2 ⟨rfl, K2⟩
  have HK2 : Hid (PutS w1 w1.heap.size [] (.slice none 0 0) w2) := K2
  clear K2
  go_wp2_with fail
  refine (HPP.out _ HK2.out).mono ?_
  rintro e w3 ⟨rfl, v3, K3⟩
  have HK3 : Hid (PutS w1 w1.heap.size R v3 w3) := K3
  clear K3
  go_wp2_with fail
  refine (all_any w1 w1.heap.size R v3 w3 HK3.out).mono ?_
  rintro e w4 ⟨rfl, hw4⟩
  subst hw4
  go_wp2_with fail
  go_ret
  exact ⟨_, rfl, HK3.out.own, HK3.out.bel⟩
end Go.Proofs.YtnknnfgimiljjaaGreatDoor
/-
  What the specification's and the program's Extend answer of any log in memory: of a right one the proof of its leaves, else nothing; the answer owns its memory.
-/
namespace Go.Proofs.YtnknnfgimiljjaaGreatDoor
open Go.RowKit Go.Lib
set_option linter.unusedVariables false
set_option maxRecDepth 20000

def exO (rs : List Rw) (lv : List ByteArray) (now i : Int) : List ByteArray := if lgB rs lv now = true then proofA lv i else []
theorem exO_len (rs : List Rw) (lv : List ByteArray) (now i : Int) : (exO rs lv now i).length ≤ 1024 := by
  unfold exO; split
  · exact proofA_len lv i
  · simp
set_option maxHeartbeats 1000000 in
theorem specExtend_any (p : Option Addr) (lv : List ByteArray) (cp : Nat) (q : Option Addr) (rs : List Rw) (cq : Nat) (now : Int) (i : Int) (w : World) (i0 : -9223372036854775808 ≤ i) (i1 : i ≤ 9223372036854775807) (hA : LgAt p lv cp q rs cq w) :
    Calls Tryz.prog 18 #[.agg #[.slice q rs.length cq, .slice p lv.length cp, .int .i64 now], .int .i64 i] w fun e w' => ∃ v, e = .returned v ∧ w'.ownsRow w.heap.size 9 1 v (exO rs lv now i).length (strRow (exO rs lv now i)) ∧ Below w.heap.size w w' := by
  obtain ⟨W1, hW1⟩ : ∃ W1, W1 = w.alloc (.cells #[.slice q rs.length cq, .slice p lv.length cp, .int .i64 now] 26) := ⟨_, rfl⟩
  have HW1 : Hid (W1 = w.alloc (.cells #[.slice q rs.length cq, .slice p lv.length cp, .int .i64 now] 26)) := hW1
  have B1 : Hid (Below w.heap.size w W1) := by rw [hW1]; exact (Below.refl _ _).alloc (Nat.le_refl _) _
  have K1 : Hid (Bxs W1 w.heap.size 26 #[.slice q rs.length cq, .slice p lv.length cp, .int .i64 now]) := by rw [hW1]; exact Bxs.new _ _ _
  have hR := specLogRight_any p lv cp q rs cq now W1 (hA.below B1.out)
  have HP : Hid (∀ x, Below w.heap.size w x → Calls Tryz.prog 43 #[.slice p lv.length cp, .int .i64 i] x fun e w' => ∃ v, e = .returned v ∧ w'.ownsRow x.heap.size 9 1 v (proofA lv i).length (strRow (proofA lv i)) ∧ Below x.heap.size x w') := fun x hb => specProof_any p cp lv i x (hA.tx.below hb) (by have := hA.ln; omega) hA.lc i0 i1
  obtain ⟨x0, x1, x2⟩ : W1.cell? ⟨w.heap.size, 0, none⟩ = some (.slice q rs.length cq) ∧ W1.cell? ⟨w.heap.size, 1, none⟩ = some (.slice p lv.length cp) ∧ W1.cell? ⟨w.heap.size, 2, none⟩ = some (.int .i64 now) := ⟨K1.out.cell 0, K1.out.cell 1, K1.out.cell 2⟩
  rw [HW1.out] at x0 x1 x2
  unfold exO
  clear hW1 hA
  cases hg : lgB rs lv now with
  | false =>
    rw [hg] at hR
    rw [if_neg Bool.false_ne_true]
    go_enter Tryz.func18, Tryz.ntmps18
    go_wp2_with fail
    rw [← HW1.out]
    refine hR.mono ?_
    rintro e y ⟨rfl, by_⟩
    go_wp2_with fail
    go_ret
    have hb := chainB B1.out by_
    exact ⟨_, rfl, ownS_mono (ownS_none y) hb.size, hb.alloc hb.size _⟩
  | true =>
    rw [hg] at hR
    rw [if_pos rfl]
    go_enter Tryz.func18, Tryz.ntmps18
    go_wp2_with fail
    rw [← HW1.out]
    refine hR.mono ?_
    rintro e y ⟨rfl, by_⟩
    have y1 := (K1.out.below by_).cell 1
    have hb := chainB B1.out by_
    have hP := HP.out y hb
    clear hR HP x0 x1 x2
    go_wp2_with fail
    refine hP.mono ?_
    rintro e y2 ⟨v, rfl, ho, b2⟩
    clear hP
    go_wp2_with fail
    go_ret
    exact ⟨v, rfl, ownS_mono ho hb.size, chainB hb b2⟩
set_option maxHeartbeats 1000000 in
theorem implExtend_any (p : Option Addr) (lv : List ByteArray) (cp : Nat) (q : Option Addr) (rs : List Rw) (cq : Nat) (now : Int) (i : Int) (w : World) (i0 : -9223372036854775808 ≤ i) (i1 : i ≤ 9223372036854775807) (hT : Tabs w) (hg : Laid w) (hA : LgAt p lv cp q rs cq w) :
    Calls Tryz.prog 17 #[.agg #[.slice q rs.length cq, .slice p lv.length cp, .int .i64 now], .int .i64 i] w fun e w' => ∃ v, e = .returned v ∧ w'.ownsRow w.heap.size 9 1 v (exO rs lv now i).length (strRow (exO rs lv now i)) ∧ Below w.heap.size w w' := by
  obtain ⟨W1, hW1⟩ : ∃ W1, W1 = w.alloc (.cells #[.slice q rs.length cq, .slice p lv.length cp, .int .i64 now] 26) := ⟨_, rfl⟩
  have HW1 : Hid (W1 = w.alloc (.cells #[.slice q rs.length cq, .slice p lv.length cp, .int .i64 now] 26)) := hW1
  have B1 : Hid (Below w.heap.size w W1) := by rw [hW1]; exact (Below.refl _ _).alloc (Nat.le_refl _) _
  have K1 : Hid (Bxs W1 w.heap.size 26 #[.slice q rs.length cq, .slice p lv.length cp, .int .i64 now]) := by rw [hW1]; exact Bxs.new _ _ _
  have hR := implLogRight_any p lv cp q rs cq now W1 (hT.to B1.out) (hg.below B1.out) (hA.below B1.out)
  have HP : Hid (∀ x, Below w.heap.size w x → Calls Tryz.prog 42 #[.slice p lv.length cp, .int .i64 i] x fun e w' => ∃ v, e = .returned v ∧ w'.ownsRow x.heap.size 9 1 v (proofA lv i).length (strRow (proofA lv i)) ∧ Below x.heap.size x w') := fun x hb => implProof_any p cp lv i x (hT.to hb) (hA.tx.below hb) (by have := hA.ln; omega) hA.lc i0 i1
  obtain ⟨x0, x1, x2⟩ : W1.cell? ⟨w.heap.size, 0, none⟩ = some (.slice q rs.length cq) ∧ W1.cell? ⟨w.heap.size, 1, none⟩ = some (.slice p lv.length cp) ∧ W1.cell? ⟨w.heap.size, 2, none⟩ = some (.int .i64 now) := ⟨K1.out.cell 0, K1.out.cell 1, K1.out.cell 2⟩
  rw [HW1.out] at x0 x1 x2
  unfold exO
  clear hW1 hA hT hg
  cases hg : lgB rs lv now with
  | false =>
    rw [hg] at hR
    rw [if_neg Bool.false_ne_true]
    go_enter Tryz.func17, Tryz.ntmps17
    go_wp2_with fail
    rw [← HW1.out]
    refine hR.mono ?_
    rintro e y ⟨rfl, by_⟩
    go_wp2_with fail
    go_ret
    exact ⟨_, rfl, World.ownsRow_nil _ _ _ _, chainB B1.out by_⟩
  | true =>
    rw [hg] at hR
    rw [if_pos rfl]
    go_enter Tryz.func17, Tryz.ntmps17
    go_wp2_with fail
    rw [← HW1.out]
    refine hR.mono ?_
    rintro e y ⟨rfl, by_⟩
    have y1 := (K1.out.below by_).cell 1
    have hb := chainB B1.out by_
    have hP := HP.out y hb
    clear hR HP x0 x1 x2
    go_wp2_with fail
    refine hP.mono ?_
    rintro e y2 ⟨v, rfl, ho, b2⟩
    clear hP
    go_wp2_with fail
    go_ret
    exact ⟨v, rfl, ownS_mono ho hb.size, chainB hb b2⟩
end Go.Proofs.YtnknnfgimiljjaaGreatDoor
/-
  Promises 13 and 14 as plain laws: a right log stays right, whatever is added, forgotten or however late it is; what is added stands last, what is forgotten is noted last, and nothing else turns; earlier roots stay.
-/
namespace Go.Proofs.YtnknnfgimiljjaaGreatDoor
open Go.RowKit Go.Lib
set_option linter.unusedVariables false
set_option maxRecDepth 20000

/-- A right log, said with marks. -/
structure LgP (rs : List Rw) (lv : List ByteArray) (now : Int) : Prop where
  t : timeB now = true
  n : rs.length ≤ 6
  r : rsB rs now = true
  g : cGo rs now [] 0 lv = some rs.length
  m : mrkOf lv = goneM rs
theorem lgP_iff (rs : List Rw) (lv : List ByteArray) (now : Int) : lgB rs lv now = true ↔ LgP rs lv now := by
  rw [lg_eq]
  unfold imB
  simp only [Bool.and_eq_true, decide_eq_true_iff]
  constructor
  · rintro ⟨h1, ⟨h2, h3⟩, h4⟩
    cases hc : cGo rs now [] 0 lv with
    | none => rw [hc] at h4; cases h4
    | some n =>
      rw [hc] at h4
      simp only [Bool.and_eq_true, decide_eq_true_iff] at h4
      exact ⟨h1, h2, h3, by rw [hc, h4.1], h4.2⟩
  · rintro ⟨h1, h2, h3, h4, h5⟩
    refine ⟨h1, ⟨h2, h3⟩, ?_⟩
    rw [h4]
    simp only [Bool.and_eq_true, decide_eq_true_iff]
    exact ⟨trivial, h5⟩
theorem LgP.rb {rs : List Rw} {lv : List ByteArray} {now : Int} (h : LgP rs lv now) : ∀ r ∈ rs, rB r = true ∧ r.a ≤ now := fun r hr => by
  have := h.r
  unfold rsB at this
  rw [List.all_eq_true] at this
  have h2 := Bool.and_eq_true_iff.1 (this r hr)
  exact ⟨h2.1, of_decide_eq_true h2.2⟩
/-- Whether a field is noted is whether it is gone. -/
theorem LgP.hit {rs : List Rw} {lv : List ByteArray} {now : Int} (h : LgP rs lv now) {r f : Nat} (h1 : r < 6) (h2 : f < 3) : hitIn lv (r : Int) (f : Int) = (fldOf rs (r : Int) (f : Int)).g := by
  have e : (mrkOf lv)[r * 3 + f]? = (goneM rs)[r * 3 + f]? := by rw [h.m]
  rw [List.getElem?_eq_getElem (by rw [mrk_len]; omega), List.getElem?_eq_getElem (by rw [goneM_len]; omega), mrk_get, gone_get] at e
  have e1 : (r * 3 + f) / 3 = r := by omega
  have e2 : (r * 3 + f) % 3 = f := by omega
  rw [e1, e2] at e
  exact Option.some.inj e
theorem fldOf_at {rs : List Rw} {I J : Nat} (hI : I < rs.length) (hJ : J < rs[I].fs.length) : fldOf rs (I : Int) (J : Int) = rs[I].fs[J] := by
  unfold fldOf
  rw [getD_row hI, Int.toNat_natCast, List.getD_eq_getElem?_getD, List.getElem?_eq_getElem hJ]; rfl
theorem cGo_app {rs : List Rw} {now : Int} : ∀ (suf : List ByteArray) (ts pre : List ByteArray) (n : Nat), cGo rs now pre n (suf ++ ts) = (cGo rs now pre n suf).bind fun m => cGo rs now (pre ++ suf) m ts
  | [], ts, pre, n => by simp [cGo]
  | t :: suf, ts, pre, n => by
    rw [List.cons_append, cGo, cGo]
    split
    · rw [cGo_app suf ts (pre ++ [t]) (n + 1)]; simp
    · split
      · rw [cGo_app suf ts (pre ++ [t]) n]; simp
      · rfl

/-! ### Time -/
theorem okT_late {now t : Int} (h : now ≤ t) {pre : List ByteArray} {n : Nat} {x : ByteArray} (ho : okT now pre n x = true) : okT t pre n x = true := by
  unfold okT at ho ⊢
  simp only [Bool.and_eq_true, decide_eq_true_iff] at ho ⊢
  exact ⟨ho.1, ho.2.1, by omega, ho.2.2.2⟩
theorem cGo_late {rs : List Rw} {now t : Int} (h : now ≤ t) : ∀ (suf pre : List ByteArray) (n m : Nat), cGo rs now pre n suf = some m → cGo rs t pre n suf = some m
  | [], pre, n, m, hc => hc
  | x :: suf, pre, n, m, hc => by
    rw [cGo] at hc ⊢
    split at hc
    · rename_i hx
      rw [if_pos hx]; exact cGo_late h suf _ _ _ hc
    · rename_i hx
      split at hc
      · rename_i ho
        rw [if_neg hx, if_pos (okT_late h ho)]; exact cGo_late h suf _ _ _ hc
      · cases hc
theorem lt_right {rs : List Rw} {lv : List ByteArray} {now t : Int} (h : ltC rs lv now t = 0) : lgB (ltmR rs lv now t) (ltL rs lv now t) (ltN rs lv now t) = true ∧ now ≤ ltN rs lv now t ∧ t ≤ ltN rs lv now t := by
  unfold ltC at h
  by_cases hk : ltB rs lv now t = true
  · unfold ltmR ltL ltN
    rw [if_pos hk, if_pos hk, if_pos hk]
    unfold ltB at hk
    obtain ⟨h1, h2⟩ := Bool.and_eq_true_iff.1 hk
    have hp := (lgP_iff _ _ _).1 h1
    have hm : now ≤ mxB now t ∧ t ≤ mxB now t ∧ (mxB now t = now ∨ mxB now t = t) := by unfold mxB; split <;> omega
    refine ⟨(lgP_iff _ _ _).2 ⟨?_, hp.n, ?_, cGo_late hm.1 _ _ _ _ hp.g, hp.m⟩, hm.1, hm.2.1⟩
    · rcases hm.2.2 with e | e
      · rw [e]; exact hp.t
      · rw [e]; exact h2
    · unfold rsB
      rw [List.all_eq_true]
      exact fun r hr => by
        have := hp.rb r hr
        rw [this.1, Bool.true_and]
        exact decide_eq_true (by omega)
  · rw [if_neg hk] at h; omega

/-! ### A row is added -/
theorem fr_getD {fs : List Fld} (h : frsB fs = true) (k : Nat) : (fs.getD k fldZ).g = false := by
  unfold frsB at h
  rw [List.all_eq_true] at h
  rw [List.getD_eq_getElem?_getD]
  by_cases hk : k < fs.length
  · rw [List.getElem?_eq_getElem hk, Option.getD_some]
    have := h _ (List.getElem_mem hk)
    simpa using this
  · rw [List.getElem?_eq_none (by omega)]; rfl
theorem getD_app {rs : List Rw} {r : Rw} {n : Nat} (h : n < rs.length) : (rs ++ [r]).getD n rwZ = rs.getD n rwZ := by
  rw [List.getD_eq_getElem?_getD, List.getD_eq_getElem?_getD, List.getElem?_append_left h]
theorem getD_new (rs : List Rw) (r : Rw) : (rs ++ [r]).getD rs.length rwZ = r := by
  rw [List.getD_eq_getElem?_getD, List.getElem?_append_right (Nat.le_refl _), Nat.sub_self]; rfl
theorem getD_past {rs : List Rw} {n : Nat} (h : rs.length ≤ n) : rs.getD n rwZ = rwZ := by
  rw [List.getD_eq_getElem?_getD, List.getElem?_eq_none h]; rfl
theorem gone_add {rs : List Rw} {r : Rw} (h : frsB r.fs = true) (i k : Nat) : (fldOf (rs ++ [r]) (i : Int) (k : Int)).g = (fldOf rs (i : Int) (k : Int)).g := by
  unfold fldOf
  rw [Int.toNat_natCast, Int.toNat_natCast]
  rcases Nat.lt_trichotomy i rs.length with hi | rfl | hi
  · rw [getD_app hi]
  · rw [getD_new, getD_past (Nat.le_refl _), fr_getD h k]; rfl
  · rw [getD_past (rs := rs ++ [r]) (by simp; omega), getD_past (by omega)]
theorem nx_add {rs : List Rw} {r : Rw} {n : Nat} {t : ByteArray} (h : n < rs.length) : isNx (rs ++ [r]) n t = isNx rs n t := by
  unfold isNx
  rw [getD_app h, decide_eq_true h, decide_eq_true (show n < (rs ++ [r]).length by simp; omega)]
theorem cGo_add {rs : List Rw} {r : Rw} {now : Int} : ∀ (suf pre : List ByteArray) (n m : Nat), n ≤ rs.length → cGo rs now pre n suf = some m → cGo (rs ++ [r]) now pre n suf = some m
  | [], pre, n, m, _, hc => hc
  | x :: suf, pre, n, m, hn, hc => by
    rw [cGo] at hc ⊢
    split at hc
    · rename_i hx
      have hl := ((nx_iff _ _ _).1 hx).1
      rw [nx_add hl, if_pos hx]
      exact cGo_add suf _ _ _ (by omega) hc
    · rename_i hx
      split at hc
      · rename_i ho
        have hx2 : ¬ isNx (rs ++ [r]) n x = true := fun hy => by
          have h0 : trC x = 0 := by
            unfold okT at ho
            simp only [Bool.and_eq_true, decide_eq_true_iff] at ho
            exact ho.1
          exact nx_tr hy h0
        rw [if_neg hx2, if_pos ho]
        exact cGo_add suf _ _ _ hn hc
      · cases hc
theorem la_parts {rs : List Rw} {lv : List ByteArray} {now : Int} {r : Rw} (h : laC rs lv now r = 0) : lgB rs lv now = true ∧ rwB r.k r.a r.fs = true ∧ frsB r.fs = true ∧ r.a = now ∧ rs.length < 6 := by
  unfold laC at h
  by_cases hk : laK rs lv now r = true
  · rw [if_pos hk] at h
    unfold laK at hk
    simp only [Bool.and_eq_true, beq_iff_eq] at hk
    have h6 := (lg_right hk.1).1
    by_cases h7 : rs.length = 6
    · rw [if_pos h7] at h; omega
    · exact ⟨hk.1, hk.2.1, hk.2.2.1, hk.2.2.2, by omega⟩
  · rw [if_neg hk] at h; omega
theorem la_right {rs : List Rw} {lv : List ByteArray} {now : Int} {r : Rw} (h : laC rs lv now r = 0) : lgB (laR rs lv now r) (laL rs lv now r) (laN rs lv now r) = true := by
  obtain ⟨e1, e2, e3⟩ := la_good h
  rw [e1, e2, e3]
  obtain ⟨h1, h2, h3, h4, h5⟩ := la_parts h
  have hp := (lgP_iff _ _ _).1 h1
  have hl : lfB r.k r.a r.fs = rlB r := rl_lf h2
  rw [hl]
  refine (lgP_iff _ _ _).2 ⟨hp.t, by simp; omega, ?_, ?_, ?_⟩
  · unfold rsB
    rw [List.all_eq_true]
    intro x hx
    rcases List.mem_append.1 hx with g | g
    · have := hp.rb x g
      rw [this.1, Bool.true_and]
      exact decide_eq_true this.2
    · rw [List.mem_singleton.1 g]
      have : rB r = true := h2
      rw [this, Bool.true_and]
      exact decide_eq_true (by omega)
  · rw [cGo_app, cGo_add lv [] 0 _ (Nat.zero_le _) hp.g, Option.bind_some, cGo, if_pos ((nx_iff _ _ _).2 ⟨by simp, by rw [getD_new]⟩)]
    simp [cGo]
  · rw [mrk_no (rl_tr r), hp.m]
    unfold goneM
    exact List.map_congr_left fun j _ => (gone_add h3 _ _).symm
/-- The rows' leaves among a right log's leaves are as many as its rows. -/
theorem pl_past {rs : List Rw} {now : Int} (hr : ∀ r ∈ rs, rB r = true) (row : Nat) : ∀ (suf pre ts : List ByteArray) (n i m : Nat), cGo rs now pre n suf = some m → m ≤ row → plFrom (row : Int) n i (suf ++ ts) = plFrom (row : Int) m (i + suf.length) ts
  | [], pre, ts, n, i, m, hc, hm => by
    simp only [cGo, Option.some.injEq] at hc
    subst hc
    rfl
  | x :: suf, pre, ts, n, i, m, hc, hm => by
    rw [cGo] at hc
    rw [List.cons_append, plFrom]
    split at hc
    · rename_i hx
      have hle := (cGo_parts _ _ _ _ _ _ hc).1
      obtain ⟨hl, rfl⟩ := (nx_iff _ _ _).1 hx
      rw [if_pos (rl_isRl _), if_neg (by omega), pl_past hr row suf _ ts (n + 1) (i + 1) m hc hm]
      simp; congr 1; omega
    · split at hc
      · rename_i hx ho
        have h0 : trC x = 0 := by
          unfold okT at ho
          simp only [Bool.and_eq_true, decide_eq_true_iff] at ho
          exact ho.1
        rw [tr_not_rl h0, if_neg Bool.false_ne_true, pl_past hr row suf _ ts n (i + 1) m hc hm]
        simp; congr 1; omega
      · cases hc
theorem la_place {rs : List Rw} {lv : List ByteArray} {now : Int} {r : Rw} (h : laC rs lv now r = 0) : plO (laR rs lv now r) (laL rs lv now r) (laN rs lv now r) (rs.length : Int) = (lv.length : Int) := by
  have hr := la_right h
  unfold plO
  rw [if_pos hr]
  obtain ⟨e1, e2, e3⟩ := la_good h
  obtain ⟨h1, h2, -⟩ := la_parts h
  have hp := (lgP_iff _ _ _).1 h1
  rw [e2]
  unfold plB
  have hl : lfB r.k r.a r.fs = rlB r := rl_lf h2
  rw [hl, pl_past (fun x hx => (hp.rb x hx).1) rs.length lv [] [rlB r] 0 0 rs.length hp.g (Nat.le_refl _), plFrom, if_pos (rl_isRl r), if_pos rfl]
  omega
theorem la_there {rs : List Rw} {lv : List ByteArray} {now : Int} {r : Rw} (h : laC rs lv now r = 0) : stO (laR rs lv now r) (laL rs lv now r) (laN rs lv now r) (rs.length : Int) 0 = 1 := by
  have hr := la_right h
  unfold stO
  rw [if_pos hr]
  obtain ⟨e1, -, -⟩ := la_good h
  obtain ⟨-, h2, h3, -⟩ := la_parts h
  have hf := (rwB_parts h2).2.2.1.1
  have hfc : fcO (rs ++ [r]) (rs.length : Int) 0 = 0 := by
    unfold fcO
    rw [if_pos (by simp), Int.toNat_natCast, getD_new, if_pos (by omega)]
    have := gone_add (rs := rs) h3 rs.length 0
    have h0 : (fldOf rs (rs.length : Int) ((0 : Nat) : Int)).g = false := by unfold fldOf; rw [Int.toNat_natCast, getD_past (Nat.le_refl _)]; rfl
    rw [h0] at this
    have e0 : ((0 : Nat) : Int) = 0 := rfl
    rw [e0] at this
    rw [this, if_neg Bool.false_ne_true]
  rw [e1, hfc]; rfl
theorem la_leaves {rs : List Rw} {lv : List ByteArray} {now : Int} {r : Rw} (h : laC rs lv now r = 0) : (laL rs lv now r).take lv.length = lv ∧ (laL rs lv now r).length = lv.length + 1 := by
  obtain ⟨-, e2, -⟩ := la_good h
  rw [e2]
  exact ⟨List.take_left, by simp⟩

/-! ### A field is forgotten -/
theorem lf_parts {rs : List Rw} {lv : List ByteArray} {now r f y : Int} (h : lfC rs lv now r f y = 0) : lgB rs lv now = true ∧ (1 ≤ y ∧ y ≤ 2) ∧ fcO rs r f = 0 := by
  unfold lfC at h
  by_cases hk : (lgB rs lv now && decide (1 ≤ y ∧ y ≤ 2)) = true
  · rw [if_pos hk] at h
    obtain ⟨h1, h2⟩ := Bool.and_eq_true_iff.1 hk
    exact ⟨h1, of_decide_eq_true h2, h⟩
  · rw [if_neg hk] at h; omega
theorem getD_set {rs : List Rw} {I : Nat} {x : Rw} (hI : I < rs.length) (n : Nat) : (rs.set I x).getD n rwZ = if n = I then x else rs.getD n rwZ := by
  rw [List.getD_eq_getElem?_getD, List.getD_eq_getElem?_getD]
  by_cases e : n = I
  · subst e; rw [if_pos rfl, List.getElem?_set_self hI]; rfl
  · rw [if_neg e, List.getElem?_set_ne (by omega)]
theorem fgt_rl {rs : List Rw} {I J : Nat} (hI : I < rs.length) (hJ : J < rs[I].fs.length) : rlB (fgt rs I J) = rlB rs[I] := by
  rw [fgt_eq hI hJ]
  unfold rlB
  rw [lfT_same (same2_set J (goneF rs[I].fs[J]) fun _ => ⟨rfl, rfl⟩)]
theorem nx_fgt {rs : List Rw} {I J : Nat} (hI : I < rs.length) (hJ : J < rs[I].fs.length) (n : Nat) (t : ByteArray) : isNx (rs.set I (fgt rs I J)) n t = isNx rs n t := by
  unfold isNx
  rw [List.length_set, getD_set hI]
  by_cases e : n = I
  · subst e
    rw [if_pos rfl, fgt_rl hI hJ, List.getD_eq_getElem?_getD, List.getElem?_eq_getElem hI]; rfl
  · rw [if_neg e]
theorem cGo_fgt {rs : List Rw} {I J : Nat} (hI : I < rs.length) (hJ : J < rs[I].fs.length) {now : Int} : ∀ (suf pre : List ByteArray) (n : Nat), cGo (rs.set I (fgt rs I J)) now pre n suf = cGo rs now pre n suf
  | [], pre, n => rfl
  | x :: suf, pre, n => by rw [cGo, cGo, nx_fgt hI hJ, cGo_fgt hI hJ suf, cGo_fgt hI hJ suf]
theorem fgt_fld {rs : List Rw} {I J : Nat} (hI : I < rs.length) (hJ : J < rs[I].fs.length) (i k : Nat) : (fldOf (rs.set I (fgt rs I J)) (i : Int) (k : Int)).g = (if i = I ∧ k = J then true else (fldOf rs (i : Int) (k : Int)).g) := by
  unfold fldOf
  rw [Int.toNat_natCast, Int.toNat_natCast, getD_set hI]
  by_cases e : i = I
  · subst e
    rw [if_pos rfl, fgt_eq hI hJ, List.getD_eq_getElem?_getD (l := rs), List.getElem?_eq_getElem hI, Option.getD_some, List.getD_eq_getElem?_getD, List.getD_eq_getElem?_getD]
    by_cases e2 : k = J
    · subst e2
      rw [if_pos ⟨rfl, rfl⟩]
      dsimp only
      rw [List.getElem?_set_self hJ]; rfl
    · rw [if_neg (fun h => e2 h.2)]
      dsimp only
      rw [List.getElem?_set_ne (by omega)]
  · rw [if_neg e, if_neg (fun h => e h.1)]
theorem lf_right {rs : List Rw} {lv : List ByteArray} {now r f y : Int} (h : lfC rs lv now r f y = 0) : lgB (lfR rs lv now r f y) (lfL rs lv now r f y) (lfN rs lv now r f y) = true := by
  obtain ⟨e1, e2, e3⟩ := lf_good h
  obtain ⟨h1, hy, hf⟩ := lf_parts h
  rw [e1, e2, e3]
  obtain ⟨I, J, hI, hJ, rfl, rfl, hg⟩ := fc_zero hf
  have hp := (lgP_iff _ _ _).1 h1
  have hI6 : I < 6 := by have := hp.n; omega
  have hJ3 : J < 3 := by have := (rwB_parts (hp.rb _ (List.getElem_mem hI)).1).2.2.1.2; omega
  have hT := lg_tomb h1 hI hJ hy
  obtain ⟨t1, t2⟩ := tr_raw hT
  rw [Int.toNat_natCast]
  refine (lgP_iff _ _ _).2 ⟨hp.t, by simpa using hp.n, ?_, ?_, ?_⟩
  · unfold rsB
    rw [List.all_eq_true]
    intro x hx
    rcases List.mem_or_eq_of_mem_set hx with g | rfl
    · have := hp.rb x g
      rw [this.1, Bool.true_and]
      exact decide_eq_true this.2
    · have := hp.rb _ (List.getElem_mem hI)
      rw [fgt_eq hI hJ]
      have h2 : rB ⟨rs[I].k, rs[I].a, rs[I].fs.set J (goneF rs[I].fs[J])⟩ = true := forget_right this.1 J hJ
      rw [h2, Bool.true_and]
      exact decide_eq_true this.2
  · rw [cGo_app, cGo_fgt hI hJ, hp.g, Option.bind_some, cGo, if_neg (fun hx => by have := ((nx_iff _ _ _).1 hx).1; simp at this), if_pos ?_]
    · simp [cGo]
    · unfold okT
      rw [t2]
      simp only [Bool.and_eq_true, decide_eq_true_iff, Bool.not_eq_true', List.nil_append]
      refine ⟨t1, by omega, Int.le_refl _, ?_⟩
      rw [hp.hit hI6 hJ3, fldOf_at hI hJ, hg]
  · rw [mrk_yes t1, hp.m]
    apply List.ext_getElem
    · simp [goneM_len]
    · intro j j1 j2
      have hm : mkAt (tmRaw ⟨(I : Int), (J : Int), y, now⟩) = I * 3 + J := by unfold mkAt; rw [t2]; simp
      have hj : j < 18 := by rw [goneM_len] at j2; exact j2
      rw [List.getElem_set, gone_get, gone_get, fgt_fld hI hJ, hm]
      by_cases e : I * 3 + J = j
      · rw [if_pos e, if_pos (by omega)]
      · rw [if_neg e, if_neg (by omega)]
theorem fc_iff (rs : List Rw) (i k : Nat) : fcO rs (i : Int) (k : Int) = if i < rs.length ∧ k < (rs.getD i rwZ).fs.length then (if (fldOf rs (i : Int) (k : Int)).g = true then 7 else 0) else 6 := by
  unfold fcO
  rw [Int.toNat_natCast]
  by_cases h1 : i < rs.length
  · rw [if_pos (by omega)]
    by_cases h2 : k < (rs.getD i rwZ).fs.length
    · have h3 : i < rs.length ∧ k < (rs.getD i rwZ).fs.length := ⟨h1, h2⟩
      rw [if_pos (by omega), if_pos h3]
    · have h3 : ¬ (i < rs.length ∧ k < (rs.getD i rwZ).fs.length) := fun h => h2 h.2
      rw [if_neg (by omega), if_neg h3]
  · have h3 : ¬ (i < rs.length ∧ k < (rs.getD i rwZ).fs.length) := fun h => h1 h.1
    rw [if_neg (by omega), if_neg h3]
theorem fgt_len {rs : List Rw} {I J : Nat} (hI : I < rs.length) (hJ : J < rs[I].fs.length) (i : Nat) : ((rs.set I (fgt rs I J)).getD i rwZ).fs.length = (rs.getD i rwZ).fs.length := by
  rw [getD_set hI]
  by_cases e : i = I
  · subst e
    rw [if_pos rfl, fgt_eq hI hJ, List.getD_eq_getElem?_getD, List.getElem?_eq_getElem hI]
    simp
  · rw [if_neg e]
theorem lf_gone {rs : List Rw} {lv : List ByteArray} {now r f y : Int} (h : lfC rs lv now r f y = 0) : stO (lfR rs lv now r f y) (lfL rs lv now r f y) (lfN rs lv now r f y) r f = 2 := by
  have hr := lf_right h
  unfold stO
  rw [if_pos hr]
  obtain ⟨e1, -, -⟩ := lf_good h
  obtain ⟨h1, hy, hf⟩ := lf_parts h
  rw [e1]
  obtain ⟨I, J, hI, hJ, rfl, rfl, hg⟩ := fc_zero hf
  have hq : I < (rs.set I (fgt rs I J)).length ∧ J < ((rs.set I (fgt rs I J)).getD I rwZ).fs.length := ⟨by simpa using hI, by rw [fgt_len hI hJ, List.getD_eq_getElem?_getD, List.getElem?_eq_getElem hI]; exact hJ⟩
  have he : I = I ∧ J = J := ⟨rfl, rfl⟩
  rw [Int.toNat_natCast, fc_iff, if_pos hq, fgt_fld hI hJ, if_pos he]
  rfl
theorem lf_other {rs : List Rw} {lv : List ByteArray} {now r f y : Int} (h : lfC rs lv now r f y = 0) (i k : Nat) (hne : (i : Int) ≠ r ∨ (k : Int) ≠ f) : stO (lfR rs lv now r f y) (lfL rs lv now r f y) (lfN rs lv now r f y) (i : Int) (k : Int) = stO rs lv now (i : Int) (k : Int) := by
  have hr := lf_right h
  obtain ⟨e1, -, -⟩ := lf_good h
  obtain ⟨h1, hy, hf⟩ := lf_parts h
  unfold stO
  rw [if_pos hr, if_pos h1, e1]
  obtain ⟨I, J, hI, hJ, rfl, rfl, hg⟩ := fc_zero hf
  have hx : ¬ (i = I ∧ k = J) := by omega
  rw [Int.toNat_natCast, fc_iff, fc_iff, fgt_len hI hJ, fgt_fld hI hJ, if_neg hx, List.length_set]
theorem lf_note {rs : List Rw} {lv : List ByteArray} {now r f y : Int} (h : lfC rs lv now r f y = 0) : tbO (lfR rs lv now r f y) (lfL rs lv now r f y) (lfN rs lv now r f y) r f = (lv.length : Int) := by
  have hr := lf_right h
  unfold tbO
  rw [if_pos hr]
  obtain ⟨-, e2, -⟩ := lf_good h
  obtain ⟨h1, hy, hf⟩ := lf_parts h
  rw [e2]
  obtain ⟨I, J, hI, hJ, rfl, rfl, hg⟩ := fc_zero hf
  have hp := (lgP_iff _ _ _).1 h1
  have hI6 : I < 6 := by have := hp.n; omega
  have hJ3 : J < 3 := by have := (rwB_parts (hp.rb _ (List.getElem_mem hI)).1).2.2.1.2; omega
  obtain ⟨t1, t2⟩ := tr_raw (lg_tomb h1 hI hJ hy)
  have hh : tmHit (I : Int) (J : Int) (tmRaw ⟨(I : Int), (J : Int), y, now⟩) = true := (tmHit_iff _ _ _).2 ⟨t1, by rw [t2], by rw [t2]⟩
  exact (tbAt_here (ts := []) hh).2 (by rw [hp.hit hI6 hJ3, fldOf_at hI hJ, hg])
theorem lf_leaves {rs : List Rw} {lv : List ByteArray} {now r f y : Int} (h : lfC rs lv now r f y = 0) : (lfL rs lv now r f y).take lv.length = lv ∧ (lfL rs lv now r f y).length = lv.length + 1 ∧ ∀ k, k ≤ lv.length → (lfL rs lv now r f y).take k = lv.take k := by
  obtain ⟨-, e2, -⟩ := lf_good h
  rw [e2]
  exact ⟨List.take_left, by simp, fun k hk => List.take_append_of_le_length hk⟩
theorem lf_root {rs : List Rw} {lv : List ByteArray} {now r f y : Int} (h : lfC rs lv now r f y = 0) (k : Int) (hk : k ≤ (lv.length : Int)) : roO (lfR rs lv now r f y) (lfL rs lv now r f y) (lfN rs lv now r f y) k = roO rs lv now k := by
  have hr := lf_right h
  obtain ⟨h1, -, -⟩ := lf_parts h
  obtain ⟨-, hl, ht⟩ := lf_leaves h
  unfold roO
  rw [if_pos hr, if_pos h1, hl]
  by_cases h0 : 0 ≤ k
  · rw [if_pos ⟨h0, by omega⟩, if_pos ⟨h0, hk⟩, ht k.toNat (by omega)]
  · rw [if_neg (fun q => h0 q.1), if_neg (fun q => h0 q.1)]
end Go.Proofs.YtnknnfgimiljjaaGreatDoor
