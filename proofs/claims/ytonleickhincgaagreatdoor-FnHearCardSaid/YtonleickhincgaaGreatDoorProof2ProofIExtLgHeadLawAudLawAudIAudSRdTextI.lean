/-
  Parts of one proof, laid as one text: Proof2, ProofI, ExtLg, HeadLaw, AudLaw, AudI, AudS, RdTextI; what each says stands at its head.
-/
import Derived.Test.YtonleickhincgaaGreatDoorRows
import Derived.Test.YtonleickhincgaaGreatDoorBytesDigMath
import Derived.Test.YtonleickhincgaaGreatDoorTreeMathSlABxKSlBOwnS
import Derived.Test.YtonleickhincgaaGreatDoorPowerHalvesTreeTree2TreeHPathMathIncMathTakerTakePathConMathProofLawSignMath
import Derived.Handy
import Derived.OwnWalk
import Derived.Deep.AppendLies
import Derived.Deep.RegionLaw
import Derived.Test.YtonleickhincgaaGreatDoorLgLawTakesTakesLPutterPathI
import Derived.Test.YtonleickhincgaaGreatDoorGetValGetTxtNumMathFldRdNumFromTmbMathLgMath
import Derived.Test.YtonleickhincgaaGreatDoorLgAtKLgAnsLgRtAudMathHdMathClaMathHearMathFldGOneKFldBlkRwBlkRowOps
import Derived.Test.YtonleickhincgaaGreatDoorSpecLr
import Derived.Test.YtonleickhincgaaGreatDoorLogRIImplRtLawSLawMLawMGLawFLawFMLawFRLawSGLawLgLawLhLawLzLawLmPrfLs
import Derived.WalkSpells
import Derived.Test.YtonleickhincgaaGreatDoorProofG
import Derived.Test.YtonleickhincgaaGreatDoorLgOLtMathLfMathLaMath
import Derived.Test.YtonleickhincgaaGreatDoorFldIsTimeIGrKSpecGNSpecGTTillTwoFldN
import Derived.Test.YtonleickhincgaaGreatDoorImplVerInc2SignRSignWFldRiseScanMath
import Derived.Test.YtonleickhincgaaGreatDoorRdNumIGetNumIImplTbImplCbImplTrLeafK
import Derived.Test.YtonleickhincgaaGreatDoorTimeBPutMathPutNumJoinedPutTextFldMath
import Derived.Deep.RegionHeld3
/-
  The specification's l03Proof and ProofOf: the proof of the first ones, 'proofA', in new memory of its own.
  Conditions: the slice's cells hold the entries; old is an int64.
-/
namespace Go.Proofs.YtonleickhincgaaGreatDoor
open Go.RowKit Go.Lib
set_option linter.unusedVariables false
set_option maxRecDepth 20000

set_option maxHeartbeats 2000000 in
theorem proof2_any (N : Nat) : ∀ (p : Option Addr) (cap : Nat) (ss : List ByteArray) (m : Nat) (whole : Bool) (w : World), ss.length = N → TxtAt w p ss → ss.length ≤ 1024 → ss.length ≤ cap → (∀ x ∈ ss, x.size ≤ 100) → 1 ≤ m → m ≤ ss.length →
    Calls Tryz.prog 126 #[.int .i64 (m : Int), .slice p ss.length cap, .bool whole] w fun e w' => ∃ v, e = .returned v ∧ w'.ownsRow w.heap.size 9 1 v (proofB m ss whole).length (strRow (proofB m ss whole)) ∧ Below w.heap.size w w' := by
  induction N using Nat.strongRecOn with
  | _ N ih =>
  intro p cap ss m whole w hN hp hn hcap h100 hm1 hm
  subst hN
  have HP : Hid (TxtAt w p ss) := hp
  have HX : Hid (∀ x ∈ ss, x.size ≤ 100) := h100
  clear hp h100
  by_cases he : m = ss.length
  · have d0 : ((m : Int) == (ss.length : Int)) = true := by simp; omega
    cases whole
    · have HB : Hid (proofB m ss false = [treeB ss]) := by show _ = _; rw [proofB_all he]; rfl
      have HC := tree2_any ss.length p cap ss w rfl HP.out (by omega) hcap HX.out
      generalize treeB ss = T at *
      clear ih he
      go_enter Tryz.func126, Tryz.ntmps126
      go_wp2_with fail
      refine HC.mono ?_
      rintro e w3 ⟨rfl, b3⟩
      go_wp2_with fail
      go_ret
      exact ⟨_, rfl, by rw [HB.out]; exact ownS_mono (alloc_own w3 T) b3.size, b3.alloc b3.size _⟩
    · have HB : Hid (proofB m ss true = []) := by show _ = _; rw [proofB_all he]; rfl
      clear ih he
      go_enter Tryz.func126, Tryz.ntmps126
      go_wp2_with fail
      go_ret
      exact ⟨_, rfl, by rw [HB.out]; exact ownS_none w, (Below.refl _ _).alloc (Nat.le_refl _) _⟩
  · have d0 : ((m : Int) == (ss.length : Int)) = false := by simp; omega
    have h2 : 2 ≤ ss.length := by omega
    obtain ⟨b, off, rfl, hb, _⟩ := HP.out 0 (by omega)
    have h1 := halfN_lt h2
    have h0 := halfN_pos ss.length
    have l1 : (ss.take (halfN ss.length)).length = halfN ss.length := by simp; omega
    have l2 : (ss.drop (halfN ss.length)).length = ss.length - halfN ss.length := by simp
    have hH := fun w => half2_any ss.length w h2 (by omega)
    obtain ⟨i0, hi0, hz0, hz1, hz2⟩ := info_parts infoStr
    by_cases hik : m ≤ halfN ss.length
    · have hlen := proofB_len (ss.take (halfN ss.length)) m hm1 (by omega) whole
      have HB : Hid (proofB m (ss.take (halfN ss.length)) whole ++ [treeB (ss.drop (halfN ss.length))] = proofB m ss whole) := (proofB_left h2 he hik whole).symm
      have I1 : Hid (∀ w', Below w.heap.size w w' → Calls Tryz.prog 126 #[.int .i64 (m : Int), .slice (some ⟨b, off, none⟩) (halfN ss.length) cap, .bool whole] w' fun e w'' => ∃ v, e = .returned v ∧ w''.ownsRow w.heap.size 9 1 v (proofB m (ss.take (halfN ss.length)) whole).length (strRow (proofB m (ss.take (halfN ss.length)) whole)) ∧ Below w'.heap.size w' w'') := by
        intro w' hbl
        have := ih _ (by omega) (some ⟨b, off, none⟩) cap (ss.take (halfN ss.length)) m whole w' l1 ((HP.out.below hbl).take _) (by omega) (by omega) (fun x hx => HX.out x (List.mem_of_mem_take hx)) hm1 (by omega)
        rw [l1] at this
        exact this.mono fun e w'' ⟨v, he, ho, hb⟩ => ⟨v, he, ownS_mono ho hbl.size, hb⟩
      have I2 : Hid (∀ w', Below w.heap.size w w' → Calls Tryz.prog 75 #[.slice (some ⟨b, off + halfN ss.length, none⟩) (ss.length - halfN ss.length) (cap - halfN ss.length)] w' fun e w'' => e = .returned (.string (treeB (ss.drop (halfN ss.length)))) ∧ Below w'.heap.size w' w'') := by
        intro w' hbl
        have := tree2_any _ (some ⟨b, off + halfN ss.length, none⟩) (cap - halfN ss.length) (ss.drop (halfN ss.length)) w' l2 ((HP.out.below hbl).drop _) (by omega) (by omega) (fun x hx => HX.out x (List.mem_of_mem_drop hx))
        rwa [l2] at this
      clear l1 l2
      have hQl : (proofB m (ss.take (halfN ss.length)) whole).length ≤ 1024 := by simp at hlen; omega
      clear hlen
      generalize proofB m (ss.take (halfN ss.length)) whole = Q at *
      generalize treeB (ss.drop (halfN ss.length)) = T at *
      generalize halfN ss.length = k at *
      clear ih he
      have q1 : (k : Int) ≤ cap := by omega
      have q2 : (k : Int) ≤ ss.length := by omega
      have q3 : (ss.length : Int) ≤ cap := by omega
      have q4 : ¬ cap = k := by omega
      have q5 : (0 : Int) ≤ k := by omega
      have q6 : IntKind.i64.wrap ((m : Int) - (k : Int)) = (m : Int) - (k : Int) := by rw [IntKind.wrap_i64]; omega
      go_enter Tryz.func126, Tryz.ntmps126
      go_wp2_with fail
      refine (hH _).mono ?_
      rintro e w1 ⟨rfl, hw1⟩
      subst hw1
      go_wp2_with fail
      go_region_law
        (first
          | (refine step_append_lies _ rfl _ _ 25 rfl w1.heap.size 9 i0 (.string ByteArray.empty) 1 16 Tryz.underlying25 hi0 hz0 hz1 hz2 rfl (by omega) v2 Q.length (strRow Q) rfl (own3.alloc _) ⟨w3.heap.size, 0, none⟩ 1 1 [.string T] rfl rfl (World.news_of_block (cs := #[.string T]) (t := 9) (fr := (0, 0)) (MapKept.heap_alloc w3 _).1) (by simp [Value.oneCell']) (by omega) (by unfold maxLen; omega) (by omega) (by simp; omega) (w3.heap.size + 1) (by simp) ?_; intro g2 cap2 w4 hown4 hgrow hat hltg)
          | (go_simp; go_at_call 75; refine (I2.out _ b2).mono ?_; rintro e w3 ⟨rfl, b3⟩; have own3 := ownS_below own2 b3; have b3 := chainB b2 b3; have hs3 := b3.size)
          | (go_simp; go_at_call 126; refine (I1.out _ ((Below.refl _ _).drew)).mono ?_; rintro e w2 ⟨v2, rfl, own2, b2⟩; have b2 := chainB ((Below.refl _ _).drew) b2))
      all_goals
        have B4 : Below w1.heap.size w1 w4 := (b3.alloc b3.size _).grown hgrow (by simp; omega) (fun j hj => (own3.lt j hj).1)
        have hfin : w4.ownsRow w1.heap.size 9 1 (.slice (some ⟨g2, 0, none⟩) (Q.length + 1) cap2) (proofB m ss whole).length (strRow (proofB m ss whole)) := by
          rw [← HB.out]
          have e1 : (Q ++ [T]).length = Q.length + 1 := by simp
          have e2 : strRow (Q ++ [T]) = strRow Q ++ [.string T] := by simp [strRow]
          rw [e1, e2]
          exact hown4
        go_wp2
        go_ret
        exact ⟨_, rfl, hfin, B4⟩
    · have hlen := proofB_len (ss.drop (halfN ss.length)) (m - halfN ss.length) (by omega) (by omega) false
      have HB : Hid (proofB (m - halfN ss.length) (ss.drop (halfN ss.length)) false ++ [treeB (ss.take (halfN ss.length))] = proofB m ss whole) := (proofB_right h2 he hik whole).symm
      have I1 : Hid (∀ w', Below w.heap.size w w' → Calls Tryz.prog 126 #[.int .i64 ((m : Int) - (halfN ss.length : Int)), .slice (some ⟨b, off + halfN ss.length, none⟩) (ss.length - halfN ss.length) (cap - halfN ss.length), .bool false] w' fun e w'' => ∃ v, e = .returned v ∧ w''.ownsRow w.heap.size 9 1 v (proofB (m - halfN ss.length) (ss.drop (halfN ss.length)) false).length (strRow (proofB (m - halfN ss.length) (ss.drop (halfN ss.length)) false)) ∧ Below w'.heap.size w' w'') := by
        intro w' hbl
        have := ih _ (by omega) (some ⟨b, off + halfN ss.length, none⟩) (cap - halfN ss.length) (ss.drop (halfN ss.length)) (m - halfN ss.length) false w' l2 ((HP.out.below hbl).drop _) (by omega) (by omega) (fun x hx => HX.out x (List.mem_of_mem_drop hx)) (by omega) (by omega)
        rw [l2, show ((m - halfN ss.length : Nat) : Int) = (m : Int) - (halfN ss.length : Int) by omega] at this
        exact this.mono fun e w'' ⟨v, he, ho, hb⟩ => ⟨v, he, ownS_mono ho hbl.size, hb⟩
      have I2 : Hid (∀ w', Below w.heap.size w w' → Calls Tryz.prog 75 #[.slice (some ⟨b, off, none⟩) (halfN ss.length) cap] w' fun e w'' => e = .returned (.string (treeB (ss.take (halfN ss.length)))) ∧ Below w'.heap.size w' w'') := by
        intro w' hbl
        have := tree2_any _ (some ⟨b, off, none⟩) cap (ss.take (halfN ss.length)) w' l1 ((HP.out.below hbl).take _) (by omega) (by omega) (fun x hx => HX.out x (List.mem_of_mem_take hx))
        rwa [l1] at this
      clear l1 l2
      have hQl : (proofB (m - halfN ss.length) (ss.drop (halfN ss.length)) false).length ≤ 1024 := by simp at hlen; omega
      clear hlen
      generalize proofB (m - halfN ss.length) (ss.drop (halfN ss.length)) false = Q at *
      generalize treeB (ss.take (halfN ss.length)) = T at *
      generalize halfN ss.length = k at *
      clear ih he
      have q1 : (k : Int) ≤ cap := by omega
      have q2 : (k : Int) ≤ ss.length := by omega
      have q3 : (ss.length : Int) ≤ cap := by omega
      have q4 : ¬ cap = k := by omega
      have q5 : (0 : Int) ≤ k := by omega
      have q6 : IntKind.i64.wrap ((m : Int) - (k : Int)) = (m : Int) - (k : Int) := by rw [IntKind.wrap_i64]; omega
      go_enter Tryz.func126, Tryz.ntmps126
      go_wp2_with fail
      refine (hH _).mono ?_
      rintro e w1 ⟨rfl, hw1⟩
      subst hw1
      go_wp2_with fail
      go_region_law
        (first
          | (refine step_append_lies _ rfl _ _ 25 rfl w1.heap.size 9 i0 (.string ByteArray.empty) 1 16 Tryz.underlying25 hi0 hz0 hz1 hz2 rfl (by omega) v2 Q.length (strRow Q) rfl (own3.alloc _) ⟨w3.heap.size, 0, none⟩ 1 1 [.string T] rfl rfl (World.news_of_block (cs := #[.string T]) (t := 9) (fr := (0, 0)) (MapKept.heap_alloc w3 _).1) (by simp [Value.oneCell']) (by omega) (by unfold maxLen; omega) (by omega) (by simp; omega) (w3.heap.size + 1) (by simp) ?_; intro g2 cap2 w4 hown4 hgrow hat hltg)
          | (go_simp; go_at_call 75; refine (I2.out _ b2).mono ?_; rintro e w3 ⟨rfl, b3⟩; have own3 := ownS_below own2 b3; have b3 := chainB b2 b3; have hs3 := b3.size)
          | (go_simp; go_at_call 126; refine (I1.out _ ((Below.refl _ _).drew)).mono ?_; rintro e w2 ⟨v2, rfl, own2, b2⟩; have b2 := chainB ((Below.refl _ _).drew) b2))
      all_goals
        have B4 : Below w1.heap.size w1 w4 := (b3.alloc b3.size _).grown hgrow (by simp; omega) (fun j hj => (own3.lt j hj).1)
        have hfin : w4.ownsRow w1.heap.size 9 1 (.slice (some ⟨g2, 0, none⟩) (Q.length + 1) cap2) (proofB m ss whole).length (strRow (proofB m ss whole)) := by
          rw [← HB.out]
          have e1 : (Q ++ [T]).length = Q.length + 1 := by simp
          have e2 : strRow (Q ++ [T]) = strRow Q ++ [.string T] := by simp [strRow]
          rw [e1, e2]
          exact hown4
        go_wp2
        go_ret
        exact ⟨_, rfl, hfin, B4⟩

set_option maxHeartbeats 1000000 in
theorem specProof_any (p : Option Addr) (cap : Nat) (ss : List ByteArray) (i : Int) (w : World) (hp : TxtAt w p ss) (hn : ss.length ≤ 140737488355328) (hcap : ss.length ≤ cap) (i0 : -9223372036854775808 ≤ i) (i1 : i ≤ 9223372036854775807) :
    Calls Tryz.prog 80 #[.slice p ss.length cap, .int .i64 i] w fun e w' => ∃ v, e = .returned v ∧ w'.ownsRow w.heap.size 9 1 v (proofA ss i).length (strRow (proofA ss i)) ∧ Below w.heap.size w w' := by
  have HP : Hid (TxtAt w p ss) := hp
  clear hp
  have H0 : Hid (proofA ss i = if entB ss = true ∧ 1 ≤ i ∧ i ≤ ss.length then proofB i.toNat ss true else []) := rfl
  have B0 : Hid (Below w.heap.size w (w.alloc (.cells #[] 9))) := (Below.refl _ _).alloc (Nat.le_refl _) _
  by_cases hl : ss.length ≤ 400
  case neg =>
    have d0 : decide (400 < (ss.length : Int)) = true := decide_eq_true (by omega)
    have H : Hid (proofA ss i = []) := H0.out.trans (if_neg fun h => by have := entB_len h.1; omega)
    go_enter Tryz.func80, Tryz.ntmps80
    go_wp2_with fail
    go_ret
    exact ⟨_, rfl, by rw [H.out]; exact ownS_none w, B0.out⟩
  have d0 : decide (400 < (ss.length : Int)) = false := decide_eq_false (by omega)
  have hr := ent2_any p cap ss w HP.out hn hcap
  cases he : entB ss
  · rw [he] at hr
    have H : Hid (proofA ss i = []) := H0.out.trans (if_neg fun h => by rw [he] at h; exact absurd h.1 (by simp))
    clear he
    go_enter Tryz.func80, Tryz.ntmps80
    go_wp2_with fail
    refine hr.mono ?_
    rintro e w1 ⟨rfl, rfl⟩
    go_wp2_with fail
    go_ret
    exact ⟨_, rfl, by rw [H.out]; exact ownS_none w1, B0.out⟩
  by_cases c1 : 1 ≤ i
  case neg =>
    rw [he] at hr
    have d1 : decide (i < 1) = true := decide_eq_true (by omega)
    have H : Hid (proofA ss i = []) := H0.out.trans (if_neg fun h => c1 h.2.1)
    clear he
    go_enter Tryz.func80, Tryz.ntmps80
    go_wp2_with fail
    refine hr.mono ?_
    rintro e w1 ⟨rfl, rfl⟩
    go_wp2_with fail
    go_ret
    exact ⟨_, rfl, by rw [H.out]; exact ownS_none w1, B0.out⟩
  have d1 : decide (i < 1) = false := decide_eq_false (by omega)
  by_cases c2 : i ≤ ss.length
  case neg =>
    rw [he] at hr
    have d2 : decide ((ss.length : Int) < i) = true := decide_eq_true (by omega)
    have H : Hid (proofA ss i = []) := H0.out.trans (if_neg fun h => c2 h.2.2)
    clear he
    go_enter Tryz.func80, Tryz.ntmps80
    go_wp2_with fail
    refine hr.mono ?_
    rintro e w1 ⟨rfl, rfl⟩
    go_wp2_with fail
    go_ret
    exact ⟨_, rfl, by rw [H.out]; exact ownS_none w1, B0.out⟩
  have d2 : decide ((ss.length : Int) < i) = false := decide_eq_false (by omega)
  have H : Hid (proofA ss i = proofB i.toNat ss true) := H0.out.trans (if_pos ⟨he, c1, c2⟩)
  have h100 := entB_all he
  rw [he] at hr
  obtain ⟨I, rfl⟩ := Int.eq_ofNat_of_zero_le (show 0 ≤ i by omega)
  rw [Int.toNat_natCast] at H
  have d3 : decide (ss.length < I) = false := decide_eq_false (by omega)
  have hc := proof2_any ss.length p cap ss I true w rfl HP.out (by omega) hcap h100 (by omega) (by omega)
  rw [← H.out] at hc
  clear he h100 H0 H
  generalize proofA ss (I : Int) = R at *
  go_enter Tryz.func80, Tryz.ntmps80
  go_wp2_with fail
  refine hr.mono ?_
  rintro e w1 ⟨rfl, hw1⟩
  subst hw1
  go_wp2_with fail
  refine hc.mono ?_
  rintro e w2 ⟨v, rfl, ho, hb⟩
  have HO : Hid (w2.ownsRow w1.heap.size 9 1 v R.length (strRow R)) := ho
  clear ho
  go_wp2_with fail
  go_ret
  exact ⟨_, rfl, HO.out, hb⟩
end Go.Proofs.YtonleickhincgaaGreatDoor
/-
  The program's putProof and ProofOf: the proof of the first ones, 'proofA', in new memory of its own.
  Conditions: the slice's cells hold the entries; old is an int64; the two tables lie as the program's text lays them.
-/
namespace Go.Proofs.YtonleickhincgaaGreatDoor
open Go.RowKit Go.Lib
set_option linter.unusedVariables false
set_option maxRecDepth 20000

end Go.Proofs.YtonleickhincgaaGreatDoor
/-
  What the specification's and the program's Extend answer of any log in memory: of a right one the proof of its leaves, else nothing; the answer owns its memory.
-/
namespace Go.Proofs.YtonleickhincgaaGreatDoor
open Go.RowKit Go.Lib
set_option linter.unusedVariables false
set_option maxRecDepth 20000

def exO (rs : List Rw) (lv : List ByteArray) (now i : Int) : List ByteArray := if lgB rs lv now = true then proofA lv i else []
theorem exO_len (rs : List Rw) (lv : List ByteArray) (now i : Int) : (exO rs lv now i).length ≤ 1024 := by
  unfold exO; split
  · exact proofA_len lv i
  · simp
set_option maxHeartbeats 1000000 in
theorem specExtend_any (p : Option Addr) (lv : List ByteArray) (cp : Nat) (q : Option Addr) (rs : List Rw) (cq : Nat) (now : Int) (i : Int) (w : World) (i0 : -9223372036854775808 ≤ i) (i1 : i ≤ 9223372036854775807) (hA : LgAt p lv cp q rs cq w) :
    Calls Tryz.prog 33 #[.agg #[.slice q rs.length cq, .slice p lv.length cp, .int .i64 now], .int .i64 i] w fun e w' => ∃ v, e = .returned v ∧ w'.ownsRow w.heap.size 9 1 v (exO rs lv now i).length (strRow (exO rs lv now i)) ∧ Below w.heap.size w w' := by
  obtain ⟨W1, hW1⟩ : ∃ W1, W1 = w.alloc (.cells #[.slice q rs.length cq, .slice p lv.length cp, .int .i64 now] 41) := ⟨_, rfl⟩
  have HW1 : Hid (W1 = w.alloc (.cells #[.slice q rs.length cq, .slice p lv.length cp, .int .i64 now] 41)) := hW1
  have B1 : Hid (Below w.heap.size w W1) := by rw [hW1]; exact (Below.refl _ _).alloc (Nat.le_refl _) _
  have K1 : Hid (Bxs W1 w.heap.size 41 #[.slice q rs.length cq, .slice p lv.length cp, .int .i64 now]) := by rw [hW1]; exact Bxs.new _ _ _
  have hR := specLogRight_any p lv cp q rs cq now W1 (hA.below B1.out)
  have HP : Hid (∀ x, Below w.heap.size w x → Calls Tryz.prog 80 #[.slice p lv.length cp, .int .i64 i] x fun e w' => ∃ v, e = .returned v ∧ w'.ownsRow x.heap.size 9 1 v (proofA lv i).length (strRow (proofA lv i)) ∧ Below x.heap.size x w') := fun x hb => specProof_any p cp lv i x (hA.tx.below hb) (by have := hA.ln; omega) hA.lc i0 i1
  obtain ⟨x0, x1, x2⟩ : W1.cell? ⟨w.heap.size, 0, none⟩ = some (.slice q rs.length cq) ∧ W1.cell? ⟨w.heap.size, 1, none⟩ = some (.slice p lv.length cp) ∧ W1.cell? ⟨w.heap.size, 2, none⟩ = some (.int .i64 now) := ⟨K1.out.cell 0, K1.out.cell 1, K1.out.cell 2⟩
  rw [HW1.out] at x0 x1 x2
  unfold exO
  clear hW1 hA
  cases hg : lgB rs lv now with
  | false =>
    rw [hg] at hR
    rw [if_neg Bool.false_ne_true]
    go_enter Tryz.func33, Tryz.ntmps33
    go_wp2_with fail
    rw [← HW1.out]
    refine hR.mono ?_
    rintro e y ⟨rfl, by_⟩
    go_wp2_with fail
    go_ret
    have hb := chainB B1.out by_
    exact ⟨_, rfl, ownS_mono (ownS_none y) hb.size, hb.alloc hb.size _⟩
  | true =>
    rw [hg] at hR
    rw [if_pos rfl]
    go_enter Tryz.func33, Tryz.ntmps33
    go_wp2_with fail
    rw [← HW1.out]
    refine hR.mono ?_
    rintro e y ⟨rfl, by_⟩
    have y1 := (K1.out.below by_).cell 1
    have hb := chainB B1.out by_
    have hP := HP.out y hb
    clear hR HP x0 x1 x2
    go_wp2_with fail
    refine hP.mono ?_
    rintro e y2 ⟨v, rfl, ho, b2⟩
    clear hP
    go_wp2_with fail
    go_ret
    exact ⟨v, rfl, ownS_mono ho hb.size, chainB hb b2⟩
end Go.Proofs.YtonleickhincgaaGreatDoor
/-
  Promise 14 as plain laws: each leaf of a right log is proved to be in it, each size of it to be the beginning of all, also behind a forgetting.
-/
namespace Go.Proofs.YtonleickhincgaaGreatDoor
open Go.RowKit Go.Lib
set_option linter.unusedVariables false

theorem lg_ent {rs : List Rw} {lv : List ByteArray} {now : Int} (h : lgB rs lv now = true) : entB lv = true := by
  have := ent_take (lg_right h).2.1 (lg_small h) lv.length
  rwa [List.take_length] at this
theorem ro_all {rs : List Rw} {lv : List ByteArray} {now : Int} (h : lgB rs lv now = true) : roO rs lv now (lv.length : Int) = treeA lv := by
  unfold roO
  rw [if_pos h, if_pos (by omega), Int.toNat_natCast, List.take_length, treeA_of (lg_ent h)]
theorem ro_some {rs : List Rw} {lv : List ByteArray} {now : Int} (h : lgB rs lv now = true) {m : Nat} (hm : m ≤ lv.length) : roO rs lv now (m : Int) = treeA (lv.take m) := by
  unfold roO
  rw [if_pos h, if_pos (by omega), Int.toNat_natCast, treeA_of (entB_take (lg_ent h) m)]
theorem hd_proof {rs : List Rw} {lv : List ByteArray} {now : Int} (h : lgB rs lv now = true) {k : Nat} (hk : k < lv.length) : pgB (pfL rs lv now (k : Int)) (pfI rs lv now (k : Int)) (pfS rs lv now (k : Int)) (pfP rs lv now (k : Int)) (roO rs lv now (lv.length : Int)) = true := by
  have ho : pfOk rs lv now (k : Int) := ⟨h, by omega, by omega⟩
  obtain ⟨e1, e2, e3, e4⟩ := pf_yes ho hk
  rw [e1, e2, e3, e4, ro_all h, pg_some (lg_small h _ (List.getElem_mem hk))]
  have e5 : pathB lv k = pathA lv (k : Int) := by unfold pathA; rw [if_pos ⟨lg_ent h, by omega, by omega⟩]; simp
  rw [e5]
  exact inc_true (lg_ent h) k hk
theorem hd_ext {rs : List Rw} {lv : List ByteArray} {now : Int} (h : lgB rs lv now = true) {m : Nat} (h1 : 1 ≤ m) (hm : m ≤ lv.length) : conA (m : Int) (lv.length : Int) (exO rs lv now (m : Int)) (roO rs lv now (m : Int)) (roO rs lv now (lv.length : Int)) = true := by
  unfold exO
  rw [if_pos h, ro_all h, ro_some h hm]
  exact con_true (lg_ent h) m h1 hm
/-- Behind a forgetting the old size is the beginning of the new log, by its old root. -/
theorem hd_fgt {rs : List Rw} {lv : List ByteArray} {now r f y : Int} (h : lfC rs lv now r f y = 0) {m : Nat} (h1 : 1 ≤ m) (hm : m ≤ lv.length) : conA (m : Int) ((lv.length : Int) + 1) (exO (lfR rs lv now r f y) (lfL rs lv now r f y) (lfN rs lv now r f y) (m : Int)) (roO rs lv now (m : Int)) (roO (lfR rs lv now r f y) (lfL rs lv now r f y) (lfN rs lv now r f y) ((lv.length : Int) + 1)) = true := by
  have hl := (lf_leaves h).2.1
  have e : ((lv.length : Int) + 1) = (((lfL rs lv now r f y).length : Nat) : Int) := by rw [hl]; omega
  rw [e, ← lf_root h (m : Int) (by omega)]
  exact hd_ext (lf_right h) h1 (by omega)
end Go.Proofs.YtonleickhincgaaGreatDoor
/-
  Promises 22 to 24 as plain laws: what an auditor that heard a head is; two sizes of one log never clash; two logs of one size do, if their roots are unlike.
-/
namespace Go.Proofs.YtonleickhincgaaGreatDoor
open Go.RowKit Go.Lib
set_option linter.unusedVariables false

theorem toL_self (r : ByteArray) : (r.toList == r.toList) = true := beq_self_eq_true _
theorem roO_32 {rs : List Rw} {lv : List ByteArray} {now : Int} (h : lgB rs lv now = true) {m : Nat} (hm : m ≤ lv.length) : (roO rs lv now (m : Int)).size = 32 := by
  unfold roO
  rw [if_pos h, if_pos (by omega), treeB_size]
theorem cla_no {ka : ByteArray} {sa : Int} {ra kb : ByteArray} {sb : Int} {rb : ByteArray} {ss : List ByteArray} (h : claE sa ra sb rb ss = false) : claB ka sa ra kb sb rb ss = false := by
  unfold claB
  rw [h]
  simp
/-- Two sizes of one log never clash. -/
theorem cl_same {rs : List Rw} {lv : List ByteArray} {now : Int} (h : lgB rs lv now = true) {n : Nat} (h1 : 1 ≤ n) (hn : n ≤ lv.length) (k : ByteArray) :
    claB k (n : Int) (roO rs lv now (n : Int)) k (lv.length : Int) (roO rs lv now (lv.length : Int)) (exO rs lv now (n : Int)) = false ∧ claB k (lv.length : Int) (roO rs lv now (lv.length : Int)) k (n : Int) (roO rs lv now (n : Int)) (exO rs lv now (n : Int)) = false := by
  by_cases e : n = lv.length
  · subst e
    exact ⟨cla_no (by rw [claE_eq, toL_self]; rfl), cla_no (by rw [claE_eq, toL_self]; rfl)⟩
  · have hc := hd_ext h h1 hn
    exact ⟨cla_no (by rw [claE_lt (by omega), hc]; rfl), cla_no (by rw [claE_gt (by omega), hc]; rfl)⟩
/-- Two right logs of one size clash, whatever the proof, if their roots are unlike. -/
theorem cl_unlike {k ru rv : ByteArray} {s : Int} (hk : k.size = 32) (h1 : 1 ≤ s) (h64 : s ≤ 64) (hu : ru.size = 32) (hv : rv.size = 32) : claB k s ru k s rv [] = !(ru.toList == rv.toList) := by
  rw [cla_some (by simp)]
  have a1 : audB k s ru = true := by rw [aud_size hk (by omega)]; unfold sizB; rw [decide_eq_true ⟨h1, h64⟩, decide_eq_true hu]; rfl
  have a2 : audB k s rv = true := by rw [aud_size hk (by omega)]; unfold sizB; rw [decide_eq_true ⟨h1, h64⟩, decide_eq_true hv]; rfl
  have e0 : (s == 0) = false := beq_eq_false_iff_ne.2 (by omega)
  rw [a1, a2, toL_self, e0, claE_eq]
  simp
/-- A field that one asks for can be forgotten by a rule, too. -/
theorem lf_both {rs : List Rw} {lv : List ByteArray} {now r f : Int} (h : lfC rs lv now r f 1 = 0) : lfC rs lv now r f 2 = 0 := by
  obtain ⟨h1, -, h3⟩ := lf_parts h
  unfold lfC
  rw [h1, decide_eq_true (by omega : (1 : Int) ≤ 2 ∧ (2 : Int) ≤ 2), Bool.and_self, if_pos rfl]
  exact h3
theorem con_self {m : Int} {r : ByteArray} (h1 : 1 ≤ m) (hr : r.size = 32) : conA m m [] r r = true := by
  unfold conA
  rw [if_pos ⟨h1, Int.le_refl _, by simp, hr, hr, rfl⟩]
  unfold conB
  rw [pd_all, if_pos (show lft [] = true from rfl)]
  exact decide_eq_true rfl
theorem hea_parts {h : ByteArray} (hc : heaC h = 0) : 1 ≤ heaS h ∧ heaS h ≤ 64 ∧ (heaR h).size = 32 ∧ h.size ≤ 8000 := by
  by_cases hl : 8000 < h.size
  · rw [(hea_long hl).1] at hc; omega
  · cases hb : heaB h with
    | false => rw [(hea_bad hl hb).1] at hc; omega
    | true =>
      obtain ⟨_, e1, e2⟩ := hea_good hl hb
      rw [e1, e2]
      unfold heaB sizB at hb
      simp only [Bool.and_eq_true, decide_eq_true_iff] at hb
      omega
/-- Who heard a head is right, is no smaller, the head was signed, and it is heard again. -/
theorem hr_heard {k : ByteArray} {s : Int} {r h : ByteArray} {key : Int} {ends path ss : List ByteArray} (hc : hhC k s r h key ends path ss = 0) :
    audB k (heaS h) (heaR h) = true ∧ s ≤ heaS h ∧ verA k h key ends path = true ∧ hhC k (heaS h) (heaR h) h key ends path [] = 0 ∧ hhK k s r h key ends path ss = k ∧ hhS k s r h key ends path ss = heaS h ∧ hhR k s r h key ends path ss = heaR h := by
  have e1 : hhK k s r h key ends path ss = k := if_pos hc
  have e2 : hhS k s r h key ends path ss = heaS h := if_pos hc
  have e3 : hhR k s r h key ends path ss = heaR h := if_pos hc
  unfold hhC at hc
  by_cases hl : 8000 < h.size ∨ 400 < ss.length
  · rw [if_pos hl] at hc; omega
  rw [if_neg hl] at hc
  unfold hcH hcC at hc
  cases ha : audB k s r with
  | false => rw [ha] at hc; simp at hc
  | true =>
    rw [ha, if_neg (by decide)] at hc
    by_cases h0 : heaC h = 0
    · rw [if_neg (by omega)] at hc
      cases hv : verA k h key ends path with
      | false => rw [hv] at hc; simp at hc
      | true =>
        rw [hv, if_neg (by decide)] at hc
        by_cases hs : heaS h < s
        · rw [if_pos (decide_eq_true hs)] at hc; omega
        · obtain ⟨p1, p2, p3, p4⟩ := hea_parts h0
          have hk := (aud_parts ha).1
          have hA : audB k (heaS h) (heaR h) = true := by rw [aud_size hk (by omega)]; unfold sizB; rw [decide_eq_true ⟨p1, p2⟩, decide_eq_true p3]; rfl
          refine ⟨hA, by omega, rfl, ?_, e1, e2, e3⟩
          have hn : ¬ (8000 < h.size ∨ 400 < ([] : List ByteArray).length) := by simp; omega
          unfold hhC
          rw [if_neg hn]
          unfold hcH
          rw [hA, h0, hv, decide_eq_false (by omega), decide_eq_true (by omega), con_self p1 p3]
          rfl
    · rw [if_pos h0] at hc; exact absurd hc h0
end Go.Proofs.YtonleickhincgaaGreatDoor
/-
  What the program's sizedRight, hasSize and AuditorRight answer: 'audB'.
-/
namespace Go.Proofs.YtonleickhincgaaGreatDoor
open Go.RowKit Go.Lib
set_option linter.unusedVariables false
set_option maxRecDepth 20000

/-- areDigests of one text, laid into a new row. -/
theorem areO_any (c : ByteArray) (w : World) (g : Nat) (hg : w.heap.size = g) : Calls Tryz.prog 46 #[.slice (some ⟨g, 0, none⟩) 1 1] (w.alloc (.cells #[.string c] 9)) fun e w' => e = .returned (.bool (decide (c.size = 32))) ∧ Below w.heap.size w w' := by
  subst hg
  have hb : BlkS (w.alloc (.cells #[.string c] 9)) w.heap.size [c] := alloc_str w [c]
  have b1 : Below w.heap.size w (w.alloc (.cells #[.string c] 9)) := (Below.refl _ _).alloc (Nat.le_refl _) _
  have h := areD_any (some ⟨w.heap.size, 0, none⟩) 1 [c] _ hb.txt (by simp) (by simp)
  have e1 : wideB [c] = decide (c.size = 32) := by
    unfold wideB
    by_cases h : c.size = 32
    · rw [decide_eq_true h]; simp [h]
    · rw [decide_eq_false h]; simp [h]
  rw [e1] at h
  refine Calls.mono h ?_
  rintro e w' ⟨he, rfl⟩
  exact ⟨he, b1⟩
theorem hasSize_any (k : ByteArray) (s : Int) (r : ByteArray) (w : World) : Calls Tryz.prog 67 #[.agg #[.string k, .int .i64 s, .string r]] w fun e w' => e = .returned (.bool (decide (0 < s))) ∧ Below w.heap.size w w' := by
  have B1 : Hid (Below w.heap.size w (w.alloc (.cells #[.string k, .int .i64 s, .string r] 24))) := (Below.refl _ _).alloc (Nat.le_refl _) _
  go_enter Tryz.func67, Tryz.ntmps67
  go_wp2_with fail
  go_ret
  exact ⟨rfl, B1.out⟩
set_option maxHeartbeats 1000000 in
theorem sizedRight_any (k : ByteArray) (s : Int) (r : ByteArray) (w : World) : Calls Tryz.prog 42 #[.agg #[.string k, .int .i64 s, .string r]] w fun e w' => e = .returned (.bool (sizB s r)) ∧ Below w.heap.size w w' := by
  obtain ⟨W1, hW1⟩ : ∃ W1, W1 = w.alloc (.cells #[.string k, .int .i64 s, .string r] 24) := ⟨_, rfl⟩
  have HW1 : Hid (W1 = w.alloc (.cells #[.string k, .int .i64 s, .string r] 24)) := hW1
  have B1 : Hid (Below w.heap.size w W1) := by rw [hW1]; exact (Below.refl _ _).alloc (Nat.le_refl _) _
  have K1 : Bxs W1 w.heap.size 24 #[.string k, .int .i64 s, .string r] := by rw [hW1]; exact Bxs.new _ _ _
  have t0 := K1.cell 0
  have t1 := K1.cell 1
  have t2 := K1.cell 2
  simp at t0 t1 t2
  have hA := areO_any r W1 (w.heap.size + 1) (by rw [hW1]; simp)
  clear K1 hW1
  have H0 : Hid (sizB s r = (decide (1 ≤ s ∧ s ≤ 64) && decide (r.size = 32))) := rfl
  rw [H0.out]
  clear H0
  generalize decide (r.size = 32) = c at *
  by_cases h1 : 1 ≤ s
  case neg =>
    have d1 : decide (1 ≤ s) = false := decide_eq_false h1
    rw [decide_eq_false (p := 1 ≤ s ∧ s ≤ 64) (fun h => h1 h.1)]
    clear h1
    go_enter Tryz.func42, Tryz.ntmps42
    go_wp2_with fail
    rw [← HW1.out]
    go_wp2_with fail
    go_ret
    exact ⟨rfl, B1.out⟩
  have d1 : decide (1 ≤ s) = true := decide_eq_true h1
  by_cases h2 : s ≤ 64
  case neg =>
    have d2 : decide (s ≤ 64) = false := decide_eq_false h2
    rw [decide_eq_false (p := 1 ≤ s ∧ s ≤ 64) (fun h => h2 h.2)]
    clear h1 h2
    go_enter Tryz.func42, Tryz.ntmps42
    go_wp2_with fail
    rw [← HW1.out]
    go_wp2_with fail
    go_ret
    exact ⟨rfl, B1.out⟩
  have d2 : decide (s ≤ 64) = true := decide_eq_true h2
  rw [decide_eq_true (p := 1 ≤ s ∧ s ≤ 64) ⟨h1, h2⟩]
  clear h1 h2
  go_enter Tryz.func42, Tryz.ntmps42
  go_wp2_with fail
  rw [← HW1.out]
  go_wp2_with fail
  with_reducible refine hA.mono ?_
  rintro e w1 ⟨rfl, b1⟩
  go_wp2_with fail
  go_ret
  exact ⟨ret_bool (by simp), chainB B1.out b1⟩
set_option maxHeartbeats 1000000 in
theorem implAud_any (k : ByteArray) (s : Int) (r : ByteArray) (w : World) : Calls Tryz.prog 12 #[.agg #[.string k, .int .i64 s, .string r]] w fun e w' => e = .returned (.bool (audB k s r)) ∧ Below w.heap.size w w' := by
  obtain ⟨W1, hW1⟩ : ∃ W1, W1 = w.alloc (.cells #[.string k, .int .i64 s, .string r] 24) := ⟨_, rfl⟩
  have HW1 : Hid (W1 = w.alloc (.cells #[.string k, .int .i64 s, .string r] 24)) := hW1
  have B1 : Hid (Below w.heap.size w W1) := by rw [hW1]; exact (Below.refl _ _).alloc (Nat.le_refl _) _
  have K1 : Hid (Bxs W1 w.heap.size 24 #[.string k, .int .i64 s, .string r]) := by rw [hW1]; exact Bxs.new _ _ _
  have t0 := K1.out.cell 0
  simp at t0
  have hA := areO_any k W1 (w.heap.size + 1) (by rw [hW1]; simp)
  have HS : Hid (∀ x, Calls Tryz.prog 42 #[.agg #[.string k, .int .i64 s, .string r]] x fun e w' => e = .returned (.bool (sizB s r)) ∧ Below x.heap.size x w') := fun x => sizedRight_any k s r x
  have HX : Hid (∀ x, Below W1.heap.size W1 x → x.cell? ⟨w.heap.size, 0, none⟩ = some (.string k) ∧ x.cell? ⟨w.heap.size, 1, none⟩ = some (.int .i64 s) ∧ x.cell? ⟨w.heap.size, 2, none⟩ = some (.string r)) := fun x hb => ⟨(K1.out.below hb).cell 0, (K1.out.below hb).cell 1, (K1.out.below hb).cell 2⟩
  have H0 : Hid (audB k s r = (decide (k.size = 32) && (((s == 0) && noT r) || sizB s r))) := rfl
  rw [H0.out]
  clear H0 hW1 K1
  generalize decide (k.size = 32) = c at *
  cases c
  case false =>
    go_enter Tryz.func12, Tryz.ntmps12
    go_wp2_with fail
    rw [← HW1.out]
    go_wp2_with fail
    with_reducible refine hA.mono ?_
    rintro e w1 ⟨rfl, b1⟩
    go_wp2_with fail
    go_ret
    exact ⟨ret_bool (by simp), chainB B1.out b1⟩
  have H2 : Hid (noT r = r.toList.isEmpty) := rfl
  rw [H2.out]
  clear H2
  generalize sizB s r = c2 at *
  cases hz : (s == 0)
  case false =>
    have f1 : ¬ s = 0 := by simpa using hz
    go_enter Tryz.func12, Tryz.ntmps12
    go_wp2_with fail
    rw [← HW1.out]
    go_wp2_with fail
    with_reducible refine hA.mono ?_
    rintro e w1 ⟨rfl, b1⟩
    obtain ⟨u0, u1, u2⟩ := HX.out w1 b1
    have hS := HS.out w1
    go_wp2_with fail
    refine hS.mono ?_
    rintro e w2 ⟨rfl, b2⟩
    go_wp2_with fail
    go_ret
    exact ⟨ret_bool (by simp), chainB B1.out (chainB b1 b2)⟩
  obtain rfl : s = 0 := by simpa using hz
  clear hz
  cases hr : r.toList.isEmpty
  case true =>
    go_enter Tryz.func12, Tryz.ntmps12
    go_wp2_with fail
    rw [← HW1.out]
    go_wp2_with fail
    with_reducible refine hA.mono ?_
    rintro e w1 ⟨rfl, b1⟩
    obtain ⟨u0, u1, u2⟩ := HX.out w1 b1
    go_wp2_with fail
    go_ret
    exact ⟨ret_bool (by simp), chainB B1.out b1⟩
  go_enter Tryz.func12, Tryz.ntmps12
  go_wp2_with fail
  rw [← HW1.out]
  go_wp2_with fail
  with_reducible refine hA.mono ?_
  rintro e w1 ⟨rfl, b1⟩
  obtain ⟨u0, u1, u2⟩ := HX.out w1 b1
  have hS := HS.out w1
  go_wp2_with fail
  refine hS.mono ?_
  rintro e w2 ⟨rfl, b2⟩
  go_wp2_with fail
  go_ret
  exact ⟨ret_bool (by simp), chainB B1.out (chainB b1 b2)⟩
end Go.Proofs.YtonleickhincgaaGreatDoor
/-
  What the specification's AuditorRight answers: 'audB'.
-/
namespace Go.Proofs.YtonleickhincgaaGreatDoor
open Go.RowKit Go.Lib
set_option linter.unusedVariables false
set_option maxRecDepth 20000

set_option maxHeartbeats 1000000 in
theorem specAud_any (k : ByteArray) (s : Int) (r : ByteArray) (w : World) : Calls Tryz.prog 13 #[.agg #[.string k, .int .i64 s, .string r]] w fun e w' => e = .returned (.bool (audB k s r)) ∧ Below w.heap.size w w' := by
  obtain ⟨W1, hW1⟩ : ∃ W1, W1 = w.alloc (.cells #[.string k, .int .i64 s, .string r] 24) := ⟨_, rfl⟩
  have HW1 : Hid (W1 = w.alloc (.cells #[.string k, .int .i64 s, .string r] 24)) := hW1
  have B1 : Hid (Below w.heap.size w W1) := by rw [hW1]; exact (Below.refl _ _).alloc (Nat.le_refl _) _
  have K1 : Bxs W1 w.heap.size 24 #[.string k, .int .i64 s, .string r] := by rw [hW1]; exact Bxs.new _ _ _
  have t0 := K1.cell 0
  have t1 := K1.cell 1
  have t2 := K1.cell 2
  simp at t0 t1 t2
  have hI := l07Is_any s 1 64 W1
  clear K1 hW1
  by_cases h1 : k.size = 32
  case neg =>
    have H : Hid (audB k s r = false) := aud_key h1
    have d1 : ¬ (k.size : Int) = 32 := by omega
    rw [H.out]
    clear h1
    go_enter Tryz.func13, Tryz.ntmps13
    go_wp2_with fail
    rw [← HW1.out]
    go_wp2_with fail
    go_ret
    exact ⟨rfl, B1.out⟩
  have d1 : (k.size : Int) = 32 := by omega
  by_cases h2 : s = 0
  case pos =>
    subst h2
    have H : Hid (audB k 0 r = noT r) := aud_zero h1
    rw [H.out]
    clear h1
    unfold noT
    go_enter Tryz.func13, Tryz.ntmps13
    go_wp2_with fail
    rw [← HW1.out]
    go_wp2_with fail
    go_ret
    exact ⟨rfl, B1.out⟩
  have H : Hid (audB k s r = (decide (1 ≤ s ∧ s ≤ 64) && decide (r.size = 32))) := aud_size h1 h2
  have d2 : (s == 0) = false := beq_eq_false_iff_ne.2 h2
  rw [H.out]
  clear h1 H
  have d3 : ((r.size : Int) == 32) = decide (r.size = 32) := by
    by_cases h : r.size = 32
    · rw [decide_eq_true h]; exact beq_iff_eq.2 (by omega)
    · rw [decide_eq_false h]; exact beq_eq_false_iff_ne.2 (by omega)
  generalize decide (1 ≤ s ∧ s ≤ 64) = b at *
  generalize decide (r.size = 32) = c at *
  go_enter Tryz.func13, Tryz.ntmps13
  go_wp2_with fail
  rw [← HW1.out]
  go_wp2_with fail
  refine hI.mono ?_
  rintro e w1 ⟨rfl, rfl⟩
  cases b
  · go_wp2_with fail
    go_ret
    exact ⟨rfl, B1.out⟩
  cases c
  · have f1 : ¬ (r.size : Int) = 32 := by simpa using d3
    go_wp2_with fail
    go_ret
    exact ⟨rfl, B1.out⟩
  have f1 : (r.size : Int) = 32 := by simpa using d3
  go_wp2_with fail
  go_ret
  exact ⟨rfl, B1.out⟩
end Go.Proofs.YtonleickhincgaaGreatDoor
/-
  What the program's readText answers.
  Conditions: the string fits the form's own reach; the place is an int64.
-/
namespace Go.Proofs.YtonleickhincgaaGreatDoor
open Go.RowKit Go.Extern.Stop Go.Stop Go.Extern
set_option linter.unusedVariables false

def rtBad (c : Int) : Value := .tuple #[.string ByteArray.empty, .int .i64 0, .iface 194 (.agg #[.int .i64 c])]
def rtOk (t : ByteArray) (a : Int) : Value := .tuple #[.string t, .int .i64 a, .nilIface]
/-- What readText hands back, and GetText's answer beside it. -/
def ReadsTo (s : ByteArray) (a : Int) (v : Value) : Prop :=
  (∃ c, c ≠ 0 ∧ v = rtBad c ∧ getTV s a = txt ByteArray.empty 0 c) ∨ (∃ t b, v = rtOk t b ∧ getTV s a = txt t b 0)

set_option maxHeartbeats 2000000 in
theorem readText_any (s : ByteArray) (at0 : Int) (w : World) (hs : s.size ≤ maxLen) (h1 : at0 ≤ 9223372036854775807) :
    Calls Tryz.prog 95 #[.string s, .int .i64 at0] w fun e w' => (∃ v, e = .returned v ∧ ReadsTo s at0 v) ∧ Below w.heap.size w w' := by
  rcases getN_cases s at0 with ⟨n, b, hgn⟩ | ⟨c, hc, hgn⟩
  · obtain ⟨b0, b1, hs8, n0, n1⟩ := getN_ok hgn
    have HRN : Hid (rnV s at0 = .tuple #[.int .i64 n, .int .i64 b, .nilIface]) := rnV_okk hgn
    by_cases hn0 : n < 0
    · have H : Hid (getTV s at0 = txt ByteArray.empty 0 3) := getTV_syn hgn (.inl hn0)
      have d1 : decide (n < 0) = true := by simp; omega
      clear hgn
      go_enter Tryz.func95, Tryz.ntmps95
      go_wp2_with (go_at_call 94; refine (readNum_any _ _ _ hs h1).mono ?_; rintro e w1 ⟨rfl, hw⟩; rw [HRN.out]; subst hw)
      go_ret3
      exact ⟨⟨_, rfl, .inl ⟨3, by decide, rfl, H.out⟩⟩, Below.refl _ _⟩
    have d1 : decide (n < 0) = false := by simp; omega
    by_cases hn1 : 8000 < n
    · have H : Hid (getTV s at0 = txt ByteArray.empty 0 3) := getTV_syn hgn (.inr hn1)
      have d2 : decide (8000 < n) = true := by simp; omega
      clear hgn
      go_enter Tryz.func95, Tryz.ntmps95
      go_wp2_with (go_at_call 94; refine (readNum_any _ _ _ hs h1).mono ?_; rintro e w1 ⟨rfl, hw⟩; rw [HRN.out]; subst hw)
      go_ret3
      exact ⟨⟨_, rfl, .inl ⟨3, by decide, rfl, H.out⟩⟩, Below.refl _ _⟩
    have d2 : decide (8000 < n) = false := by simp; omega
    by_cases hl : (s.size : Int) < b + n
    · have H : Hid (getTV s at0 = txt ByteArray.empty 0 4) := getTV_short hgn (by omega) hl
      clear hgn
      go_enter Tryz.func95, Tryz.ntmps95
      go_wp2_with (go_at_call 94; refine (readNum_any _ _ _ hs h1).mono ?_; rintro e w1 ⟨rfl, hw⟩; rw [HRN.out]; subst hw)
      go_ret3
      exact ⟨⟨_, rfl, .inl ⟨4, by decide, rfl, H.out⟩⟩, Below.refl _ _⟩
    · have H : Hid (getTV s at0 = txt (s.extract b.toNat (b + n).toNat) (b + n) 0) := getTV_ok hgn (by omega) hl
      have hsz : (s.extract b.toNat (b + n).toNat).size ≤ 8000 := by simp; omega
      have hsl := fun wx => run_slice_string (P := Tryz.prog) wx 9 s .i64 .i64 b (b + n) Tryz.underlying9 (by omega) (by omega) (by omega)
      clear hgn
      go_enter Tryz.func95, Tryz.ntmps95
      go_wp2_with (first | (go_at_call 94; refine (readNum_any _ _ _ hs h1).mono ?_; rintro e w1 ⟨rfl, hw⟩; rw [HRN.out]; subst hw) | (go_at_call 37; refine (joined_one _ _ (by omega)).mono ?_; rintro e w2 ⟨rfl, hb2⟩))
      go_ret3
      exact ⟨⟨_, rfl, .inr ⟨_, _, rfl, H.out⟩⟩, hb2⟩
  · have HRN : Hid (rnV s at0 = .tuple #[.int .i64 0, .int .i64 0, .iface 194 (.agg #[.int .i64 c])]) := rnV_of hgn hc
    have H : Hid (getTV s at0 = txt ByteArray.empty 0 c) := getTV_bad hgn hc
    have HC : Hid (c ≠ 0) := hc
    clear hgn hc
    go_enter Tryz.func95, Tryz.ntmps95
    go_wp2_with (go_at_call 94; refine (readNum_any _ _ _ hs h1).mono ?_; rintro e w1 ⟨rfl, hw⟩; rw [HRN.out]; subst hw)
    go_ret3
    exact ⟨⟨_, rfl, .inl ⟨c, HC.out, rfl, H.out⟩⟩, Below.refl _ _⟩
end Go.Proofs.YtonleickhincgaaGreatDoor
