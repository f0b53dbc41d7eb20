/-
  What the specification's ShownLeaf answers.
  Conditions: the cells of Names and Commits hold the texts.
-/
import Derived.Test.YthkmeneepkaedaaGreatDoorRows
import Derived.Test.YthkmeneepkaedaaGreatDoorBytesDigMath
import Derived.Test.YthkmeneepkaedaaGreatDoorTreeMathSlASlBBxKOwnS
import Derived.Test.YthkmeneepkaedaaGreatDoorAppSStepAppImplFTImplOnImplFk
import Derived.Test.YthkmeneepkaedaaGreatDoorTakesLTillTwoPathMathTree2Path2HalvesTreePutter
import Derived.Test.YthkmeneepkaedaaGreatDoorTimeBPutMathPutNumJoinedPutTextFldMath
import Derived.Test.YthkmeneepkaedaaGreatDoorImplLgFldC
import Derived.Test.YthkmeneepkaedaaGreatDoorFldR
import Derived.Test.YthkmeneepkaedaaGreatDoorSpecTgFldL
import Derived.Test.YthkmeneepkaedaaGreatDoorFldGShwKFldHTakesAudMathLawAuOpAuFldRiseScanMath
import Derived.Test.YthkmeneepkaedaaGreatDoorLawSXOneKFldBlkLawFLawFM
import Derived.Handy
import Derived.WalkSpells
import Derived.OwnWalk
import Derived.Deep.AppendLies
import Derived.Deep.RegionHeld3
namespace Go.Proofs.YthkmeneepkaedaaGreatDoor
open Go.RowKit Go.Lib
set_option linter.unusedVariables false
set_option maxRecDepth 20000

def svOk (o : Shw) : Bool := decide (o.cs.length = o.ns.length) && (decide (o.ns.length ≤ 3) && decide (0 ≤ o.ix ∧ o.ix ≤ (o.ns.length : Int) - 1))
def svAt (o : Shw) (i : Nat) : Fld := if (i : Int) = o.ix then ⟨o.ns.getD i ByteArray.empty, o.cs.getD i ByteArray.empty, o.s, o.v, false⟩ else ⟨o.ns.getD i ByteArray.empty, o.cs.getD i ByteArray.empty, ByteArray.empty, ByteArray.empty, true⟩
def svF (o : Shw) (k : Nat) : List Fld := (List.range k).map (svAt o)
theorem svF_len (o : Shw) (k : Nat) : (svF o k).length = k := by simp [svF]
theorem svF_succ (o : Shw) (k : Nat) : svF o (k + 1) = svF o k ++ [svAt o k] := by simp [svF, List.range_succ]
def svB (o : Shw) : ByteArray := if svOk o = true then lfB o.k o.at_ (svF o o.ns.length) else ByteArray.empty
/-- No text of it is too long to be read. -/
def ShwLe (o : Shw) : Prop := o.k.size ≤ maxLen ∧ (∀ x ∈ o.ns, x.size ≤ maxLen) ∧ (∀ x ∈ o.cs, x.size ≤ maxLen) ∧ o.s.size ≤ maxLen ∧ o.v.size ≤ maxLen
theorem getD_le {l : List ByteArray} (h : ∀ x ∈ l, x.size ≤ maxLen) (j : Nat) : (l.getD j ByteArray.empty).size ≤ maxLen := by
  by_cases hj : j < l.length
  · rw [List.getD_eq_getElem?_getD, List.getElem?_eq_getElem hj]; exact h _ (List.getElem_mem hj)
  · rw [List.getD_eq_getElem?_getD, List.getElem?_eq_none (by omega)]; exact Nat.zero_le _
theorem svF_le {o : Shw} (h : ShwLe o) (k : Nat) : FldsLe (svF o k) := by
  obtain ⟨-, h1, h2, h3, h4⟩ := h
  intro f hf
  obtain ⟨j, -, rfl⟩ := List.mem_map.1 hf
  unfold svAt
  split
  · exact ⟨getD_le h1 j, getD_le h2 j, h3, h4⟩
  · exact ⟨getD_le h1 j, getD_le h2 j, Nat.zero_le _, Nat.zero_le _⟩
set_option maxHeartbeats 8000000 in
theorem specShownLeaf_any (o : Shw) (q1 : Option Addr) (c1 : Nat) (q2 : Option Addr) (c2 : Nat) (w : World) (t1 : TxtAt w q1 o.ns) (t2 : TxtAt w q2 o.cs) (n1 : o.ns.length ≤ 1048576) (n2 : o.cs.length ≤ 1048576) (m1 : o.ns.length ≤ c1) (m2 : o.cs.length ≤ c2) (hle : ShwLe o) :
    Calls Tryz.prog 57 #[.agg #[.string o.k, .int .i64 o.at_, .slice q1 o.ns.length c1, .slice q2 o.cs.length c2, .int .i64 o.ix, .string o.s, .string o.v]] w fun e w' => e = .returned (.string (svB o)) ∧ Below w.heap.size w w' := by
  have HLE : Hid (∀ j, FldsLe (svF o j)) := fun j => svF_le hle j
  have HKL : Hid (o.k.size ≤ maxLen) := hle.1
  clear hle
  obtain ⟨k, at_, ns, cs, ix, s, vv⟩ := o
  dsimp only at *
  obtain ⟨W1, hW1⟩ : ∃ W1, W1 = w.alloc (.cells #[.string k, .int .i64 at_, .slice q1 ns.length c1, .slice q2 cs.length c2, .int .i64 ix, .string s, .string vv] 37) := ⟨_, rfl⟩
  have HW1 : Hid (W1 = w.alloc (.cells #[.string k, .int .i64 at_, .slice q1 ns.length c1, .slice q2 cs.length c2, .int .i64 ix, .string s, .string vv] 37)) := hW1
  have B1 : Hid (Below w.heap.size w W1) := by rw [hW1]; exact (Below.refl _ _).alloc (Nat.le_refl _) _
  have K1 : Hid (Bxs W1 w.heap.size 37 #[.string k, .int .i64 at_, .slice q1 ns.length c1, .slice q2 cs.length c2, .int .i64 ix, .string s, .string vv]) := by rw [hW1]; exact Bxs.new _ _ _
  have HT1 : Hid (TxtAt W1 q1 ns) := t1.below B1.out
  have HT2 : Hid (TxtAt W1 q2 cs) := t2.below B1.out
  have HX : Hid (∀ x, Below W1.heap.size W1 x → x.cell? ⟨w.heap.size, 0, none⟩ = some (.string k) ∧ x.cell? ⟨w.heap.size, 1, none⟩ = some (.int .i64 at_) ∧ x.cell? ⟨w.heap.size, 2, none⟩ = some (.slice q1 ns.length c1) ∧ x.cell? ⟨w.heap.size, 3, none⟩ = some (.slice q2 cs.length c2) ∧ x.cell? ⟨w.heap.size, 4, none⟩ = some (.int .i64 ix) ∧ x.cell? ⟨w.heap.size, 5, none⟩ = some (.string s) ∧ x.cell? ⟨w.heap.size, 6, none⟩ = some (.string vv)) := fun x hb => ⟨(K1.out.below hb).cell 0, (K1.out.below hb).cell 1, (K1.out.below hb).cell 2, (K1.out.below hb).cell 3, (K1.out.below hb).cell 4, (K1.out.below hb).cell 5, (K1.out.below hb).cell 6⟩
  have HI : Hid (∀ x, Calls Tryz.prog 64 #[.int .i64 ix, .int .i64 0, .int .i64 ((ns.length : Int) - 1)] x fun e w' => e = .returned (.bool (decide (0 ≤ ix ∧ ix ≤ (ns.length : Int) - 1))) ∧ w' = x) := fun x => l07Is_any _ _ _ x
  clear hW1 t1 t2
  by_cases g1 : cs.length = ns.length
  case neg =>
    have q1' : ((cs.length : Int) != (ns.length : Int)) = true := by simp; omega
    have HV : Hid (svB ⟨k, at_, ns, cs, ix, s, vv⟩ = ByteArray.empty) := if_neg (by show ¬ ((decide (cs.length = ns.length) && (decide (ns.length ≤ 3) && decide (0 ≤ ix ∧ ix ≤ (ns.length : Int) - 1))) = true); rw [decide_eq_false g1]; simp)
    rw [HV.out]
    clear HT1 HT2
    go_enter Tryz.func57, Tryz.ntmps57
    go_wp2_with fail
    rw [← HW1.out]
    go_ret
    exact ⟨rfl, B1.out⟩
  have q1' : ((cs.length : Int) != (ns.length : Int)) = false := by simp; omega
  have G1 : Hid (cs.length = ns.length) := g1
  by_cases g2 : ns.length ≤ 3
  case neg =>
    have q2' : decide (3 < (ns.length : Int)) = true := decide_eq_true (by omega)
    clear g1
    have HV : Hid (svB ⟨k, at_, ns, cs, ix, s, vv⟩ = ByteArray.empty) := if_neg (by show ¬ ((decide (cs.length = ns.length) && (decide (ns.length ≤ 3) && decide (0 ≤ ix ∧ ix ≤ (ns.length : Int) - 1))) = true); rw [decide_eq_false g2]; simp)
    rw [HV.out]
    clear HT1 HT2
    go_enter Tryz.func57, Tryz.ntmps57
    go_wp2_with fail
    rw [← HW1.out]
    go_ret
    exact ⟨rfl, B1.out⟩
  have q2' : decide (3 < (ns.length : Int)) = false := decide_eq_false (by omega)
  by_cases hin : 0 ≤ ix ∧ ix ≤ (ns.length : Int) - 1
  case neg =>
    rw [decide_eq_false hin] at HI
    clear g1
    have HV : Hid (svB ⟨k, at_, ns, cs, ix, s, vv⟩ = ByteArray.empty) := if_neg (by show ¬ ((decide (cs.length = ns.length) && (decide (ns.length ≤ 3) && decide (0 ≤ ix ∧ ix ≤ (ns.length : Int) - 1))) = true); rw [decide_eq_false hin]; simp)
    rw [HV.out]
    clear HT1 HT2
    go_enter Tryz.func57, Tryz.ntmps57
    go_wp2_with fail
    rw [← HW1.out]
    refine (HI.out W1).mono ?_
    rintro e y1 ⟨rfl, rfl⟩
    go_wp2_with fail
    go_ret
    exact ⟨rfl, B1.out⟩
  rw [decide_eq_true hin] at HI
  have HV : Hid (svB ⟨k, at_, ns, cs, ix, s, vv⟩ = lfB k at_ (svF ⟨k, at_, ns, cs, ix, s, vv⟩ ns.length)) := if_pos (by show (decide (cs.length = ns.length) && (decide (ns.length ≤ 3) && decide (0 ≤ ix ∧ ix ≤ (ns.length : Int) - 1))) = true; rw [decide_eq_true g1, decide_eq_true g2, decide_eq_true hin]; rfl)
  rw [HV.out]
  have hn0 : 0 < ns.length := by omega
  obtain ⟨b1, o1, rfl, hb1⟩ := HT1.out.some_of7 hn0
  obtain ⟨b2, o2, rfl, hb2⟩ := HT2.out.some_of7 (by omega)
  obtain ⟨Z, hZ⟩ : ∃ Z, Z = W1.heap.size := ⟨_, rfl⟩
  obtain ⟨W2, hW2⟩ : ∃ W2, W2 = W1.alloc (.cells #[.string k, .int .i64 at_, .slice none 0 0] 64) := ⟨_, rfl⟩
  have HW2 : Hid (W2 = W1.alloc (.cells #[.string k, .int .i64 at_, .slice none 0 0] 64)) := hW2
  have HZ : Hid (Z = W1.heap.size) := hZ
  have S2 : Hid (One7 W1 Z 64 #[.string k, .int .i64 at_, .slice none 0 0] (.slice none 0 0) (svF ⟨k, at_, ns, cs, ix, s, vv⟩ 0) W2) := by
    rw [hW2, hZ]
    exact ⟨(Below.refl _ _).alloc (Nat.le_refl _) _, Nat.le_refl _, by decide, Bxs.new _ _ _, World.ownsRow_nil _ _ _ _⟩
  obtain ⟨t0, t1, t2, t3, t4, t5, t6⟩ := HX.out W1 (Below.refl _ _)
  have HSz : Hid (W1.heap.size = w.heap.size + 1) := by show _ = _; rw [HW1.out]; simp
  clear hW2 hZ HV g1
  go_enter Tryz.func57, Tryz.ntmps57
  go_wp2_with fail
  rw [← HW1.out]
  refine (HI.out W1).mono ?_
  rintro e y1 ⟨rfl, rfl⟩
  go_upto_region 4 with fail
  rw [← HW2.out, ← HZ.out]
  clear t0 t1 t2 t3 t4 t5 t6 q1' q2' HW2 HZ HW1 HI
  go_wp2_with fail
  go_loopw [4] (fun i wr => ∃ (j : Nat) (v : Value), j ≤ ns.length ∧ i = .int .i64 j ∧ Hid (One7 y1 Z 64 #[.string k, .int .i64 at_, v] v (svF ⟨k, at_, ns, cs, ix, s, vv⟩ j) wr)) (fun i _ => ns.length - (intOf i).toNat)
  case atStart => exact ⟨0, _, Nat.zero_le _, rfl, S2⟩
  case round =>
    clear S2
    obtain ⟨j, v, hj, rfl, hS⟩ := hrel
    obtain ⟨t0, t1, t2, t3, t4, t5, t6⟩ := HX.out wr hS.out.bel
    by_cases hlt : j < ns.length
    · have j1 : (j : Int) < ns.length := by omega
      have j2' : j < cs.length := by have := G1.out; omega
      have j2 : (j : Int) < cs.length := by omega
      have hc1 := fun x (hx : Below y1.heap.size y1 x) => (HT1.out.below hx).at j hlt
      have hc2 := fun x (hx : Below y1.heap.size y1 x) => (HT2.out.below hx).at j j2'
      rw [← getD_at hlt] at hc1
      rw [← getD_at j2'] at hc2
      have HY : Hid (∀ w', Below y1.heap.size y1 w' → w'.cell? ⟨w.heap.size, 2, none⟩ = some (.slice (some ⟨b1, o1, none⟩) ns.length c1) ∧ w'.cell? ⟨w.heap.size, 3, none⟩ = some (.slice (some ⟨b2, o2, none⟩) cs.length c2) ∧ w'.cell? ⟨b1, o1 + j, none⟩ = some (.string (ns.getD j ByteArray.empty)) ∧ w'.cell? ⟨b2, o2 + j, none⟩ = some (.string (cs.getD j ByteArray.empty))) := fun x hx => ⟨(HX.out x hx).2.2.1, (HX.out x hx).2.2.2.1, hc1 x hx, hc2 x hx⟩
      have HFt : Hid ((j : Int) = ix → svAt ⟨k, at_, ns, cs, ix, s, vv⟩ j = ⟨ns.getD j ByteArray.empty, cs.getD j ByteArray.empty, s, vv, false⟩) := fun h => if_pos h
      have HFf : Hid (¬ (j : Int) = ix → svAt ⟨k, at_, ns, cs, ix, s, vv⟩ j = ⟨ns.getD j ByteArray.empty, cs.getD j ByteArray.empty, ByteArray.empty, ByteArray.empty, true⟩) := fun h => if_neg h
      clear hc1 hc2
      generalize ns.getD j ByteArray.empty = fn at *
      generalize cs.getD j ByteArray.empty = fc at *
      have HLn : Hid ((svF ⟨k, at_, ns, cs, ix, s, vv⟩ j).length + 1 ≤ 1048576) := by show _ ≤ _; rw [svF_len]; omega
      have BR : Hid (Below wr.heap.size wr wr.drew) := (Below.refl _ _).drew
      obtain ⟨z1, hz1⟩ : ∃ z1, z1 = (wr.alloc (.cells #[.string fn, .string fc, .string ⟨#[]⟩, .string ⟨#[]⟩, .bool true] 66)).drew := ⟨_, rfl⟩
      have HZ1 : Hid (z1 = (wr.alloc (.cells #[.string fn, .string fc, .string ⟨#[]⟩, .string ⟨#[]⟩, .bool true] 66)).drew) := hz1
      have KF : Hid (Bxs z1 wr.heap.size 66 #[.string fn, .string fc, .string ByteArray.empty, .string ByteArray.empty, .bool true]) := by rw [hz1]; exact Bxs.new wr _ _
      have BF : Hid (Below wr.heap.size wr z1) := by rw [hz1]; exact ((Below.refl _ _).alloc (Nat.le_refl _) _).drew
      clear hz1
      go_upto_region 7 with fail
      refine region_till (fun w' => w'.cell? ⟨w.heap.size, 2, none⟩ = some (.slice (some ⟨b1, o1, none⟩) ns.length c1) ∧ w'.cell? ⟨w.heap.size, 3, none⟩ = some (.slice (some ⟨b2, o2, none⟩) cs.length c2) ∧ w'.cell? ⟨b1, o1 + j, none⟩ = some (.string fn) ∧ w'.cell? ⟨b2, o2 + j, none⟩ = some (.string fc)) 12 (by kernel_rfl) (HY.out _ (chainB hS.out.bel BR.out)) (fun hHeld => ?_)
      refine till_take 0 (v := ?_) rfl (by kernel_rfl) (by kernel_rfl) (by kernel_rfl) (by kernel_rfl) (fun _ _ _ h => h) hHeld (Or.inl ⟨by rfl, ?_⟩) ?_
      rotate_left
      · (intro w hSw; (try dsimp only at hSw); go_simp; try with_reducible rfl)
      simp only [Act.put, List.setIfInBounds_toArray, List.set_cons_zero, List.set_cons_succ]
      refine till_take 1 (v := ?_) rfl (by kernel_rfl) (by kernel_rfl) (by kernel_rfl) (by kernel_rfl) (fun _ _ _ h => h) hHeld (Or.inl ⟨by rfl, ?_⟩) ?_
      rotate_left
      · (intro w hSw; (try dsimp only at hSw); go_simp; try with_reducible rfl)
      simp only [Act.put, List.setIfInBounds_toArray, List.set_cons_zero, List.set_cons_succ]
      refine till_take 2 (v := ?_) rfl (by kernel_rfl) (by kernel_rfl) (by kernel_rfl) (by kernel_rfl) (fun _ _ _ h => h) hHeld (Or.inl ⟨by rfl, ?_⟩) ?_
      rotate_left
      · (intro w hSw; (try dsimp only at hSw); go_simp; try with_reducible rfl)
      simp only [Act.put, List.setIfInBounds_toArray, List.set_cons_zero, List.set_cons_succ]
      refine till_take 3 (v := ?_) rfl (by kernel_rfl) (by kernel_rfl) (by kernel_rfl) (by kernel_rfl) (fun _ _ _ h => h) hHeld (Or.inl ⟨by rfl, ?_⟩) ?_
      rotate_left
      · (intro w hSw; (try dsimp only at hSw); go_simp; try with_reducible rfl)
      simp only [Act.put, List.setIfInBounds_toArray, List.set_cons_zero, List.set_cons_succ]
      refine till_take 4 (v := ?_) rfl (by kernel_rfl) (by kernel_rfl) (by kernel_rfl) (by kernel_rfl) (fun _ _ _ h => h) hHeld (Or.inl ⟨by rfl, ?_⟩) ?_
      rotate_left
      · (intro w hSw; (try dsimp only at hSw); go_simp; try with_reducible rfl)
      simp only [Act.put, List.setIfInBounds_toArray, List.set_cons_zero, List.set_cons_succ]
      refine till_take 5 (v := ?_) rfl (by kernel_rfl) (by kernel_rfl) (by kernel_rfl) (by kernel_rfl) (fun _ _ _ h => h) hHeld (Or.inl ⟨by rfl, ?_⟩) ?_
      rotate_left
      · (intro w hSw; (try dsimp only at hSw); go_simp; try with_reducible rfl)
      simp only [Act.put, List.setIfInBounds_toArray, List.set_cons_zero, List.set_cons_succ]
      refine till_take 6 (v := ?_) rfl (by kernel_rfl) (by kernel_rfl) (by kernel_rfl) (by kernel_rfl) (fun _ _ _ h => h) hHeld (Or.inl ⟨by rfl, ?_⟩) ?_
      rotate_left
      · (intro w hSw; (try dsimp only at hSw); go_simp; try with_reducible rfl)
      simp only [Act.put, List.setIfInBounds_toArray, List.set_cons_zero, List.set_cons_succ]
      refine till_take 7 (v := ?_) rfl (by kernel_rfl) (by kernel_rfl) (by kernel_rfl) (by kernel_rfl) (fun _ _ _ h => h) hHeld (Or.inl ⟨by rfl, ?_⟩) ?_
      rotate_left
      · (intro w hSw; (try dsimp only at hSw); go_simp; try with_reducible rfl)
      simp only [Act.put, List.setIfInBounds_toArray, List.set_cons_zero, List.set_cons_succ]
      refine till_take 8 (v := ?_) rfl (by kernel_rfl) (by kernel_rfl) (by kernel_rfl) (by kernel_rfl) (fun _ _ _ h => h) hHeld (Or.inl ⟨by rfl, ?_⟩) ?_
      rotate_left
      · (intro w hSw; (try dsimp only at hSw); go_simp; try with_reducible rfl)
      simp only [Act.put, List.setIfInBounds_toArray, List.set_cons_zero, List.set_cons_succ]
      refine till_take 9 (v := ?_) rfl (by kernel_rfl) (by kernel_rfl) (by kernel_rfl) (by kernel_rfl) (fun _ _ _ h => h) hHeld (Or.inl ⟨by rfl, ?_⟩) ?_
      rotate_left
      · (intro w hSw; (try dsimp only at hSw); go_simp; try with_reducible rfl)
      simp only [Act.put, List.setIfInBounds_toArray, List.set_cons_zero, List.set_cons_succ]
      refine till_take 10 (v := ?_) rfl (by kernel_rfl) (by kernel_rfl) (by kernel_rfl) (by kernel_rfl) (fun _ _ _ h => h) hHeld (Or.inl ⟨by rfl, ?_⟩) ?_
      rotate_left
      · (intro w hSw; (try dsimp only at hSw); go_simp; try with_reducible rfl)
      simp only [Act.put, List.setIfInBounds_toArray, List.set_cons_zero, List.set_cons_succ]
      refine till_ready 11 rfl (by kernel_rfl) (fun K hK => ?_)
      go_simp
      refine hK.out _ _ (HY.out _ (alB (chainB hS.out.bel BR.out) _)) (fun hHeld => ?_)
      clear hK K
      try simp only [Act.put, List.setIfInBounds_toArray, List.set_cons_zero, List.set_cons_succ]
      refine till_last rfl (by kernel_rfl) (by kernel_rfl) (fun K hK => ?_)
      go_simp
      refine hK.out _ _ ?_
      clear hK K
      go_upto_region 8 with fail
      rw [← HZ1.out]
      clear HZ1 t0 t1 t2 t3 t4 t5 t6 hHeld
      have be1 : Below y1.heap.size y1 z1 := chainB hS.out.bel BF.out
      obtain ⟨t0, t1, t2, t3, t4, t5, t6⟩ := HX.out z1 be1
      by_cases hix : (j : Int) = ix
      · have HF := HFt.out hix
        have HF : Hid _ := HF
        have e1 : ((j : Int) == ix) = true := by simpa using hix
        clear HFt HFf hix
        have BR2 : Hid (Below z1.heap.size z1 z1.drew) := (Below.refl _ _).drew
        obtain ⟨z2, hz2⟩ : ∃ z2, z2 = (((((z1.setCell ⟨wr.heap.size, 0, none⟩ (.string fn)).setCell ⟨wr.heap.size, 1, none⟩ (.string fc)).setCell ⟨wr.heap.size, 2, none⟩ (.string s)).setCell ⟨wr.heap.size, 3, none⟩ (.string vv)).setCell ⟨wr.heap.size, 4, none⟩ (.bool false)).drew := ⟨_, rfl⟩
        have HZ2 : Hid (z2 = (((((z1.setCell ⟨wr.heap.size, 0, none⟩ (.string fn)).setCell ⟨wr.heap.size, 1, none⟩ (.string fc)).setCell ⟨wr.heap.size, 2, none⟩ (.string s)).setCell ⟨wr.heap.size, 3, none⟩ (.string vv)).setCell ⟨wr.heap.size, 4, none⟩ (.bool false)).drew) := hz2
        have KF2 : Hid (Bxs z2 wr.heap.size 66 #[.string fn, .string fc, .string s, .string vv, .bool false]) := by rw [hz2]; exact (((((KF.out.set 0 _).set 1 _).set 2 _).set 3 _).set 4 _)
        have BF2 : Hid (Below wr.heap.size wr z2) := by rw [hz2]; exact (below_set5 BF.out (Nat.le_refl _) _ _ _ _ _).drew
        obtain ⟨x0, x1, x2, x3, x4⟩ := KF.out.five
        obtain ⟨f0, f1, f2, f3, f4⟩ : z1.frozen? ⟨wr.heap.size, 0, none⟩ = false ∧ z1.frozen? ⟨wr.heap.size, 1, none⟩ = false ∧ z1.frozen? ⟨wr.heap.size, 2, none⟩ = false ∧ z1.frozen? ⟨wr.heap.size, 3, none⟩ = false ∧ z1.frozen? ⟨wr.heap.size, 4, none⟩ = false := ⟨KF.out.fr 0, KF.out.fr 1, KF.out.fr 2, KF.out.fr 3, KF.out.fr 4⟩
        clear hz2
        go_upto_region 9 with fail
        refine region_till (fun w' => w'.cell? ⟨w.heap.size, 2, none⟩ = some (.slice (some ⟨b1, o1, none⟩) ns.length c1) ∧ w'.cell? ⟨w.heap.size, 3, none⟩ = some (.slice (some ⟨b2, o2, none⟩) cs.length c2) ∧ w'.cell? ⟨b1, o1 + j, none⟩ = some (.string fn) ∧ w'.cell? ⟨b2, o2 + j, none⟩ = some (.string fc) ∧ w'.cell? ⟨w.heap.size, 5, none⟩ = some (.string s) ∧ w'.cell? ⟨w.heap.size, 6, none⟩ = some (.string vv)) 15 (by kernel_rfl) (⟨HY.out _ (chainB be1 BR2.out) |>.1, HY.out _ (chainB be1 BR2.out) |>.2.1, HY.out _ (chainB be1 BR2.out) |>.2.2.1, HY.out _ (chainB be1 BR2.out) |>.2.2.2, (HX.out _ (chainB be1 BR2.out)).2.2.2.2.2.1, (HX.out _ (chainB be1 BR2.out)).2.2.2.2.2.2⟩) (fun hHeld => ?_)
        refine till_take 0 (v := ?_) rfl (by kernel_rfl) (by kernel_rfl) (by kernel_rfl) (by kernel_rfl) (fun _ _ _ h => h) hHeld (Or.inl ⟨by rfl, ?_⟩) ?_
        rotate_left
        · (intro w hSw; (try dsimp only at hSw); go_simp; try with_reducible rfl)
        simp only [Act.put, List.setIfInBounds_toArray, List.set_cons_zero, List.set_cons_succ]
        refine till_take 1 (v := ?_) rfl (by kernel_rfl) (by kernel_rfl) (by kernel_rfl) (by kernel_rfl) (fun _ _ _ h => h) hHeld (Or.inl ⟨by rfl, ?_⟩) ?_
        rotate_left
        · (intro w hSw; (try dsimp only at hSw); go_simp; try with_reducible rfl)
        simp only [Act.put, List.setIfInBounds_toArray, List.set_cons_zero, List.set_cons_succ]
        refine till_take 2 (v := ?_) rfl (by kernel_rfl) (by kernel_rfl) (by kernel_rfl) (by kernel_rfl) (fun _ _ _ h => h) hHeld (Or.inl ⟨by rfl, ?_⟩) ?_
        rotate_left
        · (intro w hSw; (try dsimp only at hSw); go_simp; try with_reducible rfl)
        simp only [Act.put, List.setIfInBounds_toArray, List.set_cons_zero, List.set_cons_succ]
        refine till_take 3 (v := ?_) rfl (by kernel_rfl) (by kernel_rfl) (by kernel_rfl) (by kernel_rfl) (fun _ _ _ h => h) hHeld (Or.inl ⟨by rfl, ?_⟩) ?_
        rotate_left
        · (intro w hSw; (try dsimp only at hSw); go_simp; try with_reducible rfl)
        simp only [Act.put, List.setIfInBounds_toArray, List.set_cons_zero, List.set_cons_succ]
        refine till_take 4 (v := ?_) rfl (by kernel_rfl) (by kernel_rfl) (by kernel_rfl) (by kernel_rfl) (fun _ _ _ h => h) hHeld (Or.inl ⟨by rfl, ?_⟩) ?_
        rotate_left
        · (intro w hSw; (try dsimp only at hSw); go_simp; try with_reducible rfl)
        simp only [Act.put, List.setIfInBounds_toArray, List.set_cons_zero, List.set_cons_succ]
        refine till_take 5 (v := ?_) rfl (by kernel_rfl) (by kernel_rfl) (by kernel_rfl) (by kernel_rfl) (fun _ _ _ h => h) hHeld (Or.inl ⟨by rfl, ?_⟩) ?_
        rotate_left
        · (intro w hSw; (try dsimp only at hSw); go_simp; try with_reducible rfl)
        simp only [Act.put, List.setIfInBounds_toArray, List.set_cons_zero, List.set_cons_succ]
        refine till_take 6 (v := ?_) rfl (by kernel_rfl) (by kernel_rfl) (by kernel_rfl) (by kernel_rfl) (fun _ _ _ h => h) hHeld (Or.inl ⟨by rfl, ?_⟩) ?_
        rotate_left
        · (intro w hSw; (try dsimp only at hSw); go_simp; try with_reducible rfl)
        simp only [Act.put, List.setIfInBounds_toArray, List.set_cons_zero, List.set_cons_succ]
        refine till_take 7 (v := ?_) rfl (by kernel_rfl) (by kernel_rfl) (by kernel_rfl) (by kernel_rfl) (fun _ _ _ h => h) hHeld (Or.inl ⟨by rfl, ?_⟩) ?_
        rotate_left
        · (intro w hSw; (try dsimp only at hSw); go_simp; try with_reducible rfl)
        simp only [Act.put, List.setIfInBounds_toArray, List.set_cons_zero, List.set_cons_succ]
        refine till_take 8 (v := ?_) rfl (by kernel_rfl) (by kernel_rfl) (by kernel_rfl) (by kernel_rfl) (fun _ _ _ h => h) hHeld (Or.inl ⟨by rfl, ?_⟩) ?_
        rotate_left
        · (intro w hSw; (try dsimp only at hSw); go_simp; try with_reducible rfl)
        simp only [Act.put, List.setIfInBounds_toArray, List.set_cons_zero, List.set_cons_succ]
        refine till_take 9 (v := ?_) rfl (by kernel_rfl) (by kernel_rfl) (by kernel_rfl) (by kernel_rfl) (fun _ _ _ h => h) hHeld (Or.inl ⟨by rfl, ?_⟩) ?_
        rotate_left
        · (intro w hSw; (try dsimp only at hSw); go_simp; try with_reducible rfl)
        simp only [Act.put, List.setIfInBounds_toArray, List.set_cons_zero, List.set_cons_succ]
        refine till_take 10 (v := ?_) rfl (by kernel_rfl) (by kernel_rfl) (by kernel_rfl) (by kernel_rfl) (fun _ _ _ h => h) hHeld (Or.inl ⟨by rfl, ?_⟩) ?_
        rotate_left
        · (intro w hSw; (try dsimp only at hSw); go_simp; try with_reducible rfl)
        simp only [Act.put, List.setIfInBounds_toArray, List.set_cons_zero, List.set_cons_succ]
        refine till_take 11 (v := ?_) rfl (by kernel_rfl) (by kernel_rfl) (by kernel_rfl) (by kernel_rfl) (fun _ _ _ h => h) hHeld (Or.inl ⟨by rfl, ?_⟩) ?_
        rotate_left
        · (intro w hSw; (try dsimp only at hSw); go_simp; try with_reducible rfl)
        simp only [Act.put, List.setIfInBounds_toArray, List.set_cons_zero, List.set_cons_succ]
        refine till_take 12 (v := ?_) rfl (by kernel_rfl) (by kernel_rfl) (by kernel_rfl) (by kernel_rfl) (fun _ _ _ h => h) hHeld (Or.inl ⟨by rfl, ?_⟩) ?_
        rotate_left
        · (intro w hSw; (try dsimp only at hSw); go_simp; try with_reducible rfl)
        simp only [Act.put, List.setIfInBounds_toArray, List.set_cons_zero, List.set_cons_succ]
        refine till_take 13 (v := ?_) rfl (by kernel_rfl) (by kernel_rfl) (by kernel_rfl) (by kernel_rfl) (fun _ _ _ h => h) hHeld (Or.inl ⟨by rfl, ?_⟩) ?_
        rotate_left
        · (intro w hSw; (try dsimp only at hSw); go_simp; try with_reducible rfl)
        simp only [Act.put, List.setIfInBounds_toArray, List.set_cons_zero, List.set_cons_succ]
        refine till_take 14 (v := ?_) rfl (by kernel_rfl) (by kernel_rfl) (by kernel_rfl) (by kernel_rfl) (fun _ _ _ h => h) hHeld (Or.inl ⟨by rfl, ?_⟩) ?_
        rotate_left
        · (intro w hSw; (try dsimp only at hSw); go_simp; try with_reducible rfl)
        simp only [Act.put, List.setIfInBounds_toArray, List.set_cons_zero, List.set_cons_succ]
        refine till_last rfl (by kernel_rfl) (by kernel_rfl) (fun K hK => ?_)
        go_simp
        refine hK.out _ _ ?_
        clear hK K
        go_upto_region 10 with fail
        rw [← HZ2.out]
        clear HZ2 x0 x1 x2 x3 x4 f0 f1 f2 f3 f4 t0 t1 t2 t3 t4 t5 t6 hHeld
        obtain ⟨x0, x1, x2, x3, x4⟩ := KF2.out.five
        have be2 : Below y1.heap.size y1 z2 := chainB hS.out.bel BF2.out
        obtain ⟨t0, t1, t2, t3, t4, t5, t6⟩ := HX.out z2 be2
        have hS3 : Hid (One7 y1 Z 64 #[.string k, .int .i64 at_, v] v (svF ⟨k, at_, ns, cs, ix, s, vv⟩ j) z2) := hS.out.below BF2.out
        have zc : z2.cell? ⟨Z, 2, none⟩ = some v := hS3.out.box.cell 2
        have zca : (z2.alloc (.cells #[.string fn, .string fc, .string s, .string vv, .bool false] 66)).cell? ⟨Z, 2, none⟩ = some v := (hS3.out.box.alloc _).cell 2
        obtain ⟨g, cp, y, hrun, T8, c7, f7, B7⟩ := hS3.out.app 2 fn fc s vv false rfl HLn.out
        have HA : Hid (One7 y1 Z 64 #[.string k, .int .i64 at_, .slice (some ⟨g, 0, none⟩) ((svF ⟨k, at_, ns, cs, ix, s, vv⟩ j).length + 1) cp] (.slice (some ⟨g, 0, none⟩) ((svF ⟨k, at_, ns, cs, ix, s, vv⟩ j).length + 1) cp) (svF ⟨k, at_, ns, cs, ix, s, vv⟩ (j + 1)) (y.setCell ⟨Z, 2, none⟩ (.slice (some ⟨g, 0, none⟩) ((svF ⟨k, at_, ns, cs, ix, s, vv⟩ j).length + 1) cp))) := by
          show One7 _ _ _ _ _ _ _
          rw [svF_succ, HF.out]; exact T8
        clear T8 hS hS3 HF B7
        go_wp2_with (at_builtin; refine wpList_append_run rfl _ _ _ rfl _ _ _ _ rfl rfl hrun ?_)
        go_roundw
        case rel => exact ⟨j + 1, _, by omega, by go_num, HA⟩
        case measure => simp [intOf]; omega
      · have HF := HFf.out hix
        have HF : Hid _ := HF
        have e1 : ((j : Int) == ix) = false := by simpa using hix
        clear HFt HFf hix t0 t1 t2 t3 t5 t6
        obtain ⟨x0, x1, x2, x3, x4⟩ := KF.out.five
        go_upto_region 10 with fail
        clear t4
        obtain ⟨t0, t1, t2, t3, t4, t5, t6⟩ := HX.out z1 be1
        have hS3 : Hid (One7 y1 Z 64 #[.string k, .int .i64 at_, v] v (svF ⟨k, at_, ns, cs, ix, s, vv⟩ j) z1) := hS.out.below BF.out
        have zc : z1.cell? ⟨Z, 2, none⟩ = some v := hS3.out.box.cell 2
        have zca : (z1.alloc (.cells #[.string fn, .string fc, .string ByteArray.empty, .string ByteArray.empty, .bool true] 66)).cell? ⟨Z, 2, none⟩ = some v := (hS3.out.box.alloc _).cell 2
        obtain ⟨g, cp, y, hrun, T8, c7, f7, B7⟩ := hS3.out.app 2 fn fc ByteArray.empty ByteArray.empty true rfl HLn.out
        have HA : Hid (One7 y1 Z 64 #[.string k, .int .i64 at_, .slice (some ⟨g, 0, none⟩) ((svF ⟨k, at_, ns, cs, ix, s, vv⟩ j).length + 1) cp] (.slice (some ⟨g, 0, none⟩) ((svF ⟨k, at_, ns, cs, ix, s, vv⟩ j).length + 1) cp) (svF ⟨k, at_, ns, cs, ix, s, vv⟩ (j + 1)) (y.setCell ⟨Z, 2, none⟩ (.slice (some ⟨g, 0, none⟩) ((svF ⟨k, at_, ns, cs, ix, s, vv⟩ j).length + 1) cp))) := by
          show One7 _ _ _ _ _ _ _
          rw [svF_succ, HF.out]; exact T8
        clear T8 hS hS3 HF B7
        go_wp2_with (at_builtin; refine wpList_append_run rfl _ _ _ rfl _ _ _ _ rfl rfl hrun ?_)
        go_roundw
        case rel => exact ⟨j + 1, _, by omega, by go_num, HA⟩
        case measure => simp [intOf]; omega
    · obtain rfl : j = ns.length := by omega
      obtain ⟨q, cc, rfl, hcc, hff⟩ := ownF_form hS.out.own
      have hRL := specRowLeaf_any k at_ q cc (svF ⟨k, at_, ns, cs, ix, s, vv⟩ ns.length) wr hff (by rw [svF_len]; omega) hcc HKL.out (HLE.out _)
      obtain ⟨x0, x1, x2⟩ : wr.cell? ⟨Z, 0, none⟩ = some (.string k) ∧ wr.cell? ⟨Z, 1, none⟩ = some (.int .i64 at_) ∧ wr.cell? ⟨Z, 2, none⟩ = some (.slice q (svF ⟨k, at_, ns, cs, ix, s, vv⟩ ns.length).length cc) := ⟨hS.out.box.cell 0, hS.out.box.cell 1, hS.out.box.cell 2⟩
      have bz := chainB B1.out hS.out.bel
      clear hff hcc hS
      go_wp2_with fail
      refine hRL.mono ?_
      rintro e y2 ⟨rfl, be⟩
      have be := chainB bz be
      go_wp2_with fail
      go_ret
      exact ⟨rfl, be⟩
end Go.Proofs.YthkmeneepkaedaaGreatDoor
