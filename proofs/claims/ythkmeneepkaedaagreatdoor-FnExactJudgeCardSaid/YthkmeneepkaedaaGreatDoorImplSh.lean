/-
  What the program's rowShown, ShownLeaf and ShownBytes answer.
  Conditions: the cells of Names and Commits hold the texts; the two tables of the digest lie as laid.
-/
import Derived.Test.YthkmeneepkaedaaGreatDoorRows
import Derived.Test.YthkmeneepkaedaaGreatDoorBytesDigMath
import Derived.Test.YthkmeneepkaedaaGreatDoorTreeMathSlASlBBxKOwnS
import Derived.Test.YthkmeneepkaedaaGreatDoorPathIFldIsLgRtTimeIGrKSpecGNSpecGT
import Derived.Test.YthkmeneepkaedaaGreatDoorFldGShwKFldHTakesAudMathLawAuOpAuFldRiseScanMath
import Derived.Test.YthkmeneepkaedaaGreatDoorTakesLTillTwoPathMathTree2Path2HalvesTreePutter
import Derived.Test.YthkmeneepkaedaaGreatDoorTimeBPutMathPutNumJoinedPutTextFldMath
import Derived.Test.YthkmeneepkaedaaGreatDoorLawSXOneKFldBlkLawFLawFM
import Derived.Test.YthkmeneepkaedaaGreatDoorFldV
import Derived.Test.YthkmeneepkaedaaGreatDoorFldB
import Derived.Test.YthkmeneepkaedaaGreatDoorFldTrDigAllImplFCBlNot
import Derived.Test.YthkmeneepkaedaaGreatDoorImplFR
import Derived.Test.YthkmeneepkaedaaGreatDoorAppSStepAppImplFTImplOnImplFk
import Derived.Handy
import Derived.WalkSpells
import Derived.OwnWalk
import Derived.Deep.RegionHeld3
import Derived.Deep.Cut
import Derived.Deep.CutRange
namespace Go.Proofs.YthkmeneepkaedaaGreatDoor
open Go.RowKit Go.Lib
set_option linter.unusedVariables false
set_option maxRecDepth 20000

/-! ### The row of which something is shown -/
def rsOk (o : Shw) : Prop := o.cs.length = o.ns.length ∧ 0 ≤ o.ix ∧ o.ix < (o.ns.length : Int)
instance (o : Shw) : Decidable (rsOk o) := by unfold rsOk; exact inferInstance
def rsK (o : Shw) : ByteArray := if rsOk o then o.k else ByteArray.empty
def rsA (o : Shw) : Int := if rsOk o then o.at_ else 0
def rsF (o : Shw) : List Fld := if rsOk o then svF o o.ns.length else []
theorem nrB_empty : nrB ByteArray.empty = false := nrB_short (Or.inl (by decide))
theorem svB_rs (o : Shw) : svB o = lfB (rsK o) (rsA o) (rsF o) := by
  unfold svB svOk rsK rsA rsF
  by_cases h : rsOk o
  · rw [if_pos h, if_pos h, if_pos h]
    unfold rsOk at h
    by_cases h3 : o.ns.length ≤ 3
    · rw [if_pos (by simp only [Bool.and_eq_true, decide_eq_true_iff]; exact ⟨h.1, h3, h.2.1, by omega⟩)]
    · rw [if_neg (by simp only [Bool.and_eq_true, decide_eq_true_iff]; exact fun hh => h3 hh.2.1)]
      unfold lfB
      rw [if_neg]
      intro hr
      have := (rwB_parts hr).2.2.1
      rw [svF_len] at this
      omega
  · rw [if_neg h, if_neg h, if_neg h]
    rw [if_neg (by simp only [Bool.and_eq_true, decide_eq_true_iff]; exact fun hh => h ⟨hh.1, hh.2.2.1, by have := hh.2.2.2; omega⟩)]
    unfold lfB
    rw [if_neg]
    intro hr
    have := (rwB_parts hr).1
    rw [nrB_empty] at this; cases this
theorem sbOk_rs {o : Shw} (h : sbOk o = true) : rsK o = o.k ∧ rsA o = o.at_ ∧ rsF o = svF o o.ns.length ∧ rwB (rsK o) (rsA o) (rsF o) = true := by
  obtain ⟨h1, h2, h3, h4, -⟩ := sbOk_parts h
  have hr : rsOk o := ⟨h1, h3.1, by omega⟩
  have e1 : rsK o = o.k := if_pos hr
  have e2 : rsA o = o.at_ := if_pos hr
  have e3 : rsF o = svF o o.ns.length := if_pos hr
  rw [e1, e2, e3]
  exact ⟨rfl, rfl, rfl, h4⟩
theorem rsF_le {o : Shw} (h : ShwLe o) : FldsLe (rsF o) := by
  unfold rsF; split
  · exact svF_le h _
  · intro f hf; cases hf
theorem rsK_le {o : Shw} (h : ShwLe o) : (rsK o).size ≤ maxLen := by
  unfold rsK; split
  · exact h.1
  · exact Nat.zero_le _
theorem rsF_len {o : Shw} (n1 : o.ns.length ≤ 1048576) : (rsF o).length ≤ 1048576 := by
  unfold rsF; split
  · rw [svF_len]; exact n1
  · exact Nat.zero_le _
/-! ### The fields in the making: the first ones Gone, the others nothing yet -/
def glAt (o : Shw) (i : Nat) : Fld := ⟨o.ns.getD i ByteArray.empty, o.cs.getD i ByteArray.empty, ByteArray.empty, ByteArray.empty, true⟩
def glF (o : Shw) (j : Nat) : List Fld := (List.range o.ns.length).map (fun i => if i < j then glAt o i else fldE5)
theorem glF_len (o : Shw) (j : Nat) : (glF o j).length = o.ns.length := by simp [glF]
theorem glF_zero (o : Shw) : glF o 0 = List.replicate o.ns.length fldE5 := by
  unfold glF
  apply List.ext_getElem
  · simp
  · intro i h1 h2; simp
theorem glF_get (o : Shw) (j i : Nat) (h : i < (glF o j).length) : (glF o j)[i] = if i < j then glAt o i else fldE5 := by simp [glF]
theorem glF_succ (o : Shw) (j : Nat) (h : j < o.ns.length) : (glF o j).set j (glAt o j) = glF o (j + 1) := by
  apply List.ext_getElem
  · simp [glF]
  · intro i h1 h2
    rw [List.getElem_set, glF_get o (j + 1)]
    by_cases hij : j = i
    · subst hij; simp
    · rw [if_neg hij, glF_get]
      by_cases hi : i < j
      · rw [if_pos hi, if_pos (by omega)]
      · rw [if_neg hi, if_neg (by omega)]
theorem glF_at (o : Shw) (i : Nat) (h : i < (glF o o.ns.length).length) : (glF o o.ns.length)[i] = glAt o i := by
  have : i < o.ns.length := by rw [glF_len] at h; exact h
  simp [glF, this]
theorem glF_old (o : Shw) (j : Nat) (h : j < (glF o j).length) : (glF o j)[j] = fldE5 := by simp [glF]
theorem glF_end (o : Shw) (I : Nat) (h : (I : Int) = o.ix) (hI : I < (glF o o.ns.length).length) : (glF o o.ns.length).set I ⟨(glF o o.ns.length)[I].n, (glF o o.ns.length)[I].c, o.s, o.v, false⟩ = svF o o.ns.length := by
  apply List.ext_getElem
  · simp [glF, svF]
  · intro i h1 h2
    rw [List.getElem_set]
    have hi : i < o.ns.length := by simpa [svF] using h2
    have e : (svF o o.ns.length)[i] = svAt o i := by simp [svF]
    rw [e]
    by_cases hij : I = i
    · subst hij
      rw [if_pos rfl, glF_at]
      unfold svAt
      rw [if_pos h]; rfl
    · rw [if_neg hij, glF_at]
      unfold svAt
      rw [if_neg (fun he => hij (by omega))]; rfl
def RsP (w : World) (o : Shw) (e : Ending) (w' : World) : Prop := ∃ P v q c, e = .returned (.pointer (some ⟨P, 0, none⟩)) ∧ w.heap.size ≤ P ∧ v = .slice q (rsF o).length c ∧ (rsF o).length ≤ c ∧ RawB w' P (rsK o) (rsA o) v 0 0 ByteArray.empty ∧ FldAt w' q (rsF o) ∧ Below w.heap.size w w'
set_option maxHeartbeats 8000000 in
theorem rowShown_any (o : Shw) (q1 : Option Addr) (c1 : Nat) (q2 : Option Addr) (c2 : Nat) (w : World) (t1 : TxtAt w q1 o.ns) (t2 : TxtAt w q2 o.cs) (n1 : o.ns.length ≤ 1048576) (n2 : o.cs.length ≤ 1048576) (m1 : o.ns.length ≤ c1) (m2 : o.cs.length ≤ c2) :
    Calls Tryz.prog 147 #[.agg #[.string o.k, .int .i64 o.at_, .slice q1 o.ns.length c1, .slice q2 o.cs.length c2, .int .i64 o.ix, .string o.s, .string o.v]] w fun e w' => RsP w o e w' := by
  obtain ⟨k, at_, ns, cs, ix, s, vv⟩ := o
  have t1 : TxtAt w q1 ns := t1
  have t2 : TxtAt w q2 cs := t2
  have n1 : ns.length ≤ 1048576 := n1
  have n2 : cs.length ≤ 1048576 := n2
  have m1 : ns.length ≤ c1 := m1
  have m2 : cs.length ≤ c2 := m2
  show Calls Tryz.prog 147 #[.agg #[.string k, .int .i64 at_, .slice q1 ns.length c1, .slice q2 cs.length c2, .int .i64 ix, .string s, .string vv]] w _
  obtain ⟨W1, hW1⟩ : ∃ W1, W1 = w.alloc (.cells #[.string k, .int .i64 at_, .slice q1 ns.length c1, .slice q2 cs.length c2, .int .i64 ix, .string s, .string vv] 37) := ⟨_, rfl⟩
  have HW1 : Hid (W1 = w.alloc (.cells #[.string k, .int .i64 at_, .slice q1 ns.length c1, .slice q2 cs.length c2, .int .i64 ix, .string s, .string vv] 37)) := hW1
  have B1 : Hid (Below w.heap.size w W1) := by rw [hW1]; exact (Below.refl _ _).alloc (Nat.le_refl _) _
  have HS1 : Hid (W1.heap.size = w.heap.size + 1) := by rw [hW1]; exact szA _ _
  have K1 : Hid (Bxs W1 w.heap.size 37 #[.string k, .int .i64 at_, .slice q1 ns.length c1, .slice q2 cs.length c2, .int .i64 ix, .string s, .string vv]) := by rw [hW1]; exact Bxs.new _ _ _
  have HT1 : Hid (TxtAt W1 q1 ns) := t1.below B1.out
  have HT2 : Hid (TxtAt W1 q2 cs) := t2.below B1.out
  have HX : Hid (∀ x, Below W1.heap.size W1 x → x.cell? ⟨w.heap.size, 0, none⟩ = some (.string k) ∧ x.cell? ⟨w.heap.size, 1, none⟩ = some (.int .i64 at_) ∧ x.cell? ⟨w.heap.size, 2, none⟩ = some (.slice q1 ns.length c1) ∧ x.cell? ⟨w.heap.size, 3, none⟩ = some (.slice q2 cs.length c2) ∧ x.cell? ⟨w.heap.size, 4, none⟩ = some (.int .i64 ix) ∧ x.cell? ⟨w.heap.size, 5, none⟩ = some (.string s) ∧ x.cell? ⟨w.heap.size, 6, none⟩ = some (.string vv)) := fun x hb => ⟨(K1.out.below hb).cell 0, (K1.out.below hb).cell 1, (K1.out.below hb).cell 2, (K1.out.below hb).cell 3, (K1.out.below hb).cell 4, (K1.out.below hb).cell 5, (K1.out.below hb).cell 6⟩
  have HNo : Hid (¬ rsOk (⟨k, at_, ns, cs, ix, s, vv⟩ : Shw) → RsP w (⟨k, at_, ns, cs, ix, s, vv⟩ : Shw) (.returned (.pointer (some ⟨W1.heap.size, 0, none⟩))) (W1.alloc (.cells #[.string ⟨#[]⟩, .int .i64 0, .slice none 0 0, .int .u32 0, .int .i32 0, .int .u32 0, .string ⟨#[]⟩] 209))) := by
    intro h
    have e1 : rsK (⟨k, at_, ns, cs, ix, s, vv⟩ : Shw) = ByteArray.empty := if_neg h
    have e2 : rsA (⟨k, at_, ns, cs, ix, s, vv⟩ : Shw) = 0 := if_neg h
    have e3 : rsF (⟨k, at_, ns, cs, ix, s, vv⟩ : Shw) = [] := if_neg h
    unfold RsP
    rw [e1, e2, e3]
    exact ⟨_, .slice none 0 0, none, 0, rfl, B1.out.size, rfl, Nat.le_refl _, Bxs.new _ _ _, FldAt.nil _ _, alB B1.out _⟩
  obtain ⟨u0, u1, u2, u3, u4, u5, u6⟩ := HX.out W1 (Below.refl _ _)
  have HU : Hid (W1.heap.size = w.heap.size + 1) := HS1.out
  clear hW1 t1 t2
  by_cases h1 : cs.length = ns.length
  case neg =>
    have HE := HNo.out (fun h => h1 h.1)
    have d1 : ((cs.length : Int) == (ns.length : Int)) = false := beq_eq_false_iff_ne.2 (by omega)
    have d2 : ((cs.length : Int) != (ns.length : Int)) = true := bne_iff_ne.2 (by omega)
    have d3 : ¬ (cs.length : Int) = (ns.length : Int) := by omega
    rw [HW1.out] at u2 u3 u4
    clear HNo h1
    go_enter Tryz.func147, Tryz.ntmps147
    go_upto_region 3 with fail
    rw [← HW1.out]
    go_wp2_with fail
    go_ret
    exact HE
  case pos =>
  have d1 : ((cs.length : Int) == (ns.length : Int)) = true := beq_iff_eq.2 (by omega)
  have d2 : ((cs.length : Int) != (ns.length : Int)) = false := by unfold bne; rw [d1]; rfl
  have H1 : Hid (cs.length = ns.length) := h1
  by_cases h2 : ix < 0
  case pos =>
    have HE := HNo.out (fun h => by have := h.2.1; have h3 : (0 : Int) ≤ ix := this; omega)
    have d4 : decide (ix < 0) = true := decide_eq_true h2
    rw [HW1.out] at u2 u3 u4
    clear HNo h1 h2
    go_enter Tryz.func147, Tryz.ntmps147
    go_upto_region 3 with fail
    rw [← HW1.out]
    go_wp2_with fail
    go_ret
    exact HE
  case neg =>
  have d4 : decide (ix < 0) = false := decide_eq_false h2
  obtain ⟨I, rfl⟩ := Int.eq_ofNat_of_zero_le (show 0 ≤ ix by omega)
  by_cases h3 : ns.length ≤ I
  case pos =>
    have HE := HNo.out (fun h => by have := h.2.2; have h3 : (I : Int) < (ns.length : Int) := this; omega)
    have d5 : decide ((ns.length : Int) ≤ (I : Int)) = true := decide_eq_true (by omega)
    have d6 : decide (ns.length ≤ I) = true := decide_eq_true h3
    rw [HW1.out] at u2 u3 u4
    clear HNo h1 h2 h3
    go_enter Tryz.func147, Tryz.ntmps147
    go_upto_region 3 with fail
    rw [← HW1.out]
    go_wp2_with fail
    go_ret
    exact HE
  case neg =>
  have d5 : decide ((ns.length : Int) ≤ (I : Int)) = false := decide_eq_false (by omega)
  have d6 : decide (ns.length ≤ I) = false := decide_eq_false h3
  have hIl : I < ns.length := by omega
  have i1 : (I : Int) < ns.length := by omega
  have hok : rsOk (⟨k, at_, ns, cs, I, s, vv⟩ : Shw) := ⟨h1, by show (0 : Int) ≤ (I : Int); omega, by show (I : Int) < _; omega⟩
  have HEn : Hid (∀ (x : World) (G : Nat), Below W1.heap.size W1 x → BlkF x G (svF ⟨k, at_, ns, cs, I, s, vv⟩ ns.length) → RsP w ⟨k, at_, ns, cs, I, s, vv⟩ (.returned (.pointer (some ⟨x.heap.size, 0, none⟩))) (x.alloc (.cells #[.string k, .int .i64 at_, .slice (some ⟨G, 0, none⟩) ns.length ns.length, .int .u32 0, .int .i32 0, .int .u32 0, .string ⟨#[]⟩] 209))) := by
    intro x G hx hb
    have e1 : rsK (⟨k, at_, ns, cs, I, s, vv⟩ : Shw) = k := if_pos hok
    have e2 : rsA (⟨k, at_, ns, cs, I, s, vv⟩ : Shw) = at_ := if_pos hok
    have e3 : rsF (⟨k, at_, ns, cs, I, s, vv⟩ : Shw) = svF ⟨k, at_, ns, cs, I, s, vv⟩ ns.length := if_pos hok
    unfold RsP
    rw [e1, e2, e3, svF_len]
    exact ⟨_, .slice (some ⟨G, 0, none⟩) ns.length ns.length, _, _, rfl, Nat.le_trans B1.out.size hx.size, rfl, Nat.le_refl _, Bxs.new _ _ _, hb.at.below ((Below.refl _ _).alloc (Nat.le_refl _) _), alB (chainB B1.out hx) _⟩
  obtain ⟨b1, o1, rfl, hb1⟩ := HT1.out.some_of7 (by omega)
  obtain ⟨b2, o2, rfl, hb2⟩ := HT2.out.some_of7 (by omega)
  have hmk := run_make_fld ns.length n1
  obtain ⟨W2, hW2⟩ : ∃ W2, W2 = W1.alloc (.cells (fldRow (List.replicate ns.length fldE5)).toArray 66) := ⟨_, rfl⟩
  have HW2 : Hid (W2 = W1.alloc (.cells (fldRow (List.replicate ns.length fldE5)).toArray 66)) := hW2
  have KG : Hid (BlkF W2 W1.heap.size (glF ⟨k, at_, ns, cs, I, s, vv⟩ 0)) := by rw [hW2, glF_zero]; exact alloc_fld _ _
  have B2 : Hid (Below W1.heap.size W1 W2) := by rw [hW2]; exact (Below.refl _ _).alloc (Nat.le_refl _) _
  clear hW2 HNo h1 h2 h3 hok
  rw [HW1.out] at u2 u3 u4
  go_enter Tryz.func147, Tryz.ntmps147
  go_upto_region 4 with fail
  rw [← HW1.out]
  have hm1 := hmk W1
  go_upto_region 5 with fail
  rw [← HW2.out]
  clear hm1 hmk
  obtain ⟨G, hG⟩ : ∃ G, G = W1.heap.size := ⟨_, rfl⟩
  rw [← hG] at KG ⊢
  have HG : Hid (G = W1.heap.size) := hG
  clear hG u0 u1 u2 u3 u4 u5 u6
  go_wp2_with fail
  go_loopw [32] (fun i wr => ∃ j : Nat, j ≤ ns.length ∧ i = .int .i64 j ∧ Hid (Below W1.heap.size W1 wr) ∧ Hid (BlkF wr G (glF ⟨k, at_, ns, cs, I, s, vv⟩ j))) (fun i _ => ns.length - (intOf i).toNat)
  case atStart => exact ⟨0, Nat.zero_le _, rfl, B2, KG⟩
  case round =>
    clear KG B2
    obtain ⟨j, hj, rfl, HB, HK⟩ := hrel
    by_cases hlt : j < ns.length
    · have j1 : (j : Int) < ns.length := by omega
      have j2 : (j : Int) < cs.length := by have := H1.out; omega
      have hlc : j < cs.length := by have := H1.out; omega
      have HGA : Hid (glAt ⟨k, at_, ns, cs, I, s, vv⟩ j = ⟨ns[j], cs[j], ByteArray.empty, ByteArray.empty, true⟩) := by
        show (⟨ns.getD j _, cs.getD j _, _, _, _⟩ : Fld) = _
        rw [getD_at hlt, getD_at hlc]
      have HCL : Hid (∀ x, Below wr.heap.size wr x → (x.cell? ⟨G, j * 5, none⟩ = some (.string ByteArray.empty) ∧ x.cell? ⟨G, j * 5 + 1, none⟩ = some (.string ByteArray.empty) ∧ x.cell? ⟨G, j * 5 + 2, none⟩ = some (.string ByteArray.empty) ∧ x.cell? ⟨G, j * 5 + 3, none⟩ = some (.string ByteArray.empty) ∧ x.cell? ⟨G, j * 5 + 4, none⟩ = some (.bool false)) ∧ x.frozen? ⟨G, j * 5, none⟩ = false ∧ x.frozen? ⟨G, j * 5 + 1, none⟩ = false ∧ x.frozen? ⟨G, j * 5 + 2, none⟩ = false ∧ x.frozen? ⟨G, j * 5 + 3, none⟩ = false ∧ x.frozen? ⟨G, j * 5 + 4, none⟩ = false) := fun x hx => by
        have h := (HK.out.below hx).cells j (by rw [glF_len]; exact hlt)
        rw [glF_old] at h; exact h
      have HH : Hid (∀ x, Below wr.heap.size wr x → x.cell? ⟨w.heap.size, 2, none⟩ = some (.slice (some ⟨b1, o1, none⟩) ns.length c1) ∧ x.cell? ⟨w.heap.size, 3, none⟩ = some (.slice (some ⟨b2, o2, none⟩) cs.length c2) ∧ x.cell? ⟨b1, o1 + j, none⟩ = some (.string ns[j]) ∧ x.cell? ⟨b2, o2 + j, none⟩ = some (.string cs[j])) := fun x hx => ⟨(HX.out x (chainB HB.out hx)).2.2.1, (HX.out x (chainB HB.out hx)).2.2.2.1, (HT1.out.below (chainB HB.out hx)).at j hlt, (HT2.out.below (chainB HB.out hx)).at j hlc⟩
      have HSt : Hid (∀ y, set5 y G (j * 5) (glAt ⟨k, at_, ns, cs, I, s, vv⟩ j) = ((((y.setCell ⟨G, j * 5, none⟩ (.string ns[j])).setCell ⟨G, j * 5 + 1, none⟩ (.string cs[j])).setCell ⟨G, j * 5 + 2, none⟩ (.string ByteArray.empty)).setCell ⟨G, j * 5 + 3, none⟩ (.string ByteArray.empty)).setCell ⟨G, j * 5 + 4, none⟩ (.bool true)) := by intro y; rw [HGA.out]; rfl
      have HN : Hid (∀ y, Below wr.heap.size wr y → Below W1.heap.size W1 (set5 y G (j * 5) (glAt ⟨k, at_, ns, cs, I, s, vv⟩ j)) ∧ BlkF (set5 y G (j * 5) (glAt ⟨k, at_, ns, cs, I, s, vv⟩ j)) G (glF ⟨k, at_, ns, cs, I, s, vv⟩ (j + 1))) := fun y hy => ⟨set5_below (chainB HB.out hy) (by have := HG.out; omega) _ _, by have h := (HK.out.below hy).set5 j (glAt ⟨k, at_, ns, cs, I, s, vv⟩ j); rw [glF_succ _ _ hlt] at h; exact h⟩
      have BR : Hid (Below wr.heap.size wr wr.drew) := (Below.refl _ _).drew
      generalize ns[j] = fn at *
      generalize cs[j] = fc at *
      clear HGA
      go_upto_region 8 with fail
      refine region_till ((fun w' => w'.cell? ⟨w.heap.size, 2, none⟩ = some (.slice (some ⟨b1, o1, none⟩) ns.length c1) ∧ w'.cell? ⟨w.heap.size, 3, none⟩ = some (.slice (some ⟨b2, o2, none⟩) cs.length c2) ∧ w'.cell? ⟨b1, o1 + j, none⟩ = some (.string fn) ∧ w'.cell? ⟨b2, o2 + j, none⟩ = some (.string fc))) 14 (by kernel_rfl) (HH.out _ BR.out) (fun hHeld => ?_)
      refine till_take 0 (v := ?_) rfl (by kernel_rfl) (by kernel_rfl) (by kernel_rfl) (by kernel_rfl) (fun _ _ _ h => h) hHeld (Or.inl ⟨by rfl, ?_⟩) ?_
      rotate_left
      · (intro w hSw; (try dsimp only at hSw); go_simp; try with_reducible rfl)
      simp only [Act.put, List.setIfInBounds_toArray, List.set_cons_zero, List.set_cons_succ]
      refine till_take 1 (v := ?_) rfl (by kernel_rfl) (by kernel_rfl) (by kernel_rfl) (by kernel_rfl) (fun _ _ _ h => h) hHeld (Or.inl ⟨by rfl, ?_⟩) ?_
      rotate_left
      · (intro w hSw; (try dsimp only at hSw); go_simp; try with_reducible rfl)
      simp only [Act.put, List.setIfInBounds_toArray, List.set_cons_zero, List.set_cons_succ]
      refine till_take 2 (v := ?_) rfl (by kernel_rfl) (by kernel_rfl) (by kernel_rfl) (by kernel_rfl) (fun _ _ _ h => h) hHeld (Or.inl ⟨by rfl, ?_⟩) ?_
      rotate_left
      · (intro w hSw; (try dsimp only at hSw); go_simp; try with_reducible rfl)
      simp only [Act.put, List.setIfInBounds_toArray, List.set_cons_zero, List.set_cons_succ]
      refine till_take 3 (v := ?_) rfl (by kernel_rfl) (by kernel_rfl) (by kernel_rfl) (by kernel_rfl) (fun _ _ _ h => h) hHeld (Or.inl ⟨by rfl, ?_⟩) ?_
      rotate_left
      · (intro w hSw; (try dsimp only at hSw); go_simp; try with_reducible rfl)
      simp only [Act.put, List.setIfInBounds_toArray, List.set_cons_zero, List.set_cons_succ]
      refine till_take 4 (v := ?_) rfl (by kernel_rfl) (by kernel_rfl) (by kernel_rfl) (by kernel_rfl) (fun _ _ _ h => h) hHeld (Or.inl ⟨by rfl, ?_⟩) ?_
      rotate_left
      · (intro w hSw; (try dsimp only at hSw); go_simp; try with_reducible rfl)
      simp only [Act.put, List.setIfInBounds_toArray, List.set_cons_zero, List.set_cons_succ]
      refine till_take 5 (v := ?_) rfl (by kernel_rfl) (by kernel_rfl) (by kernel_rfl) (by kernel_rfl) (fun _ _ _ h => h) hHeld (Or.inl ⟨by rfl, ?_⟩) ?_
      rotate_left
      · (intro w hSw; (try dsimp only at hSw); go_simp; try with_reducible rfl)
      simp only [Act.put, List.setIfInBounds_toArray, List.set_cons_zero, List.set_cons_succ]
      refine till_take 6 (v := ?_) rfl (by kernel_rfl) (by kernel_rfl) (by kernel_rfl) (by kernel_rfl) (fun _ _ _ h => h) hHeld (Or.inl ⟨by rfl, ?_⟩) ?_
      rotate_left
      · (intro w hSw; (try dsimp only at hSw); go_simp; try with_reducible rfl)
      simp only [Act.put, List.setIfInBounds_toArray, List.set_cons_zero, List.set_cons_succ]
      refine till_take 7 (v := ?_) rfl (by kernel_rfl) (by kernel_rfl) (by kernel_rfl) (by kernel_rfl) (fun _ _ _ h => h) hHeld (Or.inl ⟨by rfl, ?_⟩) ?_
      rotate_left
      · (intro w hSw; (try dsimp only at hSw); go_simp; try with_reducible rfl)
      simp only [Act.put, List.setIfInBounds_toArray, List.set_cons_zero, List.set_cons_succ]
      refine till_take 8 (v := ?_) rfl (by kernel_rfl) (by kernel_rfl) (by kernel_rfl) (by kernel_rfl) (fun _ _ _ h => h) hHeld (Or.inl ⟨by rfl, ?_⟩) ?_
      rotate_left
      · (intro w hSw; (try dsimp only at hSw); go_simp; try with_reducible rfl)
      simp only [Act.put, List.setIfInBounds_toArray, List.set_cons_zero, List.set_cons_succ]
      refine till_take 9 (v := ?_) rfl (by kernel_rfl) (by kernel_rfl) (by kernel_rfl) (by kernel_rfl) (fun _ _ _ h => h) hHeld (Or.inl ⟨by rfl, ?_⟩) ?_
      rotate_left
      · (intro w hSw; (try dsimp only at hSw); go_simp; try with_reducible rfl)
      simp only [Act.put, List.setIfInBounds_toArray, List.set_cons_zero, List.set_cons_succ]
      refine till_take 10 (v := ?_) rfl (by kernel_rfl) (by kernel_rfl) (by kernel_rfl) (by kernel_rfl) (fun _ _ _ h => h) hHeld (Or.inl ⟨by rfl, ?_⟩) ?_
      rotate_left
      · (intro w hSw; (try dsimp only at hSw); go_simp; try with_reducible rfl)
      simp only [Act.put, List.setIfInBounds_toArray, List.set_cons_zero, List.set_cons_succ]
      refine till_take 11 (v := ?_) rfl (by kernel_rfl) (by kernel_rfl) (by kernel_rfl) (by kernel_rfl) (fun _ _ _ h => h) hHeld (Or.inl ⟨by rfl, ?_⟩) ?_
      rotate_left
      · (intro w hSw; (try dsimp only at hSw); go_simp; try with_reducible rfl)
      simp only [Act.put, List.setIfInBounds_toArray, List.set_cons_zero, List.set_cons_succ]
      refine till_ready 12 rfl (by kernel_rfl) (fun K hK => ?_)
      go_simp
      (go_at_call 164; with_reducible refine (goneField_any fn fc _).mono ?_; rintro e y6 ⟨rfl, zq⟩)
      have b6 : Hid (Below wr.heap.size wr y6) := chainB BR.out zq
      refine hK.out _ _ (HH.out _ b6.out) (fun hHeld => ?_)
      clear hK K
      try simp only [Act.put, List.setIfInBounds_toArray, List.set_cons_zero, List.set_cons_succ]
      refine till_take 13 (v := ?_) rfl (by kernel_rfl) (by kernel_rfl) (by kernel_rfl) (by kernel_rfl) (fun _ _ _ h => h) hHeld (Or.inl ⟨by rfl, ?_⟩) ?_
      rotate_left
      · (intro w hSw; (try dsimp only at hSw); go_simp; try with_reducible rfl)
      simp only [Act.put, List.setIfInBounds_toArray, List.set_cons_zero, List.set_cons_succ]
      refine till_last rfl (by kernel_rfl) (by kernel_rfl) (fun K hK => ?_)
      obtain ⟨⟨k0, k1, k2, k3, k4⟩, g0, g1, g2, g3, g4⟩ := HCL.out y6 b6.out
      go_simp
      refine hK.out _ _ ?_
      clear hK K
      rw [← HSt.out]
      obtain ⟨HB2, HK2⟩ := HN.out y6 b6.out
      have HB2 : Hid (Below W1.heap.size W1 (set5 y6 G (j * 5) (glAt ⟨k, at_, ns, cs, I, s, vv⟩ j))) := HB2
      have HK2 : Hid (BlkF (set5 y6 G (j * 5) (glAt ⟨k, at_, ns, cs, I, s, vv⟩ j)) G (glF ⟨k, at_, ns, cs, I, s, vv⟩ (j + 1))) := HK2
      clear HSt HN HCL HH hHeld k0 k1 k2 k3 k4 g0 g1 g2 g3 g4 HK
      generalize set5 y6 G (j * 5) (glAt ⟨k, at_, ns, cs, I, s, vv⟩ j) = y7 at *
      go_wp2_with fail
      go_roundw
      case rel => exact ⟨j + 1, by omega, by go_num, HB2, HK2⟩
      case measure => simp [intOf]; omega
    · obtain rfl : j = ns.length := by omega
      have hgl : I < (glF ⟨k, at_, ns, cs, I, s, vv⟩ ns.length).length := by rw [glF_len]; exact hIl
      obtain ⟨⟨k0, k1, k2, k3, k4⟩, g0, g1, g2, g3, g4⟩ := HK.out.cells I hgl
      have HN : Hid (BlkF (((wr.setCell ⟨G, I * 5 + 2, none⟩ (.string s)).setCell ⟨G, I * 5 + 3, none⟩ (.string vv)).setCell ⟨G, I * 5 + 4, none⟩ (.bool false)) G (svF ⟨k, at_, ns, cs, I, s, vv⟩ ns.length) ∧ Below W1.heap.size W1 (((wr.setCell ⟨G, I * 5 + 2, none⟩ (.string s)).setCell ⟨G, I * 5 + 3, none⟩ (.string vv)).setCell ⟨G, I * 5 + 4, none⟩ (.bool false))) := by
        have h := HK.out.set3 I hgl s vv false
        have e := glF_end ⟨k, at_, ns, cs, I, s, vv⟩ I rfl hgl
        have e2 : (glF ⟨k, at_, ns, cs, I, s, vv⟩ ns.length).set I ⟨(glF ⟨k, at_, ns, cs, I, s, vv⟩ ns.length)[I].n, (glF ⟨k, at_, ns, cs, I, s, vv⟩ ns.length)[I].c, s, vv, false⟩ = svF ⟨k, at_, ns, cs, I, s, vv⟩ ns.length := e
        rw [e2] at h
        have hg := HG.out
        exact ⟨h, ((HB.out.setCell (Nat.le_of_eq hg.symm) _).setCell (Nat.le_of_eq hg.symm) _).setCell (Nat.le_of_eq hg.symm) _⟩
      have hGw : G ≠ w.heap.size := by have := HG.out; have := HS1.out; omega
      generalize (glF ⟨k, at_, ns, cs, I, s, vv⟩ ns.length)[I].n = ga at *
      generalize (glF ⟨k, at_, ns, cs, I, s, vv⟩ ns.length)[I].c = gb at *
      generalize (glF ⟨k, at_, ns, cs, I, s, vv⟩ ns.length)[I].s = gc at *
      generalize (glF ⟨k, at_, ns, cs, I, s, vv⟩ ns.length)[I].v = gd at *
      generalize (glF ⟨k, at_, ns, cs, I, s, vv⟩ ns.length)[I].g = ge at *
      obtain ⟨u0, u1, u2, u3, u4, u5, u6⟩ := HX.out wr HB.out
      have HSx : Hid (∀ (x : World) (j : Nat) (u : Value), x.cell? ⟨w.heap.size, 5, none⟩ = some (.string s) ∧ x.cell? ⟨w.heap.size, 6, none⟩ = some (.string vv) → (x.setCell ⟨G, j, none⟩ u).cell? ⟨w.heap.size, 5, none⟩ = some (.string s) ∧ (x.setCell ⟨G, j, none⟩ u).cell? ⟨w.heap.size, 6, none⟩ = some (.string vv)) := fun x j u hx => ⟨(World.cell?_setCell_other _ _ _ _ (fun he => hGw (by simpa using congrArg Addr.block he))).trans hx.1, (World.cell?_setCell_other _ _ _ _ (fun he => hGw (by simpa using congrArg Addr.block he))).trans hx.2⟩
      have A0 : Hid (wr.cell? ⟨w.heap.size, 5, none⟩ = some (.string s) ∧ wr.cell? ⟨w.heap.size, 6, none⟩ = some (.string vv)) := ⟨u5, u6⟩
      have A1 : Hid _ := HSx.out wr (I * 5 + 2) (.string s) A0.out
      have A2 : Hid _ := HSx.out _ (I * 5 + 3) (.string vv) A1.out
      have A3 : Hid _ := HSx.out _ (I * 5 + 4) (.bool false) A2.out
      go_upto_region 11 with fail
      refine wp_region_held_drew (S := (fun w' => w'.cell? ⟨w.heap.size, 5, none⟩ = some (.string s) ∧ w'.cell? ⟨w.heap.size, 6, none⟩ = some (.string vv))) (by kernel_rfl) (A0.out) (fun hHeld => ?_)
      refine take_at 0 (v := ?_) rfl (by kernel_rfl) (by kernel_rfl) (by kernel_rfl) (fun _ _ _ h => h) hHeld (Or.inl ⟨by rfl, ?_⟩) ?_
      rotate_left
      · (intro w hSw; (try dsimp only at hSw); go_simp; try with_reducible rfl)
      simp only [Act.put, List.setIfInBounds_toArray, List.set_cons_zero, List.set_cons_succ]
      refine take_at 1 (v := ?_) rfl (by kernel_rfl) (by kernel_rfl) (by kernel_rfl) (fun _ _ _ h => h) hHeld (Or.inl ⟨by rfl, ?_⟩) ?_
      rotate_left
      · (intro w hSw; (try dsimp only at hSw); go_simp; try with_reducible rfl)
      simp only [Act.put, List.setIfInBounds_toArray, List.set_cons_zero, List.set_cons_succ]
      refine take_at 2 (v := ?_) rfl (by kernel_rfl) (by kernel_rfl) (by kernel_rfl) (fun _ _ _ h => h) hHeld (Or.inl ⟨by rfl, ?_⟩) ?_
      rotate_left
      · (intro w hSw; (try dsimp only at hSw); go_simp; try with_reducible rfl)
      simp only [Act.put, List.setIfInBounds_toArray, List.set_cons_zero, List.set_cons_succ]
      refine take_at 3 (v := ?_) rfl (by kernel_rfl) (by kernel_rfl) (by kernel_rfl) (fun _ _ _ h => h) hHeld (Or.inl ⟨by rfl, ?_⟩) ?_
      rotate_left
      · (intro w hSw; (try dsimp only at hSw); go_simp; try with_reducible rfl)
      simp only [Act.put, List.setIfInBounds_toArray, List.set_cons_zero, List.set_cons_succ]
      refine take_at 4 (v := ?_) rfl (by kernel_rfl) (by kernel_rfl) (by kernel_rfl) (fun _ _ _ h => h) hHeld (Or.inl ⟨by rfl, ?_⟩) ?_
      rotate_left
      · (intro w hSw; (try dsimp only at hSw); go_simp; try with_reducible rfl)
      simp only [Act.put, List.setIfInBounds_toArray, List.set_cons_zero, List.set_cons_succ]
      refine take_at 5 (v := ?_) rfl (by kernel_rfl) (by kernel_rfl) (by kernel_rfl) (fun _ _ _ h => h) hHeld (Or.inl ⟨by rfl, ?_⟩) ?_
      rotate_left
      · (intro w hSw; (try dsimp only at hSw); go_simp; try with_reducible rfl)
      simp only [Act.put, List.setIfInBounds_toArray, List.set_cons_zero, List.set_cons_succ]
      refine take_at 6 (v := ?_) rfl (by kernel_rfl) (by kernel_rfl) (by kernel_rfl) (fun _ _ _ h => h) hHeld (Or.inl ⟨by rfl, ?_⟩) ?_
      rotate_left
      · (intro w hSw; (try dsimp only at hSw); go_simp; try with_reducible rfl)
      simp only [Act.put, List.setIfInBounds_toArray, List.set_cons_zero, List.set_cons_succ]
      refine take_at 7 (v := ?_) rfl (by kernel_rfl) (by kernel_rfl) (by kernel_rfl) (fun _ _ _ h => h) hHeld (Or.inl ⟨by rfl, ?_⟩) ?_
      rotate_left
      · (intro w hSw; (try dsimp only at hSw); go_simp; try with_reducible rfl)
      simp only [Act.put, List.setIfInBounds_toArray, List.set_cons_zero, List.set_cons_succ]
      refine take_at 8 (v := ?_) rfl (by kernel_rfl) (by kernel_rfl) (by kernel_rfl) (fun _ _ _ h => h) hHeld (Or.inl ⟨by rfl, ?_⟩) ?_
      rotate_left
      · (intro w hSw; (try dsimp only at hSw); go_simp; try with_reducible rfl)
      simp only [Act.put, List.setIfInBounds_toArray, List.set_cons_zero, List.set_cons_succ]
      refine ready_at 9 rfl (by kernel_rfl) (fun K hK => ?_)
      go_simp
      refine hK.out _ _ (A1.out) (fun hHeld => ?_)
      clear hK K
      try simp only [Act.put, List.setIfInBounds_toArray, List.set_cons_zero, List.set_cons_succ]
      refine take_at 10 (v := ?_) rfl (by kernel_rfl) (by kernel_rfl) (by kernel_rfl) (fun _ _ _ h => h) hHeld (Or.inl ⟨by rfl, ?_⟩) ?_
      rotate_left
      · (intro w hSw; (try dsimp only at hSw); go_simp; try with_reducible rfl)
      simp only [Act.put, List.setIfInBounds_toArray, List.set_cons_zero, List.set_cons_succ]
      refine take_at 11 (v := ?_) rfl (by kernel_rfl) (by kernel_rfl) (by kernel_rfl) (fun _ _ _ h => h) hHeld (Or.inl ⟨by rfl, ?_⟩) ?_
      rotate_left
      · (intro w hSw; (try dsimp only at hSw); go_simp; try with_reducible rfl)
      simp only [Act.put, List.setIfInBounds_toArray, List.set_cons_zero, List.set_cons_succ]
      refine ready_at 12 rfl (by kernel_rfl) (fun K hK => ?_)
      go_simp
      refine hK.out _ _ (A2.out) (fun hHeld => ?_)
      clear hK K
      try simp only [Act.put, List.setIfInBounds_toArray, List.set_cons_zero, List.set_cons_succ]
      refine take_at 13 (v := ?_) rfl (by kernel_rfl) (by kernel_rfl) (by kernel_rfl) (fun _ _ _ h => h) hHeld (Or.inl ⟨by rfl, ?_⟩) ?_
      rotate_left
      · (intro w hSw; (try dsimp only at hSw); go_simp; try with_reducible rfl)
      simp only [Act.put, List.setIfInBounds_toArray, List.set_cons_zero, List.set_cons_succ]
      refine take_at 14 (v := ?_) rfl (by kernel_rfl) (by kernel_rfl) (by kernel_rfl) (fun _ _ _ h => h) hHeld (Or.inl ⟨by rfl, ?_⟩) ?_
      rotate_left
      · (intro w hSw; (try dsimp only at hSw); go_simp; try with_reducible rfl)
      simp only [Act.put, List.setIfInBounds_toArray, List.set_cons_zero, List.set_cons_succ]
      refine ready_at 15 rfl (by kernel_rfl) (fun K hK => ?_)
      go_simp
      refine hK.out _ _ (A3.out) (fun hHeld => ?_)
      clear hK K
      try simp only [Act.put, List.setIfInBounds_toArray, List.set_cons_zero, List.set_cons_succ]
      refine wpAnyH_done (by kernel_rfl) ?_ _
      obtain ⟨Y, hY⟩ : ∃ Y, Y = (((wr.setCell ⟨G, I * 5 + 2, none⟩ (.string s)).setCell ⟨G, I * 5 + 3, none⟩ (.string vv)).setCell ⟨G, I * 5 + 4, none⟩ (.bool false)).drew := ⟨_, rfl⟩
      rw [← hY]
      have BYY : Below W1.heap.size W1 Y := by rw [hY]; exact HN.out.2.drew
      have HE : RsP w ⟨k, at_, ns, cs, I, s, vv⟩ (.returned (.pointer (some ⟨Y.heap.size, 0, none⟩))) _ := HEn.out Y G BYY (by rw [hY]; exact HN.out.1)
      clear u0 u1 u2 u3 u4 u5 u6
      obtain ⟨u0, u1, u2, u3, u4, u5, u6⟩ := HX.out Y BYY
      clear hY HN HEn A0 A1 A2 A3 HSx k0 k1 k2 k3 k4 g0 g1 g2 g3 g4 hHeld HK BYY
      go_wp2_with fail
      go_ret
      exact HE
set_option maxHeartbeats 1000000 in
theorem implShownLeaf_any (o : Shw) (q1 : Option Addr) (c1 : Nat) (q2 : Option Addr) (c2 : Nat) (w : World) (hT : Tabs w) (t1 : TxtAt w q1 o.ns) (t2 : TxtAt w q2 o.cs) (n1 : o.ns.length ≤ 1048576) (n2 : o.cs.length ≤ 1048576) (m1 : o.ns.length ≤ c1) (m2 : o.cs.length ≤ c2) (hle : ShwLe o) :
    Calls Tryz.prog 122 #[.agg #[.string o.k, .int .i64 o.at_, .slice q1 o.ns.length c1, .slice q2 o.cs.length c2, .int .i64 o.ix, .string o.s, .string o.v]] w fun e w' => e = .returned (.string (svB o)) ∧ Below w.heap.size w w' := by
  obtain ⟨W1, hW1⟩ : ∃ W1, W1 = w.alloc (.cells #[.string o.k, .int .i64 o.at_, .slice q1 o.ns.length c1, .slice q2 o.cs.length c2, .int .i64 o.ix, .string o.s, .string o.v] 37) := ⟨_, rfl⟩
  have HW1 : Hid (W1 = w.alloc (.cells #[.string o.k, .int .i64 o.at_, .slice q1 o.ns.length c1, .slice q2 o.cs.length c2, .int .i64 o.ix, .string o.s, .string o.v] 37)) := hW1
  have B1 : Hid (Below w.heap.size w W1) := by rw [hW1]; exact (Below.refl _ _).alloc (Nat.le_refl _) _
  have K1 : Bxs W1 w.heap.size 37 #[.string o.k, .int .i64 o.at_, .slice q1 o.ns.length c1, .slice q2 o.cs.length c2, .int .i64 o.ix, .string o.s, .string o.v] := by rw [hW1]; exact Bxs.new _ _ _
  have hR := rowShown_any o q1 c1 q2 c2 W1 (t1.below B1.out) (t2.below B1.out) n1 n2 m1 m2
  have HL : Hid (∀ (P : Nat) (q : Option Addr) (c : Nat) (y : World), Below W1.heap.size W1 y → W1.heap.size ≤ P → RawB y P (rsK o) (rsA o) (.slice q (rsF o).length c) 0 0 ByteArray.empty → FldAt y q (rsF o) → (rsF o).length ≤ c → Calls Tryz.prog 148 #[.pointer (some ⟨P, 0, none⟩)] y fun e w' => e = .returned (.string (svB o)) ∧ Below w.heap.size w w') := fun P q c y hb hP hRw hF hc => by
    rw [svB_rs]
    refine (leaf_any P (rsK o) (rsA o) q c (rsF o) y ((hT.to B1.out).to hb) hRw hF (rsF_len n1) hc (rsK_le hle) (rsF_le hle)).mono ?_
    rintro e y2 ⟨he, -, hg⟩
    exact ⟨he, below_turned (chainB B1.out hb) hg (Nat.le_trans B1.out.size hb.size) (Nat.le_trans B1.out.size hP)⟩
  obtain ⟨u0, u1, u2, u3, u4, u5, u6⟩ : W1.cell? ⟨w.heap.size, 0, none⟩ = some (.string o.k) ∧ W1.cell? ⟨w.heap.size, 1, none⟩ = some (.int .i64 o.at_) ∧ W1.cell? ⟨w.heap.size, 2, none⟩ = some (.slice q1 o.ns.length c1) ∧ W1.cell? ⟨w.heap.size, 3, none⟩ = some (.slice q2 o.cs.length c2) ∧ W1.cell? ⟨w.heap.size, 4, none⟩ = some (.int .i64 o.ix) ∧ W1.cell? ⟨w.heap.size, 5, none⟩ = some (.string o.s) ∧ W1.cell? ⟨w.heap.size, 6, none⟩ = some (.string o.v) := ⟨K1.cell 0, K1.cell 1, K1.cell 2, K1.cell 3, K1.cell 4, K1.cell 5, K1.cell 6⟩
  rw [hW1] at u0 u1 u2 u3 u4 u5 u6
  clear hW1 K1 t1 t2 hT hle
  generalize svB o = R at *
  go_enter Tryz.func122, Tryz.ntmps122
  go_wp2_with fail
  rw [← HW1.out]
  refine hR.mono ?_
  rintro e y ⟨P, v, q, c, rfl, hP, rfl, hc, hRw, hF, hb⟩
  have hL := HL.out P q c y hb hP hRw hF hc
  clear HL hRw hF hb u0 u1 u2 u3 u4 u5 u6 hP
  go_wp2_with fail
  refine hL.mono ?_
  rintro e y2 ⟨rfl, b2⟩
  go_wp2_with fail
  go_ret
  exact ⟨rfl, b2⟩
theorem cat_four7 (a b c d : ByteArray) : cat [a, b, c, d] = a ++ b ++ c ++ d := by apply ByteArray.ext; simp [cat]
end Go.Proofs.YthkmeneepkaedaaGreatDoor
