/-
  What the specification's ShownBytes answers.
  Conditions: the cells of Names and Commits hold the texts.
-/
import Derived.Test.YtnomkcbcjaagmabGreatDoorRows
import Derived.Test.YtnomkcbcjaagmabGreatDoorBytesDigMath
import Derived.Test.YtnomkcbcjaagmabGreatDoorSlASlBOwnS
import Derived.Test.YtnomkcbcjaagmabGreatDoorBxKGrKTakesSrc
import Derived.Test.YtnomkcbcjaagmabGreatDoorTimeBPutMathPutNum
import Derived.Test.YtnomkcbcjaagmabGreatDoorJoinedPutTextFldMath
import Derived.Test.YtnomkcbcjaagmabGreatDoorAll2FldIsFldC
import Derived.Test.YtnomkcbcjaagmabGreatDoorFldR
import Derived.Test.YtnomkcbcjaagmabGreatDoorFldL
import Derived.Test.YtnomkcbcjaagmabGreatDoorFldRiseFldGShwK
import Derived.Test.YtnomkcbcjaagmabGreatDoorFldV
import Derived.Handy
import Derived.Laws.Concat
import Derived.WalkSpells
import Derived.OwnWalk
import Derived.Deep.RegionHeld3
import Derived.Deep.RegionWith
namespace Go.Proofs.YtnomkcbcjaagmabGreatDoor
open Go.RowKit Go.Lib
set_option linter.unusedVariables false
set_option maxRecDepth 20000

/-- It leads somewhere. -/
def sbOk (o : Shw) : Bool := svOk o && rwB o.k o.at_ (svF o o.ns.length)
theorem svB_em (o : Shw) : (svB o).toList.isEmpty = !sbOk o := by
  rw [emB_isEmpty]
  unfold svB sbOk lfB
  cases h1 : svOk o with
  | false => exact (emB_iff _).2 (if_neg Bool.false_ne_true)
  | true =>
    rw [if_pos rfl]
    cases h2 : rwB o.k o.at_ (svF o o.ns.length) with
    | false => exact (emB_iff _).2 (if_neg Bool.false_ne_true)
    | true =>
      rw [if_pos rfl]
      show emB _ = false
      cases h3 : emB (one101 ++ digB (lfT o.k o.at_ (svF o o.ns.length))) with
      | false => rfl
      | true =>
        have h4 := congrArg ByteArray.size ((emB_iff _).1 h3)
        rw [ByteArray.size_append, digB_size] at h4
        simp at h4
def sbT (o : Shw) : ByteArray := lfT o.k o.at_ (svF o o.ns.length) ++ putB o.ix ++ putTextB o.s ++ putTextB o.v
def sbB (o : Shw) : ByteArray := if sbOk o = true then sbT o else ByteArray.empty
theorem sbOk_parts {o : Shw} (h : sbOk o = true) : o.cs.length = o.ns.length ∧ o.ns.length ≤ 3 ∧ (0 ≤ o.ix ∧ o.ix ≤ (o.ns.length : Int) - 1) ∧ rwB o.k o.at_ (svF o o.ns.length) = true ∧ o.s.size ≤ 8 ∧ o.v.size ≤ 16 ∧ o.k.size ≤ 20 ∧ (0 ≤ o.at_ ∧ o.at_ ≤ 1000000) ∧ ∀ i (h1 : i < o.ns.length) (h2 : i < o.cs.length), o.ns[i].size ≤ 20 ∧ o.cs[i].size = 32 := by
  unfold sbOk svOk at h
  simp only [Bool.and_eq_true, decide_eq_true_iff] at h
  obtain ⟨⟨h1, h2, h3⟩, h4⟩ := h
  obtain ⟨r1, r2, r3, r4, r5⟩ := rwB_parts h4
  have hf : ∀ i, i < o.ns.length → fdB (svAt o i) = true := fun i hi => r4 _ (List.mem_map.2 ⟨i, List.mem_range.2 hi, rfl⟩)
  have h6 : o.s.size ≤ 8 ∧ o.v.size ≤ 16 := by
    obtain ⟨I, hI⟩ := Int.eq_ofNat_of_zero_le h3.1
    have h7 := hf I (by omega)
    unfold svAt at h7
    rw [if_pos hI.symm] at h7
    have h8 := ((fdB_parts h7).2.2.2 rfl).2
    unfold cmOk at h8
    simp only [Bool.and_eq_true, decide_eq_true_iff] at h8
    exact ⟨h8.2.1.2, h8.2.2⟩
  refine ⟨h1, h2, h3, h4, h6.1, h6.2, (nrB_le r1).2, r2, fun i i1 i2 => ?_⟩
  have h7 := fdB_parts (hf i i1)
  have e1 : (svAt o i).n = o.ns[i] := by unfold svAt; split <;> exact getD_at i1
  have e2 : (svAt o i).c = o.cs[i] := by unfold svAt; split <;> exact getD_at i2
  rw [e1, e2] at h7
  exact ⟨(nrB_le h7.1).2, h7.2.1⟩
theorem svF_at (o : Shw) (i : Nat) (h1 : i < o.ns.length) (h2 : i < o.cs.length) (h : i < (svF o o.ns.length).length) : (svF o o.ns.length)[i].n = o.ns[i] ∧ (svF o o.ns.length)[i].c = o.cs[i] := by
  have e : (svF o o.ns.length)[i] = svAt o i := by simp [svF]
  rw [e]
  constructor
  · unfold svAt; split <;> exact getD_at h1
  · unfold svAt; split <;> exact getD_at h2
set_option maxHeartbeats 8000000 in
theorem specShownBytes_any (o : Shw) (q1 : Option Addr) (c1 : Nat) (q2 : Option Addr) (c2 : Nat) (w : World) (t1 : TxtAt w q1 o.ns) (t2 : TxtAt w q2 o.cs) (n1 : o.ns.length ≤ 1048576) (n2 : o.cs.length ≤ 1048576) (m1 : o.ns.length ≤ c1) (m2 : o.cs.length ≤ c2) (hle : ShwLe o) :
    Calls Tryz.prog 33 #[.agg #[.string o.k, .int .i64 o.at_, .slice q1 o.ns.length c1, .slice q2 o.cs.length c2, .int .i64 o.ix, .string o.s, .string o.v]] w fun e w' => e = .returned (.string (sbB o)) ∧ Below w.heap.size w w' := by
  obtain ⟨W1, hW1⟩ : ∃ W1, W1 = w.alloc (.cells #[.string o.k, .int .i64 o.at_, .slice q1 o.ns.length c1, .slice q2 o.cs.length c2, .int .i64 o.ix, .string o.s, .string o.v] 48) := ⟨_, rfl⟩
  have B1 : Hid (Below w.heap.size w W1) := by rw [hW1]; exact (Below.refl _ _).alloc (Nat.le_refl _) _
  have HL : Hid (Calls Tryz.prog 32 #[.agg #[.string o.k, .int .i64 o.at_, .slice q1 o.ns.length c1, .slice q2 o.cs.length c2, .int .i64 o.ix, .string o.s, .string o.v]] W1 fun e w' => e = .returned (.string (svB o)) ∧ Below W1.heap.size W1 w') := specShownLeaf_any o q1 c1 q2 c2 W1 (t1.below B1.out) (t2.below B1.out) n1 n2 m1 m2 hle
  have hem := svB_em o
  have HP : Hid (sbOk o = true → _) := sbOk_parts (o := o)
  have HFA : Hid (∀ i (h1 : i < o.ns.length) (h2 : i < o.cs.length) (h : i < (svF o o.ns.length).length), (svF o o.ns.length)[i].n = o.ns[i] ∧ (svF o o.ns.length)[i].c = o.cs[i]) := svF_at o
  have HFL : Hid ((svF o o.ns.length).length = o.ns.length) := svF_len _ _
  have HB : Hid (sbB o = if sbOk o = true then lfT o.k o.at_ (svF o o.ns.length) ++ putB o.ix ++ putTextB o.s ++ putTextB o.v else ByteArray.empty) := rfl
  have HB0 : Hid (∀ t, lfT o.k o.at_ (svF o o.ns.length) = t → lfTo (putTextB o.k ++ putB o.at_ ++ putB (o.ns.length : Int)) (svF o o.ns.length) = t) := fun t h => by rw [← h]; unfold lfT; rw [HFL.out]
  rw [HB.out]
  clear hle HB
  have HT1 : Hid (TxtAt W1 q1 o.ns) := t1.below B1.out
  have HT2 : Hid (TxtAt W1 q2 o.cs) := t2.below B1.out
  clear t1 t2
  generalize svB o = LB at *
  generalize svF o o.ns.length = fs at *
  generalize sbOk o = ok at *
  obtain ⟨k, at_, ns, cs, ix, s, v⟩ := o
  dsimp only at *
  have HW1 : Hid (W1 = w.alloc (.cells #[.string k, .int .i64 at_, .slice q1 ns.length c1, .slice q2 cs.length c2, .int .i64 ix, .string s, .string v] 48)) := hW1
  have K1 : Hid (Bxs W1 w.heap.size 48 #[.string k, .int .i64 at_, .slice q1 ns.length c1, .slice q2 cs.length c2, .int .i64 ix, .string s, .string v]) := by rw [hW1]; exact Bxs.new _ _ _
  have HX : Hid (∀ x, Below W1.heap.size W1 x → x.cell? ⟨w.heap.size, 0, none⟩ = some (.string k) ∧ x.cell? ⟨w.heap.size, 1, none⟩ = some (.int .i64 at_) ∧ x.cell? ⟨w.heap.size, 2, none⟩ = some (.slice q1 ns.length c1) ∧ x.cell? ⟨w.heap.size, 3, none⟩ = some (.slice q2 cs.length c2) ∧ x.cell? ⟨w.heap.size, 4, none⟩ = some (.int .i64 ix) ∧ x.cell? ⟨w.heap.size, 5, none⟩ = some (.string s) ∧ x.cell? ⟨w.heap.size, 6, none⟩ = some (.string v)) := fun x hb => ⟨(K1.out.below hb).cell 0, (K1.out.below hb).cell 1, (K1.out.below hb).cell 2, (K1.out.below hb).cell 3, (K1.out.below hb).cell 4, (K1.out.below hb).cell 5, (K1.out.below hb).cell 6⟩
  cases ok with
  | false =>
    rw [if_neg Bool.false_ne_true]
    obtain ⟨x0, x1, x2, x3, x4, x5, x6⟩ := HX.out W1 (Below.refl _ _)
    rw [hW1] at x0 x1 x2 x3 x4 x5 x6
    clear hW1 HP
    go_enter Tryz.func33, Tryz.ntmps33
    go_wp2_with fail
    rw [← HW1.out]
    refine HL.out.mono ?_
    rintro e y1 ⟨rfl, b1⟩
    have b1 := chainB B1.out b1
    go_wp2_with fail
    go_ret
    exact ⟨rfl, b1⟩
  | true =>
  rw [if_pos rfl]
  obtain ⟨p1, p2, p3, p4, p5, p6, p7, p8, p9⟩ := HP.out rfl
  have G1 : Hid (cs.length = ns.length) := p1
  have HSz : Hid (∀ i (h1 : i < ns.length) (h2 : i < cs.length), ns[i].size ≤ 20 ∧ cs[i].size = 32) := p9
  have hn0 : 0 < ns.length := by omega
  have hem' : LB.toList.isEmpty = false := hem
  obtain ⟨b1, o1, rfl, hb1⟩ := HT1.out.some_of7 hn0
  obtain ⟨b2, o2, rfl, hb2⟩ := HT2.out.some_of7 (by omega)
  have QT : ∀ t : ByteArray, t.size ≤ 1000 → ∀ x, Below W1.heap.size W1 x → Calls Tryz.prog 83 #[.string t] x fun e w' => e = .returned (.string (putTextB t)) ∧ Below W1.heap.size W1 w' := fun t ht x hb => (specPutText_any t x (by unfold maxLen; omega)).mono (by rintro e x1 ⟨rfl, b⟩; exact ⟨rfl, chainB hb b⟩)
  have QM : ∀ n : Int, -9223372036854775808 ≤ n → n ≤ 9223372036854775807 → ∀ x, Below W1.heap.size W1 x → Calls Tryz.prog 84 #[.int .i64 n] x fun e w' => e = .returned (.string (putB n)) ∧ Below W1.heap.size W1 w' := fun n h0 h1 x hb => (specPutNum_any n x h0 h1).mono (by rintro e x1 ⟨rfl, b⟩; exact ⟨rfl, chainB hb b⟩)
  have QK : Hid (∀ x, Below W1.heap.size W1 x → Calls Tryz.prog 83 #[.string k] x fun e w' => e = .returned (.string (putTextB k)) ∧ Below W1.heap.size W1 w') := QT k (by omega)
  have QA : Hid (∀ x, Below W1.heap.size W1 x → Calls Tryz.prog 84 #[.int .i64 at_] x fun e w' => e = .returned (.string (putB at_)) ∧ Below W1.heap.size W1 w') := QM at_ (by omega) (by omega)
  have QL : Hid (∀ x, Below W1.heap.size W1 x → Calls Tryz.prog 84 #[.int .i64 (ns.length : Int)] x fun e w' => e = .returned (.string (putB (ns.length : Int))) ∧ Below W1.heap.size W1 w') := QM _ (by omega) (by omega)
  have QI : Hid (∀ x, Below W1.heap.size W1 x → Calls Tryz.prog 84 #[.int .i64 ix] x fun e w' => e = .returned (.string (putB ix)) ∧ Below W1.heap.size W1 w') := QM ix (by omega) (by omega)
  have QS : Hid (∀ x, Below W1.heap.size W1 x → Calls Tryz.prog 83 #[.string s] x fun e w' => e = .returned (.string (putTextB s)) ∧ Below W1.heap.size W1 w') := QT s (by omega)
  have QV : Hid (∀ x, Below W1.heap.size W1 x → Calls Tryz.prog 83 #[.string v] x fun e w' => e = .returned (.string (putTextB v)) ∧ Below W1.heap.size W1 w') := QT v (by omega)
  have QT : Hid (∀ t : ByteArray, t.size ≤ 1000 → ∀ x, Below W1.heap.size W1 x → Calls Tryz.prog 83 #[.string t] x fun e w' => e = .returned (.string (putTextB t)) ∧ Below W1.heap.size W1 w') := QT
  have s1 := putTextB_le k (by omega)
  have s2 := putB_ten7 at_
  have s3 := putB_ten7 (ns.length : Int)
  have s5 := putB_ten7 ix
  have s6 := putTextB_le s (by omega)
  have s7 := putTextB_le v (by omega)
  have s4 : (putTextB k ++ putB at_).size ≤ 40 := by rw [ByteArray.size_append]; omega
  have u1 : ∀ w, (Op.stringOp .add (putTextB k) (putB at_)).run Tryz.prog w = .ok (.string (putTextB k ++ putB at_)) w := fun w => run_string_add w _ _ (by omega) (by omega)
  have u2 : ∀ w, (Op.stringOp .add (putTextB k ++ putB at_) (putB (ns.length : Int))).run Tryz.prog w = .ok (.string (putTextB k ++ putB at_ ++ putB (ns.length : Int))) w := fun w => run_string_add w _ _ (by omega) (by omega)
  have HS : Hid ((putTextB k ++ putB at_ ++ putB (ns.length : Int)).size ≤ 50) := by show _ ≤ _; rw [ByteArray.size_append]; omega
  have HE1 : Hid ((putB ix).size ≤ 10 ∧ (putTextB s).size ≤ 18 ∧ (putTextB v).size ≤ 26) := ⟨s5, by omega, by omega⟩
  have HV := HB0.out _ rfl
  have BW : Hid (Below W1.heap.size W1 W1) := Below.refl _ _
  obtain ⟨x0, x1, x2, x3, x4, x5, x6⟩ := HX.out W1 BW.out
  have y0 := x0
  have y1 := x1
  have y2 := x2
  have y3 := x3
  have y4 := x4
  have y5 := x5
  have y6 := x6
  rw [hW1] at y0 y1 y2 y3 y4 y5 y6
  clear x0 x1 x2 x3 x4 x5 x6
  have HV : Hid _ := HV
  clear hW1 HP HB0 hem QM s5 s6 s7 p1 p9 p4 p3
  generalize putTextB k = A at *
  generalize putB at_ = B at *
  generalize putB (ns.length : Int) = C at *
  generalize lfT k at_ fs = L at *
  generalize putB ix = D1 at *
  generalize putTextB s = D2 at *
  generalize putTextB v = D3 at *
  go_enter Tryz.func33, Tryz.ntmps33
  go_wp2_with fail
  rw [← HW1.out]
  refine HL.out.mono ?_
  rintro e w0 ⟨rfl, be0⟩
  have BZ : Hid (Below W1.heap.size W1 w0) := be0
  clear be0 y0 y1 y2 y3 y4 y5 y6
  obtain ⟨x0, x1, x2, x3, x4, x5, x6⟩ := HX.out w0 BZ.out
  have HX3 : Hid (∀ x, Below W1.heap.size W1 x → x.cell? ⟨w.heap.size, 0, none⟩ = some (.string k) ∧ x.cell? ⟨w.heap.size, 1, none⟩ = some (.int .i64 at_) ∧ x.cell? ⟨w.heap.size, 2, none⟩ = some (.slice (some ⟨b1, o1, none⟩) ns.length c1)) := fun x hb => ⟨(HX.out x hb).1, (HX.out x hb).2.1, (HX.out x hb).2.2.1⟩
  go_upto_region 3 with fail
  first
    | (go_region_held3 (fun w' => w'.cell? ⟨w.heap.size, 0, none⟩ = some (.string k) ∧ w'.cell? ⟨w.heap.size, 1, none⟩ = some (.int .i64 at_) ∧ w'.cell? ⟨w.heap.size, 2, none⟩ = some (.slice (some ⟨b1, o1, none⟩) ns.length c1)) ((refine HX3.out _ ?hT; (case hT => (with_reducible repeat (first | assumption | exact BZ.out | refine Below.drew ?_ | refine alB ?_ _))))) (first
      | (go_at_call 83; with_reducible refine (QK.out _ ?hB).mono ?_; (case hB => first | exact BZ.out | exact BZ.out.drew); rintro e v1 ⟨rfl, y1⟩)
      | (go_at_call 84; with_reducible refine (QA.out _ ?hB).mono ?_; (case hB => first | exact y1 | exact y1.drew); rintro e v2 ⟨rfl, y2⟩)
      | (go_at_call 84; with_reducible refine (QL.out _ ?hB).mono ?_; (case hB => first | exact y2 | exact y2.drew); rintro e v3 ⟨rfl, y3⟩)))
    | fail
  clear s1 s2 s3 s4 u1 u2 QK QA QL x0 x1 x2 x3 x4 x5 x6
  go_wp2_with fail
  go_loopw [4, 3] (fun i t wr => ∃ (j : Nat) (T : ByteArray), j ≤ ns.length ∧ i = .int .i64 j ∧ t = .string T ∧ T.size ≤ 50 + 100 * j ∧ Hid (lfTo T (fs.drop j) = L) ∧ Hid (Below W1.heap.size W1 wr)) (fun i _ _ => ns.length - (intOf i).toNat)
  case atStart => exact ⟨0, _, Nat.zero_le _, rfl, rfl, HS.out, HV.out, y3⟩
  case round =>
    obtain ⟨j, T, hj, rfl, rfl, hT, HLf, HB⟩ := hrel
    obtain ⟨x0, x1, x2, x3, x4, x5, x6⟩ := HX.out wr HB.out
    by_cases hlt : j < ns.length
    · have j1 : (j : Int) < ns.length := by omega
      have j2' : j < cs.length := by have := G1.out; omega
      have j2 : (j : Int) < cs.length := by omega
      have j3' : j < fs.length := by have := HFL.out; omega
      have HY : Hid (∀ x, Below W1.heap.size W1 x → x.cell? ⟨w.heap.size, 2, none⟩ = some (.slice (some ⟨b1, o1, none⟩) ns.length c1) ∧ x.cell? ⟨w.heap.size, 3, none⟩ = some (.slice (some ⟨b2, o2, none⟩) cs.length c2) ∧ x.cell? ⟨b1, o1 + j, none⟩ = some (.string ns[j]) ∧ x.cell? ⟨b2, o2 + j, none⟩ = some (.string cs[j])) := fun x hx => ⟨(HX.out x hx).2.2.1, (HX.out x hx).2.2.2.1, (HT1.out.below hx).at j hlt, (HT2.out.below hx).at j j2'⟩
      have hz := HSz.out j hlt j2'
      have QN : Hid (∀ x, Below W1.heap.size W1 x → Calls Tryz.prog 83 #[.string ns[j]] x fun e w' => e = .returned (.string (putTextB ns[j])) ∧ Below W1.heap.size W1 w') := QT.out _ (by omega)
      have QC : Hid (∀ x, Below W1.heap.size W1 x → Calls Tryz.prog 83 #[.string cs[j]] x fun e w' => e = .returned (.string (putTextB cs[j])) ∧ Below W1.heap.size W1 w') := QT.out _ (by omega)
      have s1 := putTextB_le ns[j] (by omega)
      have s2 := putTextB_le cs[j] (by omega)
      have HL2 : Hid (lfTo (T ++ putTextB ns[j] ++ putTextB cs[j]) (fs.drop (j + 1)) = L) := by
        show _ = _
        have e := HFA.out j hlt j2' j3'
        rw [← e.1, ← e.2, ← lfTo_drop T fs j j3']; exact HLf.out
      have s3 : (T ++ putTextB ns[j]).size ≤ 1000 := by rw [ByteArray.size_append]; omega
      have u3 : ∀ w, (Op.stringOp .add T (putTextB ns[j])).run Tryz.prog w = .ok (.string (T ++ putTextB ns[j])) w := fun w => run_string_add w _ _ (by omega) (by omega)
      have u4 : ∀ w, (Op.stringOp .add (T ++ putTextB ns[j]) (putTextB cs[j])).run Tryz.prog w = .ok (.string (T ++ putTextB ns[j] ++ putTextB cs[j])) w := fun w => run_string_add w _ _ (by omega) (by omega)
      have HS2 : Hid ((T ++ putTextB ns[j] ++ putTextB cs[j]).size ≤ 50 + 100 * (j + 1)) := by show _ ≤ _; rw [ByteArray.size_append, ByteArray.size_append]; omega
      generalize putTextB ns[j] = D at *
      generalize putTextB cs[j] = E at *
      generalize ns[j] = fn at *
      generalize cs[j] = fc at *
      clear hz HLf s1 s2 s3 QS QV QI
      go_upto_region 7 with fail
      first
        | (go_region_held3 (fun w' => w'.cell? ⟨w.heap.size, 2, none⟩ = some (.slice (some ⟨b1, o1, none⟩) ns.length c1) ∧ w'.cell? ⟨w.heap.size, 3, none⟩ = some (.slice (some ⟨b2, o2, none⟩) cs.length c2) ∧ w'.cell? ⟨b1, o1 + j, none⟩ = some (.string fn) ∧ w'.cell? ⟨b2, o2 + j, none⟩ = some (.string fc)) ((refine HY.out _ ?hT; (case hT => (with_reducible repeat (first | assumption | exact HB.out | refine Below.drew ?_ | refine alB ?_ _))))) (first
          | (go_at_call 83; with_reducible refine (QN.out _ ?hB).mono ?_; (case hB => first | exact HB.out | exact HB.out.drew); rintro e z1 ⟨rfl, y4⟩)
          | (go_at_call 83; with_reducible refine (QC.out _ ?hB).mono ?_; (case hB => first | exact y4 | exact y4.drew); rintro e z2 ⟨rfl, y5⟩)))
        | fail
      go_wp2_with fail
      go_roundw
      case rel => exact ⟨j + 1, _, by omega, by go_num, rfl, HS2.out, HL2, y5⟩
      case measure => simp [intOf]; omega
    · obtain rfl : j = ns.length := by omega
      have HL2 : Hid (T = L) := by
        have h := HLf.out
        rw [List.drop_eq_nil_of_le (by rw [HFL.out]; exact Nat.le_refl _)] at h
        exact h
      obtain rfl := HL2.out
      obtain ⟨e1, e2, e3⟩ := HE1.out
      have e4 : (T ++ D1).size ≤ 1000 := by rw [ByteArray.size_append]; omega
      have e5 : (T ++ D1 ++ D2).size ≤ 2000 := by rw [ByteArray.size_append]; omega
      have u3 : ∀ w, (Op.stringOp .add T D1).run Tryz.prog w = .ok (.string (T ++ D1)) w := fun w => run_string_add w _ _ (by omega) (by omega)
      have u4 : ∀ w, (Op.stringOp .add (T ++ D1) D2).run Tryz.prog w = .ok (.string (T ++ D1 ++ D2)) w := fun w => run_string_add w _ _ (by omega) (by omega)
      have u5 : ∀ w, (Op.stringOp .add (T ++ D1 ++ D2) D3).run Tryz.prog w = .ok (.string (T ++ D1 ++ D2 ++ D3)) w := fun w => run_string_add w _ _ (by omega) (by omega)
      have HY : Hid (∀ x, Below W1.heap.size W1 x → x.cell? ⟨w.heap.size, 4, none⟩ = some (.int .i64 ix) ∧ x.cell? ⟨w.heap.size, 5, none⟩ = some (.string s) ∧ x.cell? ⟨w.heap.size, 6, none⟩ = some (.string v)) := fun x hb => ⟨(HX.out x hb).2.2.2.2.1, (HX.out x hb).2.2.2.2.2.1, (HX.out x hb).2.2.2.2.2.2⟩
      clear e1 e2 e3 e4 e5 HLf
      go_upto_region 8 with fail
      first
        | (go_region_held3 (fun w' => w'.cell? ⟨w.heap.size, 4, none⟩ = some (.int .i64 ix) ∧ w'.cell? ⟨w.heap.size, 5, none⟩ = some (.string s) ∧ w'.cell? ⟨w.heap.size, 6, none⟩ = some (.string v)) ((refine HY.out _ ?hT; (case hT => (with_reducible repeat (first | assumption | exact HB.out | refine Below.drew ?_ | refine alB ?_ _))))) (first
          | (go_at_call 84; with_reducible refine (QI.out _ ?hB).mono ?_; (case hB => first | exact HB.out | exact HB.out.drew); rintro e z1 ⟨rfl, y4⟩)
          | (go_at_call 83; with_reducible refine (QS.out _ ?hB).mono ?_; (case hB => first | exact y4 | exact y4.drew); rintro e z2 ⟨rfl, y5⟩)
          | (go_at_call 83; with_reducible refine (QV.out _ ?hB).mono ?_; (case hB => first | exact y5 | exact y5.drew); rintro e z3 ⟨rfl, y6⟩)))
        | fail
      have y7 := chainB B1.out y6
      go_wp2_with fail
      go_ret
      exact ⟨rfl, y7⟩
end Go.Proofs.YtnomkcbcjaagmabGreatDoor
