/-
  Parts of one proof, laid as one text: FldL, GrK, SpecGN, SpecGT, FldN; what each says stands at its head.
-/
import Derived.Test.YthfecjjahoflcaaGreatDoorRows
import Derived.Test.YthfecjjahoflcaaGreatDoorBytesDigMathTreeMath
import Derived.Test.YthfecjjahoflcaaGreatDoorSlASlBBxKOwnSTakesLTillTwo
import Derived.Test.YthfecjjahoflcaaGreatDoorAll2FldIsFldC
import Derived.Test.YthfecjjahoflcaaGreatDoorTimeBPutMathPutNum
import Derived.Test.YthfecjjahoflcaaGreatDoorJoinedPutTextFldMathFldGShwK
import Derived.Test.YthfecjjahoflcaaGreatDoorFldR
import Derived.Handy
import Derived.Laws.Concat
import Derived.WalkSpells
import Derived.OwnWalk
import Derived.Deep.RegionHeld3
import Derived.Deep.RegionWith
import Derived.Test.YthfecjjahoflcaaGreatDoorOneKFldBlkFldRiseScanMathGetValGetTxtNumMathFldRdNumFromTmbMath
import Derived.Deep.Cut
import Derived.Deep.CutRange
/-
  What the specification's l07Leaf and RowLeaf answer.
  Conditions: the cells of Fields hold the fields.
-/
namespace Go.Proofs.YthfecjjahoflcaaGreatDoor
open Go.RowKit Go.Lib
set_option linter.unusedVariables false
set_option maxRecDepth 20000

theorem putB_ten7 (n : Int) : (putB n).size ≤ 10 := by unfold putB; rw [strOfNums_size]; exact putI_len 9 _
theorem lfTo_drop (t : ByteArray) (fs : List Fld) (i : Nat) (h : i < fs.length) : lfTo t (fs.drop i) = lfTo (t ++ putTextB fs[i].n ++ putTextB fs[i].c) (fs.drop (i + 1)) := by
  rw [List.drop_eq_getElem_cons h]; rfl
set_option maxHeartbeats 4000000 in
theorem l07Leaf_any (k : ByteArray) (at_ : Int) (q : Option Addr) (c : Nat) (fs : List Fld) (w : World) (hf : FldAt w q fs) (hc : fs.length ≤ c) (hr : rwB k at_ fs = true) :
    Calls Tryz.prog 29 #[.agg #[.string k, .int .i64 at_, .slice q fs.length c]] w fun e w' => e = .returned (.string (one101 ++ digB (lfT k at_ fs))) ∧ Below w.heap.size w w' := by
  obtain ⟨r1, r2, r3, r4, r5⟩ := rwB_parts hr
  obtain ⟨hl1, hl3⟩ := r3
  have hk1 := nrB_le r1
  have HZ : Hid (∀ i (h : i < fs.length), fs[i].n.size ≤ 20 ∧ fs[i].c.size = 32) := fun i h => by
    obtain ⟨g1, g2, -⟩ := fdB_parts (r4 _ (List.getElem_mem h))
    exact ⟨(nrB_le g1).2, g2⟩
  clear r4 r5 hr r1
  obtain ⟨W1, hW1⟩ : ∃ W1, W1 = w.alloc (.cells #[.string k, .int .i64 at_, .slice q fs.length c] 40) := ⟨_, rfl⟩
  have HW1 : Hid (W1 = w.alloc (.cells #[.string k, .int .i64 at_, .slice q fs.length c] 40)) := hW1
  have B1 : Hid (Below w.heap.size w W1) := by rw [hW1]; exact (Below.refl _ _).alloc (Nat.le_refl _) _
  have K1 : Hid (Bxs W1 w.heap.size 40 #[.string k, .int .i64 at_, .slice q fs.length c]) := by rw [hW1]; exact Bxs.new _ _ _
  have HT : Hid (FldAt W1 q fs) := hf.below B1.out
  obtain ⟨b, off, rfl, hb0⟩ := HT.out.some_of (by omega)
  have HX : Hid (∀ x, Below W1.heap.size W1 x → x.cell? ⟨w.heap.size, 0, none⟩ = some (.string k) ∧ x.cell? ⟨w.heap.size, 1, none⟩ = some (.int .i64 at_) ∧ x.cell? ⟨w.heap.size, 2, none⟩ = some (.slice (some ⟨b, off, none⟩) fs.length c)) := fun x hb => ⟨(K1.out.below hb).cell 0, (K1.out.below hb).cell 1, (K1.out.below hb).cell 2⟩
  have BW : Hid (Below W1.heap.size W1 W1) := Below.refl _ _
  obtain ⟨x0, x1, x2⟩ := HX.out W1 BW.out
  have QK : Hid (∀ x, Below W1.heap.size W1 x → Calls Tryz.prog 60 #[.string k] x fun e w' => e = .returned (.string (putTextB k)) ∧ Below W1.heap.size W1 w') := fun x hb => (specPutText_any k x (by unfold maxLen; omega)).mono (by rintro e x1 ⟨rfl, b⟩; exact ⟨rfl, chainB hb b⟩)
  have QA : Hid (∀ x, Below W1.heap.size W1 x → Calls Tryz.prog 61 #[.int .i64 at_] x fun e w' => e = .returned (.string (putB at_)) ∧ Below W1.heap.size W1 w') := fun x hb => (specPutNum_any at_ x (by omega) (by omega)).mono (by rintro e x1 ⟨rfl, b⟩; exact ⟨rfl, chainB hb b⟩)
  have QL : Hid (∀ x, Below W1.heap.size W1 x → Calls Tryz.prog 61 #[.int .i64 (fs.length : Int)] x fun e w' => e = .returned (.string (putB (fs.length : Int))) ∧ Below W1.heap.size W1 w') := fun x hb => (specPutNum_any _ x (by omega) (by omega)).mono (by rintro e x1 ⟨rfl, b⟩; exact ⟨rfl, chainB hb b⟩)
  have QT : Hid (∀ i (h : i < fs.length) x, Below W1.heap.size W1 x → (Calls Tryz.prog 60 #[.string fs[i].n] x fun e w' => e = .returned (.string (putTextB fs[i].n)) ∧ Below W1.heap.size W1 w') ∧ (Calls Tryz.prog 60 #[.string fs[i].c] x fun e w' => e = .returned (.string (putTextB fs[i].c)) ∧ Below W1.heap.size W1 w')) := fun i h x hb => by
    have := HZ.out i h
    exact ⟨(specPutText_any _ x (by unfold maxLen; omega)).mono (by rintro e x1 ⟨rfl, b⟩; exact ⟨rfl, chainB hb b⟩), (specPutText_any _ x (by unfold maxLen; omega)).mono (by rintro e x1 ⟨rfl, b⟩; exact ⟨rfl, chainB hb b⟩)⟩
  have HD : Hid (∀ T : ByteArray, T.size ≤ 10000 → ∀ x, Below W1.heap.size W1 x → Calls Tryz.prog 62 #[.string T] x fun e w' => e = .returned (.string (digB T)) ∧ Below W1.heap.size W1 w') := fun T hT x hb => (specAll_any T x (by omega)).mono (by rintro e x1 ⟨rfl, b⟩; exact ⟨rfl, chainB hb b⟩)
  have HV : Hid (lfTo (putTextB k ++ putB at_ ++ putB (fs.length : Int)) fs = lfT k at_ fs) := rfl
  have t1 := putTextB_le k (by omega)
  have t2 := putB_ten7 at_
  have t3 := putB_ten7 (fs.length : Int)
  have t4 : (putTextB k ++ putB at_).size ≤ 40 := by rw [ByteArray.size_append]; omega
  have u1 : ∀ w, (Op.stringOp .add (putTextB k) (putB at_)).run Tryz.prog w = .ok (.string (putTextB k ++ putB at_)) w := fun w => run_string_add w _ _ (by omega) (by omega)
  have u2 : ∀ w, (Op.stringOp .add (putTextB k ++ putB at_) (putB (fs.length : Int))).run Tryz.prog w = .ok (.string (putTextB k ++ putB at_ ++ putB (fs.length : Int))) w := fun w => run_string_add w _ _ (by omega) (by omega)
  have HS : Hid ((putTextB k ++ putB at_ ++ putB (fs.length : Int)).size ≤ 50) := by show _ ≤ _; rw [ByteArray.size_append]; omega
  have HO : Hid (one101 = (⟨#[101]⟩ : ByteArray)) := rfl
  clear hW1 hf
  generalize putTextB k = A at *
  generalize putB at_ = B at *
  generalize putB (fs.length : Int) = C at *
  generalize lfT k at_ fs = L at *
  rw [HO.out]
  go_enter Tryz.func29, Tryz.ntmps29
  go_wp2_with fail
  rw [← HW1.out]
  first
    | (go_region_held3 (fun w' => w'.cell? ⟨w.heap.size, 0, none⟩ = some (.string k) ∧ w'.cell? ⟨w.heap.size, 1, none⟩ = some (.int .i64 at_) ∧ w'.cell? ⟨w.heap.size, 2, none⟩ = some (.slice (some ⟨b, off, none⟩) fs.length c)) ((refine HX.out _ ?hT; (case hT => (with_reducible repeat (first | assumption | exact BW.out | refine Below.drew ?_ | refine alB ?_ _))))) (first
      | (go_at_call 60; with_reducible refine (QK.out _ ?hB).mono ?_; (case hB => first | exact BW.out | exact BW.out.drew); rintro e v1 ⟨rfl, y1⟩)
      | (go_at_call 61; with_reducible refine (QA.out _ ?hB).mono ?_; (case hB => first | exact y1 | exact y1.drew); rintro e v2 ⟨rfl, y2⟩)
      | (go_at_call 61; with_reducible refine (QL.out _ ?hB).mono ?_; (case hB => first | exact y2 | exact y2.drew); rintro e v3 ⟨rfl, y3⟩)))
    | fail
  clear t1 t2 t3 t4 u1 u2 QK QA QL
  go_wp2_with fail
  go_loopw [4, 3] (fun i t wr => ∃ (k : Nat) (T : ByteArray), k ≤ fs.length ∧ i = .int .i64 k ∧ t = .string T ∧ T.size ≤ 50 + 100 * k ∧ Hid (lfTo T (fs.drop k) = L) ∧ Hid (Below W1.heap.size W1 wr)) (fun i _ _ => fs.length - (intOf i).toNat)
  case atStart => exact ⟨0, _, Nat.zero_le _, rfl, rfl, HS.out, HV.out, y3⟩
  case round =>
    obtain ⟨i, T, hi, rfl, rfl, hT, HL, HB⟩ := hrel
    obtain ⟨x0, x1, x2⟩ := HX.out wr HB.out
    by_cases hlt : i < fs.length
    · have i1 : (i : Int) < fs.length := by omega
      have HC : Hid (∀ x, Below W1.heap.size W1 x → x.cell? ⟨b, off + i * 5, none⟩ = some (.string fs[i].n) ∧ x.cell? ⟨b, off + i * 5 + 1, none⟩ = some (.string fs[i].c)) := fun x hx => ⟨((HT.out.below hx).at i hlt).1, ((HT.out.below hx).at i hlt).2.1⟩
      have HXr : Hid (∀ x, Below W1.heap.size W1 x → x.cell? ⟨w.heap.size, 2, none⟩ = some (.slice (some ⟨b, off, none⟩) fs.length c)) := fun x hx => (HX.out x hx).2.2
      have HY : Hid (∀ x, Below W1.heap.size W1 x → x.cell? ⟨w.heap.size, 2, none⟩ = some (.slice (some ⟨b, off, none⟩) fs.length c) ∧ x.cell? ⟨b, off + i * 5, none⟩ = some (.string fs[i].n) ∧ x.cell? ⟨b, off + i * 5 + 1, none⟩ = some (.string fs[i].c)) := fun x hx => ⟨HXr.out x hx, HC.out x hx⟩
      have hq := QT.out i hlt
      have QN : Hid (∀ x, Below W1.heap.size W1 x → Calls Tryz.prog 60 #[.string fs[i].n] x fun e w' => e = .returned (.string (putTextB fs[i].n)) ∧ Below W1.heap.size W1 w') := fun x hx => (hq x hx).1
      have QC : Hid (∀ x, Below W1.heap.size W1 x → Calls Tryz.prog 60 #[.string fs[i].c] x fun e w' => e = .returned (.string (putTextB fs[i].c)) ∧ Below W1.heap.size W1 w') := fun x hx => (hq x hx).2
      have hz := HZ.out i hlt
      have s1 := putTextB_le fs[i].n (by omega)
      have s2 := putTextB_le fs[i].c (by omega)
      have HL2 : Hid (lfTo (T ++ putTextB fs[i].n ++ putTextB fs[i].c) (fs.drop (i + 1)) = L) := by show _ = _; rw [← lfTo_drop T fs i hlt]; exact HL.out
      obtain ⟨c0, c1⟩ := HC.out wr HB.out
      have s3 : (T ++ putTextB fs[i].n).size ≤ 1000 := by rw [ByteArray.size_append]; omega
      have u3 : ∀ w, (Op.stringOp .add T (putTextB fs[i].n)).run Tryz.prog w = .ok (.string (T ++ putTextB fs[i].n)) w := fun w => run_string_add w _ _ (by omega) (by omega)
      have u4 : ∀ w, (Op.stringOp .add (T ++ putTextB fs[i].n) (putTextB fs[i].c)).run Tryz.prog w = .ok (.string (T ++ putTextB fs[i].n ++ putTextB fs[i].c)) w := fun w => run_string_add w _ _ (by omega) (by omega)
      have HS2 : Hid ((T ++ putTextB fs[i].n ++ putTextB fs[i].c).size ≤ 50 + 100 * (i + 1)) := by show _ ≤ _; rw [ByteArray.size_append, ByteArray.size_append]; omega
      generalize putTextB fs[i].n = D at *
      generalize putTextB fs[i].c = E at *
      generalize fs[i].n = fn at *
      generalize fs[i].c = fc at *
      clear hz HL hq s1 s2 s3
      go_upto_region 5 with fail
      first
        | (go_region_held3 (fun w' => w'.cell? ⟨w.heap.size, 2, none⟩ = some (.slice (some ⟨b, off, none⟩) fs.length c) ∧ w'.cell? ⟨b, off + i * 5, none⟩ = some (.string fn) ∧ w'.cell? ⟨b, off + i * 5 + 1, none⟩ = some (.string fc)) ((refine HY.out _ ?hT; (case hT => (with_reducible repeat (first | assumption | exact HB.out | refine Below.drew ?_ | refine alB ?_ _))))) (first
          | (go_at_call 60; with_reducible refine (QN.out _ ?hB).mono ?_; (case hB => first | exact HB.out | exact HB.out.drew); rintro e z1 ⟨rfl, y4⟩)
          | (go_at_call 60; with_reducible refine (QC.out _ ?hB).mono ?_; (case hB => first | exact y4 | exact y4.drew); rintro e z2 ⟨rfl, y5⟩)))
        | fail
      go_wp2_with fail
      go_roundw
      case rel => exact ⟨i + 1, _, by omega, by go_num, rfl, HS2.out, HL2, y5⟩
      case measure => simp [intOf]; omega
    · obtain rfl : i = fs.length := by omega
      have HL2 : Hid (T = L) := by
        have h := HL.out
        rw [List.drop_eq_nil_of_le (Nat.le_refl _)] at h
        exact h
      obtain rfl := HL2.out
      have hD := HD.out T (by omega) wr HB.out
      have hds : (digB T).size = 32 := digB_size T
      have hz : ((⟨#[101]⟩ : ByteArray) ++ digB T).size = 33 := by rw [ByteArray.size_append, hds]; rfl
      clear HL
      go_wp2_with fail
      refine hD.mono ?_
      rintro e w5 ⟨rfl, b5⟩
      have b5 := chainB B1.out b5
      go_wp2_with fail
      go_ret
      exact ⟨rfl, b5⟩
end Go.Proofs.YthfecjjahoflcaaGreatDoor
/-
  A world that has grown, one block turned: steps of it.
-/
namespace Go.Proofs.YthfecjjahoflcaaGreatDoor
open Go.RowKit Go.Lib
set_option linter.unusedVariables false

theorem grown_below {w x : World} {P : Nat} (h : Below w.heap.size w x) : w.grownBy x (some P) := ⟨h.os, h.tape, h.output, h.size, fun g hg _ => h.block g hg⟩
theorem grown_set {w x : World} {P : Nat} (h : w.grownBy x (some P)) (i : Nat) (v : Value) : w.grownBy (x.setCell ⟨P, i, none⟩ v) (some P) := by
  refine ⟨h.os, h.tape, h.output, ?_, fun g hg hne => ?_⟩
  · have := h.size
    simpa [World.setCell] using this
  · have hne' : P ≠ g := fun e => hne (by rw [e])
    rw [show (x.setCell ⟨P, i, none⟩ v).heap[g]? = x.heap[g]? by simp [World.setCell, Array.getElem?_modify, hne']]
    exact h.block g hg hne
theorem grown_trans {a b c : World} {P : Nat} (h : a.grownBy b (some P)) (k : b.grownBy c (some P)) : a.grownBy c (some P) :=
  ⟨k.os.trans h.os, k.tape.trans h.tape, k.output.trans h.output, Nat.le_trans h.size k.size, fun g hg hne => (k.block g (Nat.lt_of_lt_of_le hg h.size) hne).trans (h.block g hg hne)⟩
theorem grown_drew {a b : World} {P : Nat} (h : a.grownBy b (some P)) : a.grownBy b.drew (some P) := ⟨h.os, h.tape, h.output, h.size, h.block⟩
/-- Behind a growth that turns a block of one's own all below is as it was. -/
theorem below_turned {B : Nat} {a x y : World} {P : Nat} (h : Below B a x) (k : x.grownBy y (some P)) (hx : B ≤ x.heap.size) (hP : B ≤ P) : Below B a y :=
  h.grown k hx (fun j hj => by have := hj; simp at this; omega)
end Go.Proofs.YthfecjjahoflcaaGreatDoor
/-
  What the specification's GetNum answers: 'getN' of the text and the place, in new memory.
  Conditions: the string fits the form's own reach; the place is an int64.
-/
namespace Go.Proofs.YthfecjjahoflcaaGreatDoor
open Go.RowKit
set_option linter.unusedVariables false

set_option maxRecDepth 20000 in
set_option maxHeartbeats 2000000 in
theorem specGetNum_any (s : ByteArray) (at0 : Int) (w : World) (hs : s.size ≤ maxLen) (h1 : at0 ≤ 9223372036854775807) :
    Calls Tryz.prog 111 #[.string s, .int .i64 at0] w fun e w' => e = .returned (getV s at0) ∧ Below w.heap.size w w' := by
  unfold maxLen at hs
  by_cases hb : 8000 < s.size
  · have H : Hid (getV s at0 = numOut 0 0 2) := getV_size hb
    go_enter Tryz.func111, Tryz.ntmps111
    go_wp2
    go_returns
    exact ⟨ret_valN (H.out.trans rfl).symm, (Below.refl _ _).alloc (Nat.le_refl _) _⟩
  by_cases h0 : at0 < 0
  · have H : Hid (getV s at0 = numOut 0 0 1) := getV_form hb h0
    go_enter Tryz.func111, Tryz.ntmps111
    go_wp2
    go_returns
    exact ⟨ret_valN (H.out.trans rfl).symm, (Below.refl _ _).alloc (Nat.le_refl _) _⟩
  obtain ⟨a, ha⟩ : ∃ a : Nat, at0 = a := ⟨at0.toNat, by omega⟩
  subst ha
  have d1 : decide (8000 < (s.size : Int)) = false := by simp; omega
  have d2 : decide ((a : Int) < 0) = false := by simp
  have HB : Hid (¬ 8000 < s.size) := hb
  go_enter Tryz.func111, Tryz.ntmps111
  go_wp2
  go_loop [5, 6] (fun x i => ∃ (k : Nat) (u : Int), i = .int .i64 k ∧ x = .int .u64 u ∧ Hid (GetTo s a k u)) (fun _ i => 10 - (intOf i).toNat)
  case atStart => exact ⟨0, 0, rfl, rfl, getTo_start s a⟩
  case round =>
    obtain ⟨k, u, rfl, rfl, HT⟩ := hrel
    have hk : k ≤ 9 := HT.out.1
    have hu0 : 0 ≤ u := HT.out.2.1
    have hu1 : Hid (u < 2 ^ (7 * k)) := HT.out.2.2.1
    by_cases hl : s.size ≤ a + k
    · have H : Hid (getV s (a : Int) = numOut 0 0 4) := getV_bad HB.out (by decide) (getTo_short HT.out hl)
      go_wp2
      go_returns
      exact ⟨ret_valN (H.out.trans rfl).symm, (Below.refl _ _).alloc (Nat.le_refl _) _⟩
    have hak : a + k < s.size := by omega
    have hcb : (s[a + k].toNat : Int) ≤ 255 := by have := s[a + k].toNat_lt; omega
    by_cases hbig : k = 9 ∧ 1 < (s[a + k].toNat : Int)
    · have H : Hid (getV s (a : Int) = numOut 0 0 3) := getV_bad HB.out (by decide) (getTo_big HT.out hak hbig.1 hbig.2)
      have k9 : ((k : Int) == 9) = true := by simp; omega
      obtain ⟨e9, hc1⟩ := hbig
      clear e9
      go_wp2
      go_returns
      exact ⟨ret_valN (H.out.trans rfl).symm, (Below.refl _ _).alloc (Nat.le_refl _) _⟩
    by_cases hc : 128 ≤ (s[a + k].toNat : Int)
    · have hk8 : k ≤ 8 := by omega
      have k9 : ((k : Int) == 9) = false := by simp; omega
      have HM : Hid (GetTo s a (k + 1) (u + ((s[a + k].toNat : Int) - 128) * 2 ^ (7 * k))) := getTo_more HT.out hak hk8 hc
      have HA : Hid (IntKind.u64.wrap (u + IntKind.u64.wrap ((s[a + k].toNat : Int) % 128 * 2 ^ (7 * k))) = u + ((s[a + k].toNat : Int) - 128) * 2 ^ (7 * k)) := by
        show _ = _
        rw [spec_add hk hu0 hu1.out (by omega) (by omega) (by omega), show (s[a + k].toNat : Int) % 128 = (s[a + k].toNat : Int) - 128 by omega]
      clear hbig hb
      go_wp2
      go_round
      case rel => exact ⟨k + 1, _, by go_num, by rw [HA.out], HM⟩
      case measure => simp [intOf]; omega
    · have h9 : k = 9 → (s[a + k].toNat : Int) ≤ 1 := fun e => by omega
      obtain ⟨v, hv⟩ : ∃ v, v = u + (s[a + k].toNat : Int) * 2 ^ (7 * k) := ⟨_, rfl⟩
      have hvb := add_fits (x := (s[a + k].toNat : Int)) hk hu0 hu1.out (by omega) (by omega) h9
      have hA : IntKind.u64.wrap (u + IntKind.u64.wrap ((s[a + k].toNat : Int) % 128 * 2 ^ (7 * k))) = v := by
        rw [show (s[a + k].toNat : Int) % 128 = (s[a + k].toNat : Int) by omega, spec_add hk hu0 hu1.out (by omega) (by omega) h9, hv]
      have v0 : 0 ≤ v := by omega
      have v1 : v ≤ 18446744073709551615 := by omega
      have HV : Hid (v = u + (s[a + k].toNat : Int) * 2 ^ (7 * k)) := hv
      have H9 : Hid (k = 9 → (s[a + k].toNat : Int) ≤ 1) := h9
      clear hv hvb hbig hb h9
      by_cases hz : (s[a + k].toNat : Int) = 0 ∧ 0 < k
      · have H : Hid (getV s (a : Int) = numOut 0 0 3) := getV_bad HB.out (by decide) (getTo_zero HT.out hak hz.1 hz.2)
        have c0 : ((s[a + k].toNat : Int) == 0) = true := by simp; omega
        have hkp : 0 < k := hz.2
        have c1 : (s[a + k].toNat : Int) ≤ 0 := by omega
        clear hz
        cases k9 : ((k : Int) == 9)
        · go_wp2
          go_returns
          exact ⟨ret_valN (H.out.trans rfl).symm, (Below.refl _ _).alloc (Nat.le_refl _) _⟩
        · go_wp2
          go_returns
          exact ⟨ret_valN (H.out.trans rfl).symm, (Below.refl _ _).alloc (Nat.le_refl _) _⟩
      · have H : Hid (getV s (a : Int) = numOut (unfoldN v) ((a : Int) + (k : Int) + 1) 0) := by
          show _ = _
          rw [getV_ok HB.out (getTo_ok HT.out hak (by omega) H9.out (fun hp hc0 => hz ⟨hc0, hp⟩)), ← HV.out]
          congr 1
        have h9i : ((k : Int) == 9) = true → (s[a + k].toNat : Int) ≤ 1 := fun e => H9.out (by simp at e; omega)
        have hzi : ((s[a + k].toNat : Int) == 0) = true → (k : Int) ≤ 0 := fun e => by simp at e; omega
        have H9i : Hid (((k : Int) == 9) = true → (s[a + k].toNat : Int) ≤ 1) := h9i
        have Hzi : Hid (((s[a + k].toNat : Int) == 0) = true → (k : Int) ≤ 0) := hzi
        clear hz h9i hzi
        cases hp : (v % 2 == 1)
        · have HU : Hid (unfoldN v = v / 2) := if_neg (by simp at hp; omega)
          cases k9 : ((k : Int) == 9)
          · cases c0 : ((s[a + k].toNat : Int) == 0)
            · go_wp2
              go_returns
              exact ⟨ret_valN (by rw [H.out, HU.out]; rfl), (Below.refl _ _).alloc (Nat.le_refl _) _⟩
            · have hk0 := Hzi.out c0
              go_wp2
              go_returns
              exact ⟨ret_valN (by rw [H.out, HU.out]; rfl), (Below.refl _ _).alloc (Nat.le_refl _) _⟩
          · have hc1 := H9i.out k9
            cases c0 : ((s[a + k].toNat : Int) == 0)
            · go_wp2
              go_returns
              exact ⟨ret_valN (by rw [H.out, HU.out]; rfl), (Below.refl _ _).alloc (Nat.le_refl _) _⟩
            · have hk0 := Hzi.out c0
              exfalso
              simp at k9; omega
        · have HU : Hid (unfoldN v = -(v / 2) - 1) := if_pos (by simpa using hp)
          cases k9 : ((k : Int) == 9)
          · cases c0 : ((s[a + k].toNat : Int) == 0)
            · go_wp2
              go_returns
              exact ⟨ret_valN (by rw [H.out, HU.out]; rfl), (Below.refl _ _).alloc (Nat.le_refl _) _⟩
            · have hk0 := Hzi.out c0
              go_wp2
              go_returns
              exact ⟨ret_valN (by rw [H.out, HU.out]; rfl), (Below.refl _ _).alloc (Nat.le_refl _) _⟩
          · have hc1 := H9i.out k9
            cases c0 : ((s[a + k].toNat : Int) == 0)
            · go_wp2
              go_returns
              exact ⟨ret_valN (by rw [H.out, HU.out]; rfl), (Below.refl _ _).alloc (Nat.le_refl _) _⟩
            · have hk0 := Hzi.out c0
              exfalso
              simp at k9; omega
end Go.Proofs.YthfecjjahoflcaaGreatDoor
/-
  What the specification's GetText answers: 'getTV' of the text and the place, in new memory.
  Conditions: the string fits the form's own reach; the place is an int64.
-/
namespace Go.Proofs.YthfecjjahoflcaaGreatDoor
open Go.RowKit Go.Extern.Stop Go.Stop Go.Extern
set_option linter.unusedVariables false

end Go.Proofs.YthfecjjahoflcaaGreatDoor
/-
  What the specification's reader of numbers and texts answers: num, text, many.
  Conditions: the reader's box holds the text, the place and the flag.
-/
namespace Go.Proofs.YthfecjjahoflcaaGreatDoor
open Go.RowKit Go.Lib
set_option linter.unusedVariables false
set_option maxRecDepth 20000

set_option maxHeartbeats 4000000 in
theorem rdNum_any (P : Nat) (t : ByteArray) (a : Int) (bd : Bool) (w : World) (hp : Bxs w P 136 #[.string t, .int .i64 a, .bool bd]) (ht : t.size ≤ 8000) (a1 : a ≤ 9223372036854775807) :
    Calls Tryz.prog 96 #[.pointer (some ⟨P, 0, none⟩)] w fun e w' => e = .returned (.int .i64 (rnN t a bd)) ∧ Bxs w' P 136 #[.string t, .int .i64 (rnA t a bd), .bool (rnB t a bd)] ∧ w.grownBy w' (some P) := by
  have HP : Hid (Bxs w P 136 #[.string t, .int .i64 a, .bool bd]) := hp
  have HPl : Hid (P < w.heap.size) := hp.lt
  obtain ⟨n, b, c, hg⟩ : ∃ (n : Int) (b c : Int), getN t a = (n, b, c) := ⟨_, _, _, rfl⟩
  have HB : Hid (rnB t a bd = (bd || (c != 0))) := by show (_ || _) = _; rw [hg]
  have HN : Hid (rnN t a bd = if (bd || (c != 0)) = true then 0 else n) := by show (if _ then _ else _) = _; rw [HB.out, hg]
  have HA : Hid (rnA t a bd = if (bd || (c != 0)) = true then a else b) := by show (if _ then _ else _) = _; rw [HB.out, hg]
  have HG : Hid (∀ x, Calls Tryz.prog 111 #[.string t, .int .i64 a] x fun e w' => e = .returned (.agg #[.int .i64 n, .int .i64 b, .int .i64 c]) ∧ Below x.heap.size x w') := fun x => by
    have h := specGetNum_any t a x (by unfold maxLen; omega) a1
    unfold getV numOut at h
    rw [hg] at h; exact h
  clear hg hp
  have BR : Hid (Below w.heap.size w w.drew) := (Below.refl _ _).drew
  have HY : Hid (∀ x, Below w.heap.size w x → x.cell? ⟨P, 0, none⟩ = some (.string t) ∧ x.cell? ⟨P, 1, none⟩ = some (.int .i64 a)) := fun x hx => ⟨(HP.out.below hx).cell 0, (HP.out.below hx).cell 1⟩
  have HEa : Hid (∀ y, Below w.heap.size w y → Bxs (y.alloc (.cells #[.int .i64 n, .int .i64 b, .int .i64 c] 155)) y.heap.size 155 #[.int .i64 n, .int .i64 b, .int .i64 c] ∧ Below w.heap.size w (y.alloc (.cells #[.int .i64 n, .int .i64 b, .int .i64 c] 155)) ∧ y.heap.size ≠ P) := fun y hy => ⟨Bxs.new _ _ _, alB hy _, by have := hy.size; have := HPl.out; omega⟩
  have HEb : Hid (∀ y, Below (w.alloc (.cells #[.int .i64 0, .int .i64 0, .int .i64 0] 155)).heap.size (w.alloc (.cells #[.int .i64 0, .int .i64 0, .int .i64 0] 155)) y → Below w.heap.size w y ∧ Bxs y w.heap.size 155 #[.int .i64 0, .int .i64 0, .int .i64 0]) := fun y hy => ⟨((Below.refl _ _).alloc (Nat.le_refl _) _).trans (hy.mono (by rw [szA]; omega)), (Bxs.new _ _ _).below hy⟩
  have HEc : Hid (∀ y, Below w.heap.size w y → Bxs y w.heap.size 155 #[.int .i64 0, .int .i64 0, .int .i64 0] → Bxs (((y.setCell ⟨w.heap.size, 0, none⟩ (.int .i64 n)).setCell ⟨w.heap.size, 1, none⟩ (.int .i64 b)).setCell ⟨w.heap.size, 2, none⟩ (.int .i64 c)) w.heap.size 155 #[.int .i64 n, .int .i64 b, .int .i64 c] ∧ Below w.heap.size w (((y.setCell ⟨w.heap.size, 0, none⟩ (.int .i64 n)).setCell ⟨w.heap.size, 1, none⟩ (.int .i64 b)).setCell ⟨w.heap.size, 2, none⟩ (.int .i64 c)) ∧ w.heap.size ≠ P) := fun y hy hk => ⟨((hk.set 0 _).set 1 _).set 2 _, below_set3 hy (Nat.le_refl _) _ _ _, by have := HPl.out; omega⟩
  go_enter Tryz.func96, Tryz.ntmps96
  go_upto_region 1 with fail
  go_cut [3] from 4 to 12 (fun s3 wx => ∃ N, s3 = .pointer (some ⟨N, 0, none⟩) ∧ Hid (Bxs wx N 155 #[.int .i64 n, .int .i64 b, .int .i64 c] ∧ Below w.heap.size w wx ∧ N ≠ P))
  case first =>
    refine region_till (fun w' => w'.cell? ⟨P, 0, none⟩ = some (.string t) ∧ w'.cell? ⟨P, 1, none⟩ = some (.int .i64 a)) 10 (by kernel_rfl) (HY.out _ BR.out) (fun hHeld => ?_)
    refine till_take 0 (v := ?_) rfl (by kernel_rfl) (by kernel_rfl) (by kernel_rfl) (by kernel_rfl) (fun _ _ _ h => h) hHeld (Or.inl ⟨by rfl, ?_⟩) ?_
    rotate_left
    · (intro w hSw; (try dsimp only at hSw); go_simp; try with_reducible rfl)
    simp only [Act.put, List.setIfInBounds_toArray, List.set_cons_zero, List.set_cons_succ]
    refine till_take 1 (v := ?_) rfl (by kernel_rfl) (by kernel_rfl) (by kernel_rfl) (by kernel_rfl) (fun _ _ _ h => h) hHeld (Or.inl ⟨by rfl, ?_⟩) ?_
    rotate_left
    · (intro w hSw; (try dsimp only at hSw); go_simp; try with_reducible rfl)
    simp only [Act.put, List.setIfInBounds_toArray, List.set_cons_zero, List.set_cons_succ]
    refine till_take 2 (v := ?_) rfl (by kernel_rfl) (by kernel_rfl) (by kernel_rfl) (by kernel_rfl) (fun _ _ _ h => h) hHeld (Or.inl ⟨by rfl, ?_⟩) ?_
    rotate_left
    · (intro w hSw; (try dsimp only at hSw); go_simp; try with_reducible rfl)
    simp only [Act.put, List.setIfInBounds_toArray, List.set_cons_zero, List.set_cons_succ]
    refine till_take 3 (v := ?_) rfl (by kernel_rfl) (by kernel_rfl) (by kernel_rfl) (by kernel_rfl) (fun _ _ _ h => h) hHeld (Or.inl ⟨by rfl, ?_⟩) ?_
    rotate_left
    · (intro w hSw; (try dsimp only at hSw); go_simp; try with_reducible rfl)
    simp only [Act.put, List.setIfInBounds_toArray, List.set_cons_zero, List.set_cons_succ]
    refine till_take 4 (v := ?_) rfl (by kernel_rfl) (by kernel_rfl) (by kernel_rfl) (by kernel_rfl) (fun _ _ _ h => h) hHeld (Or.inl ⟨by rfl, ?_⟩) ?_
    rotate_left
    · (intro w hSw; (try dsimp only at hSw); go_simp; try with_reducible rfl)
    simp only [Act.put, List.setIfInBounds_toArray, List.set_cons_zero, List.set_cons_succ]
    refine till_take 5 (v := ?_) rfl (by kernel_rfl) (by kernel_rfl) (by kernel_rfl) (by kernel_rfl) (fun _ _ _ h => h) hHeld (Or.inl ⟨by rfl, ?_⟩) ?_
    rotate_left
    · (intro w hSw; (try dsimp only at hSw); go_simp; try with_reducible rfl)
    simp only [Act.put, List.setIfInBounds_toArray, List.set_cons_zero, List.set_cons_succ]
    refine till_take 6 (v := ?_) rfl (by kernel_rfl) (by kernel_rfl) (by kernel_rfl) (by kernel_rfl) (fun _ _ _ h => h) hHeld (Or.inl ⟨by rfl, ?_⟩) ?_
    rotate_left
    · (intro w hSw; (try dsimp only at hSw); go_simp; try with_reducible rfl)
    simp only [Act.put, List.setIfInBounds_toArray, List.set_cons_zero, List.set_cons_succ]
    refine till_take 7 (v := ?_) rfl (by kernel_rfl) (by kernel_rfl) (by kernel_rfl) (by kernel_rfl) (fun _ _ _ h => h) hHeld (Or.inl ⟨by rfl, ?_⟩) ?_
    rotate_left
    · (intro w hSw; (try dsimp only at hSw); go_simp; try with_reducible rfl)
    simp only [Act.put, List.setIfInBounds_toArray, List.set_cons_zero, List.set_cons_succ]
    refine till_ready2 8 9 rfl rfl (by kernel_rfl) (fun K hK => ?_) (fun K hK => ?_)
    · go_simp
      (go_at_call 111; with_reducible refine (HG.out _).mono ?_; rintro e y ⟨rfl, z0⟩)
      have z1 : Below w.heap.size w y := chainB BR.out z0
      refine hK.out _ _ (HY.out _ z1) (fun hHeld => ?_)
      clear hK K
      try simp only [Act.put, List.setIfInBounds_toArray, List.set_cons_zero, List.set_cons_succ]
      refine till_ready 9 rfl (by kernel_rfl) (fun K hK => ?_)
      go_simp
      refine hK.out _ _ (HY.out _ (alB z1 _)) (fun hHeld => ?_)
      clear hK K
      try simp only [Act.put, List.setIfInBounds_toArray, List.set_cons_zero, List.set_cons_succ]
      refine till_last rfl (by kernel_rfl) (by kernel_rfl) (fun K hK => ?_)
      go_simp
      refine hK.out _ _ ?_
      clear hK K
      have HE : Hid _ := HEa.out y z1
      clear z0 z1 hHeld
      go_wp2_with fail
      go_meet
      exact ⟨_, rfl, HE⟩
    · go_simp
      refine hK.out _ _ (HY.out _ (alB BR.out _)) (fun hHeld => ?_)
      clear hK K
      try simp only [Act.put, List.setIfInBounds_toArray, List.set_cons_zero, List.set_cons_succ]
      refine till_ready 8 rfl (by kernel_rfl) (fun K hK => ?_)
      go_simp
      (go_at_call 111; with_reducible refine (HG.out _).mono ?_; rintro e y ⟨rfl, z0⟩)
      obtain ⟨z1, kb⟩ := HEb.out y (by first | exact z0 | exact chainB ((Below.refl _ _).drew) z0)
      refine hK.out _ _ (HY.out _ z1) (fun hHeld => ?_)
      clear hK K
      try simp only [Act.put, List.setIfInBounds_toArray, List.set_cons_zero, List.set_cons_succ]
      obtain ⟨k0, k1, k2⟩ : y.cell? ⟨w.heap.size, 0, none⟩ = some (.int .i64 0) ∧ y.cell? ⟨w.heap.size, 1, none⟩ = some (.int .i64 0) ∧ y.cell? ⟨w.heap.size, 2, none⟩ = some (.int .i64 0) := ⟨kb.cell 0, kb.cell 1, kb.cell 2⟩
      have g0 := kb.fr 0
      have g1 := kb.fr 1
      have g2 := kb.fr 2
      refine till_last rfl (by kernel_rfl) (by kernel_rfl) (fun K hK => ?_)
      go_simp
      refine hK.out _ _ ?_
      clear hK K
      have HE : Hid _ := HEc.out y z1 kb
      clear z0 z1 hHeld k0 k1 k2 g0 g1 g2 kb
      go_wp2_with fail
      go_meet
      exact ⟨_, rfl, HE⟩
  case rest =>
  obtain ⟨N, rfl, hE⟩ := hcut
  obtain ⟨p0, p1, p2⟩ : wc.cell? ⟨P, 0, none⟩ = some (.string t) ∧ wc.cell? ⟨P, 1, none⟩ = some (.int .i64 a) ∧ wc.cell? ⟨P, 2, none⟩ = some (.bool bd) := ⟨(HP.out.below hE.out.2.1).cell 0, (HP.out.below hE.out.2.1).cell 1, (HP.out.below hE.out.2.1).cell 2⟩
  have f1 := (HP.out.below hE.out.2.1).fr 1
  have f2 := (HP.out.below hE.out.2.1).fr 2
  obtain ⟨k0, k1, k2⟩ : wc.cell? ⟨N, 0, none⟩ = some (.int .i64 n) ∧ wc.cell? ⟨N, 1, none⟩ = some (.int .i64 b) ∧ wc.cell? ⟨N, 2, none⟩ = some (.int .i64 c) := ⟨hE.out.1.cell 0, hE.out.1.cell 1, hE.out.1.cell 2⟩
  have hNP : ¬ N = P := hE.out.2.2
  have hPN : ¬ P = N := fun h => hNP h.symm
  have HF1 : Hid (∀ v, Bxs (wc.setCell ⟨P, 1, none⟩ v) P 136 #[.string t, v, .bool bd] ∧ w.grownBy (wc.setCell ⟨P, 1, none⟩ v) (some P)) := fun v => ⟨(HP.out.below hE.out.2.1).set 1 v, grown_set (grown_below hE.out.2.1) 1 v⟩
  have HF2 : Hid (∀ v, Bxs (wc.setCell ⟨P, 2, none⟩ v) P 136 #[.string t, .int .i64 a, v] ∧ w.grownBy (wc.setCell ⟨P, 2, none⟩ v) (some P)) := fun v => ⟨(HP.out.below hE.out.2.1).set 2 v, grown_set (grown_below hE.out.2.1) 2 v⟩
  clear hE HEa HEb HEc HG HY BR
  cases bd with
  | true =>
    go_wp2_with fail
    go_ret
    rw [HN.out, HA.out, HB.out, Bool.true_or, if_pos rfl, if_pos rfl]
    exact ⟨rfl, HF2.out _⟩
  | false =>
  by_cases hc : c = 0
  · have c0 : (c != 0) = false := by simpa using hc
    clear hc
    go_wp2_with fail
    go_ret
    rw [HN.out, HA.out, HB.out, c0, Bool.false_or, if_neg Bool.false_ne_true, if_neg Bool.false_ne_true]
    exact ⟨rfl, HF1.out _⟩
  · have c0 : (c != 0) = true := by simpa using hc
    go_wp2_with fail
    go_ret
    rw [HN.out, HA.out, HB.out, c0, Bool.false_or, if_pos rfl, if_pos rfl]
    exact ⟨rfl, HF2.out _⟩
end Go.Proofs.YthfecjjahoflcaaGreatDoor
