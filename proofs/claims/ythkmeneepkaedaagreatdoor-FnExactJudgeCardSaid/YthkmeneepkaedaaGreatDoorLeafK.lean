/-
  What LeafKind answers, the specification's and the program's (with isRowLeaf and strings.HasPrefix on its road).
  Conditions: the text fits the form's own reach; for the program's: the variable errors.errorType holds the handle of the type error.
-/
import Derived.Test.YthkmeneepkaedaaGreatDoorRows
import Derived.Test.YthkmeneepkaedaaGreatDoorBytesDigMath
import Derived.Test.YthkmeneepkaedaaGreatDoorTreeMathSlASlBBxKOwnS
import Derived.Test.YthkmeneepkaedaaGreatDoorAsDAs2CodeOfRngXScopesReadBits
import Derived.Test.YthkmeneepkaedaaGreatDoorGetValGetTxtNumMathFldRdNumFromTmbMathLgMath
import Derived.Test.YthkmeneepkaedaaGreatDoorFldTrDigAllImplFCBlNot
import Derived.Test.YthkmeneepkaedaaGreatDoorImplTr
import Derived.Handy
import Derived.WalkSpells
import Derived.OwnWalk
import Derived.Deep.Cut
namespace Go.Proofs.YthkmeneepkaedaaGreatDoor
open Go.RowKit Go.Lib
set_option linter.unusedVariables false
set_option maxRecDepth 20000

theorem pre_e (t : ByteArray) (h : 0 < t.size) : ((t.extract 0 1).toList == [101]) = decide (t.data.toList.head? = some 101) := by
  rw [show ([101] : List UInt8) = ByteArray.toList ⟨#[101]⟩ from by rw [ByteArray.toList_eq], ba_beq]
  have e : (t.extract 0 1).data.toList = [t[0]'h] := by
    rw [ByteArray.data_extract, Array.toList_extract, List.extract_eq_take_drop]
    have := List.drop_eq_getElem_cons (l := t.data.toList) (i := 0) (by simpa using h)
    simp only [List.drop_zero, Nat.sub_zero] at this ⊢
    rw [this]
    rfl
  have e2 : t.data.toList.head? = some (t[0]'h) := by
    rw [List.head?_eq_getElem?]
    exact List.getElem?_eq_getElem (by simpa using h)
  rw [e2]
  by_cases hb : (t[0]'h) = 101
  · rw [hb] at e ⊢
    rw [decide_eq_true rfl, decide_eq_true]
    apply ByteArray.ext; apply Array.ext'
    rw [e]
  · rw [decide_eq_false (fun q => hb (Option.some.inj q)), decide_eq_false]
    intro q
    rw [q] at e
    injection e with e1
    exact hb e1.symm
set_option maxHeartbeats 1000000 in
theorem litePre_any (t : ByteArray) (w : World) (h : 0 < t.size) (ht : t.size ≤ 100) : Calls Tryz.prog 171 #[.string t, .string ⟨#[101]⟩] w fun e w' => e = .returned (.bool (decide (t.data.toList.head? = some 101))) ∧ w' = w := by
  rw [← pre_e t h]
  have hsl : ∀ wx, (Instr.slice 9 (.string t) none (some (.int .i64 1)) none).run Tryz.prog wx = .ok (.string (t.extract 0 1)) wx := fun wx => by
    rw [run_slice_string_h (P := Tryz.prog) wx 9 t Tryz.underlying9 .i64 1 (by omega) (by omega)]
    rfl
  generalize t.extract 0 1 = X at *
  have d1 : decide ((1 : Int) ≤ (t.size : Int)) = true := decide_eq_true (by omega)
  go_enter Tryz.func171, Tryz.ntmps171
  go_wp2_with fail
  go_ret
  exact ⟨rfl, rfl⟩
theorem strPre_any (t : ByteArray) (w : World) (h : 0 < t.size) (ht : t.size ≤ 100) : Calls Tryz.prog 157 #[.string t, .string ⟨#[101]⟩] w fun e w' => e = .returned (.bool (decide (t.data.toList.head? = some 101))) ∧ w' = w := by
  have hl := litePre_any t w h ht
  generalize decide (t.data.toList.head? = some 101) = D at *
  go_enter Tryz.func157, Tryz.ntmps157
  go_wp2_with fail
  refine hl.mono ?_
  rintro e w1 ⟨rfl, rfl⟩
  go_wp2_with fail
  go_ret
  exact ⟨rfl, rfl⟩
theorem isRowLeaf_any (t : ByteArray) (w : World) : Calls Tryz.prog 139 #[.string t] w fun e w' => e = .returned (.bool (isRl t)) ∧ w' = w := by
  by_cases h : t.size = 33
  · have hs := strPre_any t w (by omega) (by omega)
    have HI : Hid (isRl t = decide (t.data.toList.head? = some 101)) := by show _ = _; unfold isRl; rw [decide_eq_true h]; rfl
    rw [HI.out]
    generalize decide (t.data.toList.head? = some 101) = D at *
    have q : (((t.size : Nat) : Int) == 33) = true := by simp; omega
    have H : Hid (t.size = 33) := h
    clear h
    go_enter Tryz.func139, Tryz.ntmps139
    go_wp2_with fail
    refine hs.mono ?_
    rintro e w1 ⟨rfl, rfl⟩
    go_wp2_with fail
    go_ret
    exact ⟨rfl, rfl⟩
  · have HI : Hid (isRl t = false) := by show _ = _; unfold isRl; rw [decide_eq_false h]; rfl
    rw [HI.out]
    have q : (((t.size : Nat) : Int) == 33) = false := by simp; omega
    clear h
    go_enter Tryz.func139, Tryz.ntmps139
    go_wp2_with fail
    go_ret
    exact ⟨rfl, rfl⟩
theorem field_c5 (a b c d e : Int) (x : World) : (Instr.field 97 (.agg #[.int .i64 a, .int .i64 b, .int .i64 c, .int .i64 d, .int .i64 e]) 1).run Tryz.prog x = .ok (.int .i64 e) x := by kernel_rfl
set_option maxHeartbeats 1000000 in
theorem implLeafKind_any (t : ByteArray) (w : World) (ht : t.size ≤ maxLen) (hg : Laid w) : Calls Tryz.prog 113 #[.string t] w fun e w' => e = .returned (.int .i64 (lkB t)) ∧ Below w.heap.size w w' := by
  have hr := isRowLeaf_any t w
  have hT := implTombRead_any t w ht hg
  have HL : Hid (lkB t = if isRl t = true then 1 else if trC t = 0 then 2 else 0) := rfl
  have hf := field_c5
  unfold tmO at hT
  clear ht hg
  generalize trC t = C at *
  generalize (trO t).r = n1 at *
  generalize (trO t).f = n2 at *
  generalize (trO t).y = n3 at *
  generalize (trO t).a = n4 at *
  cases hi : isRl t with
  | true =>
    rw [hi] at hr
    rw [hi, if_pos rfl] at HL
    rw [HL.out]
    clear hT
    go_enter Tryz.func113, Tryz.ntmps113
    go_wp2_with fail
    refine hr.mono ?_
    rintro e w1 ⟨rfl, rfl⟩
    go_wp2_with fail
    go_ret
    exact ⟨rfl, Below.refl _ _⟩
  | false =>
    rw [hi] at hr
    rw [hi, if_neg Bool.false_ne_true] at HL
    cases hc : (C == 0) with
    | true =>
      rw [if_pos (by simpa using hc)] at HL
      rw [HL.out]
      go_enter Tryz.func113, Tryz.ntmps113
      go_wp2_with fail
      refine hr.mono ?_
      rintro e w1 ⟨rfl, rfl⟩
      go_wp2_with fail
      refine hT.mono ?_
      rintro e w2 ⟨rfl, b2⟩
      go_wp2_with fail
      go_ret
      exact ⟨rfl, b2⟩
    | false =>
      rw [if_neg (by simpa using hc)] at HL
      rw [HL.out]
      go_enter Tryz.func113, Tryz.ntmps113
      go_wp2_with fail
      refine hr.mono ?_
      rintro e w1 ⟨rfl, rfl⟩
      go_wp2_with fail
      refine hT.mono ?_
      rintro e w2 ⟨rfl, b2⟩
      go_wp2_with fail
      go_ret
      exact ⟨rfl, b2⟩
set_option maxHeartbeats 1000000 in
theorem specLeafKind_any (t : ByteArray) (w : World) (ht : t.size ≤ maxLen) : Calls Tryz.prog 76 #[.string t] w fun e w' => e = .returned (.int .i64 (lkB t)) ∧ Below w.heap.size w w' := by
  have hT := specTombRead_any t w ht
  have HL : Hid (lkB t = if isRl t = true then 1 else if trC t = 0 then 2 else 0) := rfl
  have hf := field_c5
  unfold tmO at hT
  unfold maxLen at ht
  generalize trC t = C at *
  generalize (trO t).r = n1 at *
  generalize (trO t).f = n2 at *
  generalize (trO t).y = n3 at *
  generalize (trO t).a = n4 at *
  by_cases h : t.size = 33
  · have hpos : 0 < t.size := by omega
    obtain ⟨b, hb⟩ : ∃ b, b = t[0]'hpos := ⟨_, rfl⟩
    have HI : Hid (isRl t = decide (b = 101)) := by
      show _ = _
      unfold isRl
      rw [decide_eq_true h, List.head?_eq_getElem?, List.getElem?_eq_getElem (show 0 < t.data.toList.length by rw [sz_list]; omega)]
      have : t.data.toList[0]'(by rw [sz_list]; omega) = b := by rw [hb]; rfl
      rw [this]; simp
    have q : (((t.size : Nat) : Int) == 33) = true := by simp; omega
    have H : Hid (t.size = 33) := h
    clear h
    cases hq : (((t[0]'hpos).toNat : Int) == 101) with
    | true =>
      have hb2 : b = 101 := by
        rw [hb]
        have := eq_of_beq hq; have : (t[0]'hpos).toNat = 101 := by omega
        exact UInt8.toNat_inj.1 this
      rw [HI.out, decide_eq_true hb2, if_pos rfl] at HL
      rw [HL.out]
      clear hT HI hb2 hb
      have h0 : (0 : Int) < t.size := by omega
      go_enter Tryz.func76, Tryz.ntmps76
      go_wp2_with fail
      go_ret
      exact ⟨rfl, Below.refl _ _⟩
    | false =>
      have hb2 : ¬ b = 101 := by
        rw [hb]
        intro e
        rw [e] at hq
        exact absurd hq (by decide)
      rw [HI.out, decide_eq_false hb2, if_neg Bool.false_ne_true] at HL
      clear HI hb2 hb
      have h0 : (0 : Int) < t.size := by omega
      cases hc : (C == 0) with
      | true =>
        rw [if_pos (by simpa using hc)] at HL
        rw [HL.out]
        go_enter Tryz.func76, Tryz.ntmps76
        go_wp2_with fail
        refine hT.mono ?_
        rintro e w2 ⟨rfl, b2⟩
        go_wp2_with fail
        go_ret
        exact ⟨rfl, b2⟩
      | false =>
        rw [if_neg (by simpa using hc)] at HL
        rw [HL.out]
        go_enter Tryz.func76, Tryz.ntmps76
        go_wp2_with fail
        refine hT.mono ?_
        rintro e w2 ⟨rfl, b2⟩
        go_wp2_with fail
        go_ret
        exact ⟨rfl, b2⟩
  · have HI : isRl t = false := by unfold isRl; rw [decide_eq_false h]; rfl
    rw [HI, if_neg Bool.false_ne_true] at HL
    have q : (((t.size : Nat) : Int) == 33) = false := by simp; omega
    clear h HI
    cases hc : (C == 0) with
    | true =>
      rw [if_pos (by simpa using hc)] at HL
      rw [HL.out]
      go_enter Tryz.func76, Tryz.ntmps76
      go_wp2_with fail
      refine hT.mono ?_
      rintro e w2 ⟨rfl, b2⟩
      go_wp2_with fail
      go_ret
      exact ⟨rfl, b2⟩
    | false =>
      rw [if_neg (by simpa using hc)] at HL
      rw [HL.out]
      go_enter Tryz.func76, Tryz.ntmps76
      go_wp2_with fail
      refine hT.mono ?_
      rintro e w2 ⟨rfl, b2⟩
      go_wp2_with fail
      go_ret
      exact ⟨rfl, b2⟩
end Go.Proofs.YthkmeneepkaedaaGreatDoor
