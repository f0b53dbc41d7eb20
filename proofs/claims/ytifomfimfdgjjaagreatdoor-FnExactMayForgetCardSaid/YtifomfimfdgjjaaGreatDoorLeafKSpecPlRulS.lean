/-
  Parts of one proof, laid as one text: LeafK, SpecPl, RulS; what each says stands at its head.
-/
import Derived.Test.YtifomfimfdgjjaaGreatDoorRows
import Derived.Test.YtifomfimfdgjjaaGreatDoorBytesDigMath
import Derived.Test.YtifomfimfdgjjaaGreatDoorSlASlBBxKTakesOwnS
import Derived.Test.YtifomfimfdgjjaaGreatDoorAsDAs2CodeOfScopesReadBits
import Derived.Test.YtifomfimfdgjjaaGreatDoorGetValGetTxtNumMathFldRdNumFromTmbMath
import Derived.Test.YtifomfimfdgjjaaGreatDoorFldTrSpecTgFldL
import Derived.Test.YtifomfimfdgjjaaGreatDoorImplTr
import Derived.Handy
import Derived.WalkSpells
import Derived.OwnWalk
import Derived.Deep.Cut
import Derived.Test.YtifomfimfdgjjaaGreatDoorPolOPolAnsFldIsOwnBTurn2
import Derived.Test.YtifomfimfdgjjaaGreatDoorJoinedPutTextFldMathFldRiseScanMath
import Derived.Test.YtifomfimfdgjjaaGreatDoorLgMathLgAtKShwK
import Derived.Test.YtifomfimfdgjjaaGreatDoorLawPoLgAnsPolIdxRulIdxKeepMRowOps
import Derived.Test.YtifomfimfdgjjaaGreatDoorSpecLr
import Derived.Test.YtifomfimfdgjjaaGreatDoorNameRight
import Derived.Test.YtifomfimfdgjjaaGreatDoorTimeBPutMathPutNum
import Derived.Test.YtifomfimfdgjjaaGreatDoorOpFOpLgBlNotRulMathIntKPolMath
/-
  What LeafKind answers, the specification's and the program's (with isRowLeaf and strings.HasPrefix on its road).
  Conditions: the text fits the form's own reach; for the program's: the variable errors.errorType holds the handle of the type error.
-/
namespace Go.Proofs.YtifomfimfdgjjaaGreatDoor
open Go.RowKit Go.Lib
set_option linter.unusedVariables false
set_option maxRecDepth 20000

theorem pre_e (t : ByteArray) (h : 0 < t.size) : ((t.extract 0 1).toList == [101]) = decide (t.data.toList.head? = some 101) := by
  rw [show ([101] : List UInt8) = ByteArray.toList ⟨#[101]⟩ from by rw [ByteArray.toList_eq], ba_beq]
  have e : (t.extract 0 1).data.toList = [t[0]'h] := by
    rw [ByteArray.data_extract, Array.toList_extract, List.extract_eq_take_drop]
    have := List.drop_eq_getElem_cons (l := t.data.toList) (i := 0) (by simpa using h)
    simp only [List.drop_zero, Nat.sub_zero] at this ⊢
    rw [this]
    rfl
  have e2 : t.data.toList.head? = some (t[0]'h) := by
    rw [List.head?_eq_getElem?]
    exact List.getElem?_eq_getElem (by simpa using h)
  rw [e2]
  by_cases hb : (t[0]'h) = 101
  · rw [hb] at e ⊢
    rw [decide_eq_true rfl, decide_eq_true]
    apply ByteArray.ext; apply Array.ext'
    rw [e]
  · rw [decide_eq_false (fun q => hb (Option.some.inj q)), decide_eq_false]
    intro q
    rw [q] at e
    injection e with e1
    exact hb e1.symm
set_option maxHeartbeats 1000000 in
theorem litePre_any (t : ByteArray) (w : World) (h : 0 < t.size) (ht : t.size ≤ 100) : Calls Tryz.prog 230 #[.string t, .string ⟨#[101]⟩] w fun e w' => e = .returned (.bool (decide (t.data.toList.head? = some 101))) ∧ w' = w := by
  rw [← pre_e t h]
  have hsl : ∀ wx, (Instr.slice 9 (.string t) none (some (.int .i64 1)) none).run Tryz.prog wx = .ok (.string (t.extract 0 1)) wx := fun wx => by
    rw [run_slice_string_h (P := Tryz.prog) wx 9 t Tryz.underlying9 .i64 1 (by omega) (by omega)]
    rfl
  generalize t.extract 0 1 = X at *
  have d1 : decide ((1 : Int) ≤ (t.size : Int)) = true := decide_eq_true (by omega)
  go_enter Tryz.func230, Tryz.ntmps230
  go_wp2_with fail
  go_ret
  exact ⟨rfl, rfl⟩
theorem strPre_any (t : ByteArray) (w : World) (h : 0 < t.size) (ht : t.size ≤ 100) : Calls Tryz.prog 224 #[.string t, .string ⟨#[101]⟩] w fun e w' => e = .returned (.bool (decide (t.data.toList.head? = some 101))) ∧ w' = w := by
  have hl := litePre_any t w h ht
  generalize decide (t.data.toList.head? = some 101) = D at *
  go_enter Tryz.func224, Tryz.ntmps224
  go_wp2_with fail
  refine hl.mono ?_
  rintro e w1 ⟨rfl, rfl⟩
  go_wp2_with fail
  go_ret
  exact ⟨rfl, rfl⟩
theorem isRowLeaf_any (t : ByteArray) (w : World) : Calls Tryz.prog 219 #[.string t] w fun e w' => e = .returned (.bool (isRl t)) ∧ w' = w := by
  by_cases h : t.size = 33
  · have hs := strPre_any t w (by omega) (by omega)
    have HI : Hid (isRl t = decide (t.data.toList.head? = some 101)) := by show _ = _; unfold isRl; rw [decide_eq_true h]; rfl
    rw [HI.out]
    generalize decide (t.data.toList.head? = some 101) = D at *
    have q : (((t.size : Nat) : Int) == 33) = true := by simp; omega
    have H : Hid (t.size = 33) := h
    clear h
    go_enter Tryz.func219, Tryz.ntmps219
    go_wp2_with fail
    refine hs.mono ?_
    rintro e w1 ⟨rfl, rfl⟩
    go_wp2_with fail
    go_ret
    exact ⟨rfl, rfl⟩
  · have HI : Hid (isRl t = false) := by show _ = _; unfold isRl; rw [decide_eq_false h]; rfl
    rw [HI.out]
    have q : (((t.size : Nat) : Int) == 33) = false := by simp; omega
    clear h
    go_enter Tryz.func219, Tryz.ntmps219
    go_wp2_with fail
    go_ret
    exact ⟨rfl, rfl⟩
theorem field_c5 (a b c d e : Int) (x : World) : (Instr.field 170 (.agg #[.int .i64 a, .int .i64 b, .int .i64 c, .int .i64 d, .int .i64 e]) 1).run Tryz.prog x = .ok (.int .i64 e) x := by kernel_rfl
set_option maxHeartbeats 1000000 in
theorem implLeafKind_any (t : ByteArray) (w : World) (ht : t.size ≤ maxLen) (hg : Laid w) : Calls Tryz.prog 208 #[.string t] w fun e w' => e = .returned (.int .i64 (lkB t)) ∧ Below w.heap.size w w' := by
  have hr := isRowLeaf_any t w
  have hT := implTombRead_any t w ht hg
  have HL : Hid (lkB t = if isRl t = true then 1 else if trC t = 0 then 2 else 0) := rfl
  have hf := field_c5
  unfold tmO at hT
  clear ht hg
  generalize trC t = C at *
  generalize (trO t).r = n1 at *
  generalize (trO t).f = n2 at *
  generalize (trO t).y = n3 at *
  generalize (trO t).a = n4 at *
  cases hi : isRl t with
  | true =>
    rw [hi] at hr
    rw [hi, if_pos rfl] at HL
    rw [HL.out]
    clear hT
    go_enter Tryz.func208, Tryz.ntmps208
    go_wp2_with fail
    refine hr.mono ?_
    rintro e w1 ⟨rfl, rfl⟩
    go_wp2_with fail
    go_ret
    exact ⟨rfl, Below.refl _ _⟩
  | false =>
    rw [hi] at hr
    rw [hi, if_neg Bool.false_ne_true] at HL
    cases hc : (C == 0) with
    | true =>
      rw [if_pos (by simpa using hc)] at HL
      rw [HL.out]
      go_enter Tryz.func208, Tryz.ntmps208
      go_wp2_with fail
      refine hr.mono ?_
      rintro e w1 ⟨rfl, rfl⟩
      go_wp2_with fail
      refine hT.mono ?_
      rintro e w2 ⟨rfl, b2⟩
      go_wp2_with fail
      go_ret
      exact ⟨rfl, b2⟩
    | false =>
      rw [if_neg (by simpa using hc)] at HL
      rw [HL.out]
      go_enter Tryz.func208, Tryz.ntmps208
      go_wp2_with fail
      refine hr.mono ?_
      rintro e w1 ⟨rfl, rfl⟩
      go_wp2_with fail
      refine hT.mono ?_
      rintro e w2 ⟨rfl, b2⟩
      go_wp2_with fail
      go_ret
      exact ⟨rfl, b2⟩
end Go.Proofs.YtifomfimfdgjjaaGreatDoor
/-
  PlaceOf, TombOf and StatusOf, as the specification answers.
  Conditions: the cells hold the rows and leaves.
-/
namespace Go.Proofs.YtifomfimfdgjjaaGreatDoor
open Go.RowKit Go.Lib
set_option linter.unusedVariables false
set_option maxRecDepth 20000

theorem pl_next (lv : List ByteArray) (r : Int) (n i : Nat) (h : i < lv.length) : plFrom r n i (lv.drop i) = if (lkB lv[i] == 1) = true then (if ((n : Int) == r) = true then (i : Int) else plFrom r (n + 1) (i + 1) (lv.drop (i + 1))) else plFrom r n (i + 1) (lv.drop (i + 1)) := by
  rw [List.drop_eq_getElem_cons h, plFrom]
  have e : isRl lv[i] = (lkB lv[i] == 1) := by rw [Bool.eq_iff_iff, beq_iff_eq]; exact (lk_iff1 _).symm
  rw [e]
  simp only [beq_iff_eq]
set_option maxHeartbeats 4000000 in
theorem l09Field_any (p : Option Addr) (lv : List ByteArray) (cp : Nat) (q : Option Addr) (rs : List Rw) (cq : Nat) (now : Int) (r f : Int) (w : World) (hR : RwAt w q rs) (hn : rs.length ≤ 1048576) (hcq : rs.length ≤ cq) (hz : ∀ r ∈ rs, r.fs.length ≤ 1048576) :
    Calls Tryz.prog 104 #[.agg #[.slice q rs.length cq, .slice p lv.length cp, .int .i64 now], .int .i64 r, .int .i64 f] w fun e w' => e = .returned (.int .i64 (fcO rs r f)) ∧ Below w.heap.size w w' := by
  obtain ⟨W1, hW1⟩ : ∃ W1, W1 = w.alloc (.cells #[.slice q rs.length cq, .slice p lv.length cp, .int .i64 now] 36) := ⟨_, rfl⟩
  have HW1 : Hid (W1 = w.alloc (.cells #[.slice q rs.length cq, .slice p lv.length cp, .int .i64 now] 36)) := hW1
  have B1 : Hid (Below w.heap.size w W1) := by rw [hW1]; exact (Below.refl _ _).alloc (Nat.le_refl _) _
  have K1 : Hid (Bxs W1 w.heap.size 36 #[.slice q rs.length cq, .slice p lv.length cp, .int .i64 now]) := by rw [hW1]; exact Bxs.new _ _ _
  have HR : Hid (RwAt W1 q rs) := hR.below B1.out
  have HI1 := l07Is_any r 0 ((rs.length : Int) - 1) W1
  have x0 := K1.out.cell 0
  by_cases h1 : 0 ≤ r ∧ r ≤ (rs.length : Int) - 1
  · rw [decide_eq_true h1] at HI1
    have hrl : r.toNat < rs.length := by omega
    have hre : (r.toNat : Int) = r := Int.toNat_of_nonneg h1.1
    obtain ⟨I, rfl⟩ : ∃ I : Nat, r = (I : Int) := ⟨r.toNat, hre.symm⟩
    rw [Int.toNat_natCast] at hrl
    obtain ⟨b, off, rq, rc, rfl, hb0, c0, c1, c2, c3, c4⟩ := HR.out I hrl
    have hrI : rs.getD I rwZ = rs[I] := by rw [List.getD_eq_getElem?_getD, List.getElem?_eq_getElem hrl, Option.getD_some]
    have hfz := hz _ (List.getElem_mem hrl)
    have HI2 := l07Is_any f 0 ((rs[I].fs.length : Int) - 1) W1
    by_cases h2 : 0 ≤ f ∧ f ≤ (rs[I].fs.length : Int) - 1
    · rw [decide_eq_true h2] at HI2
      have hfl : f.toNat < rs[I].fs.length := by omega
      obtain ⟨F, rfl⟩ : ∃ F : Nat, f = (F : Int) := ⟨f.toNat, (Int.toNat_of_nonneg h2.1).symm⟩
      rw [Int.toNat_natCast] at hfl
      obtain ⟨bf, of, rfl, hbf, f0, f1, f2, f3, f4⟩ := c4 F hfl
      have HV : Hid (fcO rs (I : Int) (F : Int) = if rs[I].fs[F].g = true then 7 else 0) := by
        show _ = _
        unfold fcO fldOf
        rw [if_pos h1, Int.toNat_natCast, Int.toNat_natCast, hrI, if_pos h2, List.getD_eq_getElem?_getD, List.getElem?_eq_getElem hfl, Option.getD_some]
      clear f0 f1 f2 f3
      have iI : (I : Int) < rs.length := by omega
      have fI : (F : Int) < rs[I].fs.length := by omega
      cases hG : rs[I].fs[F].g with
      | true =>
        rw [hG] at f4
        rw [hG, if_pos rfl] at HV
        rw [HV.out]
        clear hfl c4 c0 c1 hG HV
        generalize rs[I].fs.length = FL at *
        clear hW1 hR HR hz c3 hrI h1 h2 hre hb0 hbf
        rw [HW1.out] at x0 c2 f4 HI1 HI2
        go_enter Tryz.func104, Tryz.ntmps104
        go_wp2_with (first | (go_at_call 73; with_reducible refine HI1.mono ?_; rintro e y ⟨rfl, rfl⟩) | (go_at_call 73; with_reducible refine HI2.mono ?_; rintro e y ⟨rfl, rfl⟩))
        go_ret
        rw [← HW1.out]
        exact ⟨rfl, B1.out⟩
      | false =>
        rw [hG] at f4
        rw [hG, if_neg Bool.false_ne_true] at HV
        rw [HV.out]
        clear hfl c4 c0 c1 hG HV
        generalize rs[I].fs.length = FL at *
        clear hW1 hR HR hz c3 hrI h1 h2 hre hb0 hbf
        rw [HW1.out] at x0 c2 f4 HI1 HI2
        go_enter Tryz.func104, Tryz.ntmps104
        go_wp2_with (first | (go_at_call 73; with_reducible refine HI1.mono ?_; rintro e y ⟨rfl, rfl⟩) | (go_at_call 73; with_reducible refine HI2.mono ?_; rintro e y ⟨rfl, rfl⟩))
        go_ret
        rw [← HW1.out]
        exact ⟨rfl, B1.out⟩
    · rw [decide_eq_false h2] at HI2
      have HV : Hid (fcO rs (I : Int) f = 6) := by
        show _ = _
        unfold fcO
        rw [if_pos h1, Int.toNat_natCast, hrI, if_neg h2]
      rw [HV.out]
      have iI : (I : Int) < rs.length := by omega
      generalize rs[I].fs.length = FL at *
      clear hW1 hR HR hz HV c0 c1 c3 c4 hrI h1 h2 hre hb0
      rw [HW1.out] at x0 c2 HI1 HI2
      go_enter Tryz.func104, Tryz.ntmps104
      go_wp2_with (first | (go_at_call 73; with_reducible refine HI1.mono ?_; rintro e y ⟨rfl, rfl⟩) | (go_at_call 73; with_reducible refine HI2.mono ?_; rintro e y ⟨rfl, rfl⟩))
      go_ret
      rw [← HW1.out]
      exact ⟨rfl, B1.out⟩
  · rw [decide_eq_false h1] at HI1
    have HV : Hid (fcO rs r f = 6) := by
      show _ = _
      unfold fcO
      rw [if_neg h1]
    rw [HV.out]
    clear hW1 hR HR hz HV h1
    rw [HW1.out] at x0 HI1
    go_enter Tryz.func104, Tryz.ntmps104
    go_wp2_with (first | (go_at_call 73; with_reducible refine HI1.mono ?_; rintro e y ⟨rfl, rfl⟩))
    go_ret
    rw [← HW1.out]
    exact ⟨rfl, B1.out⟩
end Go.Proofs.YtifomfimfdgjjaaGreatDoor
/-
  What the specification's l10Rule and l10Less answer.
-/
namespace Go.Proofs.YtifomfimfdgjjaaGreatDoor
open Go.RowKit Go.Lib
set_option linter.unusedVariables false
set_option maxRecDepth 20000

set_option maxHeartbeats 2000000 in
theorem l10Rule_any (k f : ByteArray) (l m : Int) (w : World) (hk : k.size ≤ maxLen) (hf : f.size ≤ maxLen) :
    Calls Tryz.prog 86 #[.agg #[.string k, .string f, .int .i64 l, .int .i64 m]] w fun e w' => e = .returned (.bool (rulB k f l m)) ∧ Below w.heap.size w w' := by
  have B1 : Below w.heap.size w (w.alloc (.cells #[.string k, .string f, .int .i64 l, .int .i64 m] 71)) := (Below.refl _ _).alloc (Nat.le_refl _) _
  have h1 := specNameRight_any k (w.alloc (.cells #[.string k, .string f, .int .i64 l, .int .i64 m] 71)) hk
  have h2 := specNameRight_any f (w.alloc (.cells #[.string k, .string f, .int .i64 l, .int .i64 m] 71)) hf
  have h3 := l07Time_any l (w.alloc (.cells #[.string k, .string f, .int .i64 l, .int .i64 m] 71))
  have h4 := l07Time_any m (w.alloc (.cells #[.string k, .string f, .int .i64 l, .int .i64 m] 71))
  unfold rulB
  generalize nrB k = b1 at *
  generalize nrB f = b2 at *
  generalize timeB l = b3 at *
  generalize timeB m = b4 at *
  cases b1
  · go_enter Tryz.func86, Tryz.ntmps86
    go_wp2_with fail
    refine h1.mono ?_
    rintro e w1 ⟨rfl, rfl⟩
    go_wp2_with fail
    go_ret
    exact ⟨rfl, B1⟩
  · skip
    cases b2
    · go_enter Tryz.func86, Tryz.ntmps86
      go_wp2_with fail
      refine h1.mono ?_
      rintro e w1 ⟨rfl, rfl⟩
      go_wp2_with fail
      refine h2.mono ?_
      rintro e w2 ⟨rfl, rfl⟩
      go_wp2_with fail
      go_ret
      exact ⟨rfl, B1⟩
    · skip
      cases b3
      · go_enter Tryz.func86, Tryz.ntmps86
        go_wp2_with fail
        refine h1.mono ?_
        rintro e w1 ⟨rfl, rfl⟩
        go_wp2_with fail
        refine h2.mono ?_
        rintro e w2 ⟨rfl, rfl⟩
        go_wp2_with fail
        refine h3.mono ?_
        rintro e w3 ⟨rfl, rfl⟩
        go_wp2_with fail
        go_ret
        exact ⟨rfl, B1⟩
      · skip
        cases b4
        · go_enter Tryz.func86, Tryz.ntmps86
          go_wp2_with fail
          refine h1.mono ?_
          rintro e w1 ⟨rfl, rfl⟩
          go_wp2_with fail
          refine h2.mono ?_
          rintro e w2 ⟨rfl, rfl⟩
          go_wp2_with fail
          refine h3.mono ?_
          rintro e w3 ⟨rfl, rfl⟩
          go_wp2_with fail
          refine h4.mono ?_
          rintro e w4 ⟨rfl, rfl⟩
          go_wp2_with fail
          go_ret
          exact ⟨rfl, B1⟩
        · skip
          by_cases hd : l ≤ m
          · have d1 : decide (l ≤ m) = true := decide_eq_true hd
            rw [d1]
            clear hd
            go_enter Tryz.func86, Tryz.ntmps86
            go_wp2_with fail
            refine h1.mono ?_
            rintro e w1 ⟨rfl, rfl⟩
            go_wp2_with fail
            refine h2.mono ?_
            rintro e w2 ⟨rfl, rfl⟩
            go_wp2_with fail
            refine h3.mono ?_
            rintro e w3 ⟨rfl, rfl⟩
            go_wp2_with fail
            refine h4.mono ?_
            rintro e w4 ⟨rfl, rfl⟩
            go_wp2_with fail
            go_ret
            exact ⟨rfl, B1⟩
          · have d1 : decide (l ≤ m) = false := decide_eq_false hd
            rw [d1]
            clear hd
            go_enter Tryz.func86, Tryz.ntmps86
            go_wp2_with fail
            refine h1.mono ?_
            rintro e w1 ⟨rfl, rfl⟩
            go_wp2_with fail
            refine h2.mono ?_
            rintro e w2 ⟨rfl, rfl⟩
            go_wp2_with fail
            refine h3.mono ?_
            rintro e w3 ⟨rfl, rfl⟩
            go_wp2_with fail
            refine h4.mono ?_
            rintro e w4 ⟨rfl, rfl⟩
            go_wp2_with fail
            go_ret
            exact ⟨rfl, B1⟩

set_option maxHeartbeats 2000000 in
theorem l10Less_any (ak af : ByteArray) (al am : Int) (bk bf : ByteArray) (bl bm : Int) (w : World) :
    Calls Tryz.prog 87 #[.agg #[.string ak, .string af, .int .i64 al, .int .i64 am], .agg #[.string bk, .string bf, .int .i64 bl, .int .i64 bm]] w fun e w' => e = .returned (.bool (rlLess ak af bk bf)) ∧ Below w.heap.size w w' := by
  have B1 : Below w.heap.size w ((w.alloc (.cells #[.string ak, .string af, .int .i64 al, .int .i64 am] 71)).alloc (.cells #[.string bk, .string bf, .int .i64 bl, .int .i64 bm] 71)) := ((Below.refl _ _).alloc (Nat.le_refl _) _).alloc (by simp) _
  unfold rlLess
  cases h1 : Op.bytesLess ak.toList bk.toList
  · cases h2 : (ak.toList == bk.toList)
    · go_enter Tryz.func87, Tryz.ntmps87
      go_wp2_with fail
      go_ret
      exact ⟨rfl, B1⟩
    · go_enter Tryz.func87, Tryz.ntmps87
      go_wp2_with fail
      go_ret
      exact ⟨rfl, B1⟩
  · go_enter Tryz.func87, Tryz.ntmps87
    go_wp2_with fail
    go_ret
    exact ⟨rfl, B1⟩
end Go.Proofs.YtifomfimfdgjjaaGreatDoor
