/-
  Parts of one proof, laid as one text: LeafK, LgAns, SpecTg; what each says stands at its head.
-/
import Derived.Test.YtnaonldkbaapeabGreatDoorRows
import Derived.Test.YtnaonldkbaapeabGreatDoorBytesDigMath
import Derived.Test.YtnaonldkbaapeabGreatDoorSlASlBBxKTakesOwnS
import Derived.Test.YtnaonldkbaapeabGreatDoorFldIsAsDAs2CodeOfGrK
import Derived.Test.YtnaonldkbaapeabGreatDoorGetValGetTxtNumMathFldRdNumFromTmbMath
import Derived.Test.YtnaonldkbaapeabGreatDoorFldTbFldTr
import Derived.Test.YtnaonldkbaapeabGreatDoorImplTr
import Derived.Handy
import Derived.WalkSpells
import Derived.OwnWalk
import Derived.Deep.Cut
import Derived.Test.YtnaonldkbaapeabGreatDoorJoinedPutTextFldMath
import Derived.Test.YtnaonldkbaapeabGreatDoorLgMathLgAtKShwK
/-
  What LeafKind answers, the specification's and the program's (with isRowLeaf and strings.HasPrefix on its road).
  Conditions: the text fits the form's own reach; for the program's: the variable errors.errorType holds the handle of the type error.
-/
namespace Go.Proofs.YtnaonldkbaapeabGreatDoor
open Go.RowKit Go.Lib
set_option linter.unusedVariables false
set_option maxRecDepth 20000

theorem pre_e (t : ByteArray) (h : 0 < t.size) : ((t.extract 0 1).toList == [101]) = decide (t.data.toList.head? = some 101) := by
  rw [show ([101] : List UInt8) = ByteArray.toList ⟨#[101]⟩ from by rw [ByteArray.toList_eq], ba_beq]
  have e : (t.extract 0 1).data.toList = [t[0]'h] := by
    rw [ByteArray.data_extract, Array.toList_extract, List.extract_eq_take_drop]
    have := List.drop_eq_getElem_cons (l := t.data.toList) (i := 0) (by simpa using h)
    simp only [List.drop_zero, Nat.sub_zero] at this ⊢
    rw [this]
    rfl
  have e2 : t.data.toList.head? = some (t[0]'h) := by
    rw [List.head?_eq_getElem?]
    exact List.getElem?_eq_getElem (by simpa using h)
  rw [e2]
  by_cases hb : (t[0]'h) = 101
  · rw [hb] at e ⊢
    rw [decide_eq_true rfl, decide_eq_true]
    apply ByteArray.ext; apply Array.ext'
    rw [e]
  · rw [decide_eq_false (fun q => hb (Option.some.inj q)), decide_eq_false]
    intro q
    rw [q] at e
    injection e with e1
    exact hb e1.symm
set_option maxHeartbeats 1000000 in
theorem litePre_any (t : ByteArray) (w : World) (h : 0 < t.size) (ht : t.size ≤ 100) : Calls Tryz.prog 146 #[.string t, .string ⟨#[101]⟩] w fun e w' => e = .returned (.bool (decide (t.data.toList.head? = some 101))) ∧ w' = w := by
  rw [← pre_e t h]
  have hsl : ∀ wx, (Instr.slice 9 (.string t) none (some (.int .i64 1)) none).run Tryz.prog wx = .ok (.string (t.extract 0 1)) wx := fun wx => by
    rw [run_slice_string_h (P := Tryz.prog) wx 9 t Tryz.underlying9 .i64 1 (by omega) (by omega)]
    rfl
  generalize t.extract 0 1 = X at *
  have d1 : decide ((1 : Int) ≤ (t.size : Int)) = true := decide_eq_true (by omega)
  go_enter Tryz.func146, Tryz.ntmps146
  go_wp2_with fail
  go_ret
  exact ⟨rfl, rfl⟩
theorem strPre_any (t : ByteArray) (w : World) (h : 0 < t.size) (ht : t.size ≤ 100) : Calls Tryz.prog 134 #[.string t, .string ⟨#[101]⟩] w fun e w' => e = .returned (.bool (decide (t.data.toList.head? = some 101))) ∧ w' = w := by
  have hl := litePre_any t w h ht
  generalize decide (t.data.toList.head? = some 101) = D at *
  go_enter Tryz.func134, Tryz.ntmps134
  go_wp2_with fail
  refine hl.mono ?_
  rintro e w1 ⟨rfl, rfl⟩
  go_wp2_with fail
  go_ret
  exact ⟨rfl, rfl⟩
theorem isRowLeaf_any (t : ByteArray) (w : World) : Calls Tryz.prog 116 #[.string t] w fun e w' => e = .returned (.bool (isRl t)) ∧ w' = w := by
  by_cases h : t.size = 33
  · have hs := strPre_any t w (by omega) (by omega)
    have HI : Hid (isRl t = decide (t.data.toList.head? = some 101)) := by show _ = _; unfold isRl; rw [decide_eq_true h]; rfl
    rw [HI.out]
    generalize decide (t.data.toList.head? = some 101) = D at *
    have q : (((t.size : Nat) : Int) == 33) = true := by simp; omega
    have H : Hid (t.size = 33) := h
    clear h
    go_enter Tryz.func116, Tryz.ntmps116
    go_wp2_with fail
    refine hs.mono ?_
    rintro e w1 ⟨rfl, rfl⟩
    go_wp2_with fail
    go_ret
    exact ⟨rfl, rfl⟩
  · have HI : Hid (isRl t = false) := by show _ = _; unfold isRl; rw [decide_eq_false h]; rfl
    rw [HI.out]
    have q : (((t.size : Nat) : Int) == 33) = false := by simp; omega
    clear h
    go_enter Tryz.func116, Tryz.ntmps116
    go_wp2_with fail
    go_ret
    exact ⟨rfl, rfl⟩
theorem field_c5 (a b c d e : Int) (x : World) : (Instr.field 94 (.agg #[.int .i64 a, .int .i64 b, .int .i64 c, .int .i64 d, .int .i64 e]) 1).run Tryz.prog x = .ok (.int .i64 e) x := by kernel_rfl
set_option maxHeartbeats 1000000 in
theorem implLeafKind_any (t : ByteArray) (w : World) (ht : t.size ≤ maxLen) (hg : Laid w) : Calls Tryz.prog 100 #[.string t] w fun e w' => e = .returned (.int .i64 (lkB t)) ∧ Below w.heap.size w w' := by
  have hr := isRowLeaf_any t w
  have hT := implTombRead_any t w ht hg
  have HL : Hid (lkB t = if isRl t = true then 1 else if trC t = 0 then 2 else 0) := rfl
  have hf := field_c5
  unfold tmO at hT
  clear ht hg
  generalize trC t = C at *
  generalize (trO t).r = n1 at *
  generalize (trO t).f = n2 at *
  generalize (trO t).y = n3 at *
  generalize (trO t).a = n4 at *
  cases hi : isRl t with
  | true =>
    rw [hi] at hr
    rw [hi, if_pos rfl] at HL
    rw [HL.out]
    clear hT
    go_enter Tryz.func100, Tryz.ntmps100
    go_wp2_with fail
    refine hr.mono ?_
    rintro e w1 ⟨rfl, rfl⟩
    go_wp2_with fail
    go_ret
    exact ⟨rfl, Below.refl _ _⟩
  | false =>
    rw [hi] at hr
    rw [hi, if_neg Bool.false_ne_true] at HL
    cases hc : (C == 0) with
    | true =>
      rw [if_pos (by simpa using hc)] at HL
      rw [HL.out]
      go_enter Tryz.func100, Tryz.ntmps100
      go_wp2_with fail
      refine hr.mono ?_
      rintro e w1 ⟨rfl, rfl⟩
      go_wp2_with fail
      refine hT.mono ?_
      rintro e w2 ⟨rfl, b2⟩
      go_wp2_with fail
      go_ret
      exact ⟨rfl, b2⟩
    | false =>
      rw [if_neg (by simpa using hc)] at HL
      rw [HL.out]
      go_enter Tryz.func100, Tryz.ntmps100
      go_wp2_with fail
      refine hr.mono ?_
      rintro e w1 ⟨rfl, rfl⟩
      go_wp2_with fail
      refine hT.mono ?_
      rintro e w2 ⟨rfl, b2⟩
      go_wp2_with fail
      go_ret
      exact ⟨rfl, b2⟩
set_option maxHeartbeats 1000000 in
theorem specLeafKind_any (t : ByteArray) (w : World) (ht : t.size ≤ maxLen) : Calls Tryz.prog 73 #[.string t] w fun e w' => e = .returned (.int .i64 (lkB t)) ∧ Below w.heap.size w w' := by
  have hT := specTombRead_any t w ht
  have HL : Hid (lkB t = if isRl t = true then 1 else if trC t = 0 then 2 else 0) := rfl
  have hf := field_c5
  unfold tmO at hT
  unfold maxLen at ht
  generalize trC t = C at *
  generalize (trO t).r = n1 at *
  generalize (trO t).f = n2 at *
  generalize (trO t).y = n3 at *
  generalize (trO t).a = n4 at *
  by_cases h : t.size = 33
  · have hpos : 0 < t.size := by omega
    obtain ⟨b, hb⟩ : ∃ b, b = t[0]'hpos := ⟨_, rfl⟩
    have HI : Hid (isRl t = decide (b = 101)) := by
      show _ = _
      unfold isRl
      rw [decide_eq_true h, List.head?_eq_getElem?, List.getElem?_eq_getElem (show 0 < t.data.toList.length by rw [sz_list]; omega)]
      have : t.data.toList[0]'(by rw [sz_list]; omega) = b := by rw [hb]; rfl
      rw [this]; simp
    have q : (((t.size : Nat) : Int) == 33) = true := by simp; omega
    have H : Hid (t.size = 33) := h
    clear h
    cases hq : (((t[0]'hpos).toNat : Int) == 101) with
    | true =>
      have hb2 : b = 101 := by
        rw [hb]
        have := eq_of_beq hq; have : (t[0]'hpos).toNat = 101 := by omega
        exact UInt8.toNat_inj.1 this
      rw [HI.out, decide_eq_true hb2, if_pos rfl] at HL
      rw [HL.out]
      clear hT HI hb2 hb
      have h0 : (0 : Int) < t.size := by omega
      go_enter Tryz.func73, Tryz.ntmps73
      go_wp2_with fail
      go_ret
      exact ⟨rfl, Below.refl _ _⟩
    | false =>
      have hb2 : ¬ b = 101 := by
        rw [hb]
        intro e
        rw [e] at hq
        exact absurd hq (by decide)
      rw [HI.out, decide_eq_false hb2, if_neg Bool.false_ne_true] at HL
      clear HI hb2 hb
      have h0 : (0 : Int) < t.size := by omega
      cases hc : (C == 0) with
      | true =>
        rw [if_pos (by simpa using hc)] at HL
        rw [HL.out]
        go_enter Tryz.func73, Tryz.ntmps73
        go_wp2_with fail
        refine hT.mono ?_
        rintro e w2 ⟨rfl, b2⟩
        go_wp2_with fail
        go_ret
        exact ⟨rfl, b2⟩
      | false =>
        rw [if_neg (by simpa using hc)] at HL
        rw [HL.out]
        go_enter Tryz.func73, Tryz.ntmps73
        go_wp2_with fail
        refine hT.mono ?_
        rintro e w2 ⟨rfl, b2⟩
        go_wp2_with fail
        go_ret
        exact ⟨rfl, b2⟩
  · have HI : isRl t = false := by unfold isRl; rw [decide_eq_false h]; rfl
    rw [HI, if_neg Bool.false_ne_true] at HL
    have q : (((t.size : Nat) : Int) == 33) = false := by simp; omega
    clear h HI
    cases hc : (C == 0) with
    | true =>
      rw [if_pos (by simpa using hc)] at HL
      rw [HL.out]
      go_enter Tryz.func73, Tryz.ntmps73
      go_wp2_with fail
      refine hT.mono ?_
      rintro e w2 ⟨rfl, b2⟩
      go_wp2_with fail
      go_ret
      exact ⟨rfl, b2⟩
    | false =>
      rw [if_neg (by simpa using hc)] at HL
      rw [HL.out]
      go_enter Tryz.func73, Tryz.ntmps73
      go_wp2_with fail
      refine hT.mono ?_
      rintro e w2 ⟨rfl, b2⟩
      go_wp2_with fail
      go_ret
      exact ⟨rfl, b2⟩
end Go.Proofs.YtnaonldkbaapeabGreatDoor
/-
  What is told of a log, in plain mathematics: the place of a row's leaf, the code and the status of a field.
-/
namespace Go.Proofs.YtnaonldkbaapeabGreatDoor
open Go.RowKit Go.Lib
set_option linter.unusedVariables false

def plFrom (row : Int) : Nat → Nat → List ByteArray → Int
  | _, _, [] => -1
  | n, i, t :: ts => if isRl t = true then (if (n : Int) = row then (i : Int) else plFrom row (n + 1) (i + 1) ts) else plFrom row n (i + 1) ts
def plB (lv : List ByteArray) (row : Int) : Int := plFrom row 0 0 lv
def plO (rs : List Rw) (lv : List ByteArray) (now r : Int) : Int := if lgB rs lv now = true then plB lv r else -1
def tbO (rs : List Rw) (lv : List ByteArray) (now r f : Int) : Int := if lgB rs lv now = true then tbAt lv r f else -1
/-- The code of a field: it is there, it is gone, there is none. -/
def fcO (rs : List Rw) (r f : Int) : Int := if 0 ≤ r ∧ r ≤ (rs.length : Int) - 1 then (if 0 ≤ f ∧ f ≤ ((rs.getD r.toNat rwZ).fs.length : Int) - 1 then (if (fldOf rs r f).g = true then 7 else 0) else 6) else 6
def gcO (rs : List Rw) (lv : List ByteArray) (now r f : Int) : Int := if lgB rs lv now = true then fcO rs r f else 1
def stC (c : Int) : Int := if c = 0 then 1 else if c = 7 then 2 else 0
def stO (rs : List Rw) (lv : List ByteArray) (now r f : Int) : Int := if lgB rs lv now = true then stC (fcO rs r f) else 0
theorem stO_gc (rs : List Rw) (lv : List ByteArray) (now r f : Int) : stO rs lv now r f = stC (gcO rs lv now r f) := by
  unfold stO gcO
  split
  · rfl
  · rfl
theorem fcO_cases (rs : List Rw) (r f : Int) : fcO rs r f = 0 ∨ fcO rs r f = 7 ∨ fcO rs r f = 6 := by
  unfold fcO
  split
  · split
    · split
      · exact .inr (.inl rfl)
      · exact .inl rfl
    · exact .inr (.inr rfl)
  · exact .inr (.inr rfl)
theorem lg_right {rs : List Rw} {lv : List ByteArray} {now : Int} (h : lgB rs lv now = true) : rs.length ≤ 6 ∧ lv.length ≤ 64 ∧ (∀ r ∈ rs, rB r = true) := by
  unfold lgB at h
  simp only [Bool.and_eq_true, decide_eq_true_iff] at h
  refine ⟨h.1, h.2.1, fun r hr => ?_⟩
  have h2 := h.2.2.2.1
  unfold rsB at h2
  rw [List.all_eq_true] at h2
  exact (Bool.and_eq_true_iff.1 (h2 r hr)).1
end Go.Proofs.YtnaonldkbaapeabGreatDoor
/-
  The place of a field's note and whether a field is gone, as the specification answers.
  Conditions: the cells hold the leaves and rows.
-/
namespace Go.Proofs.YtnaonldkbaapeabGreatDoor
open Go.RowKit Go.Lib
set_option linter.unusedVariables false
set_option maxRecDepth 20000

theorem tb_next (lv : List ByteArray) (r f : Int) (k : Nat) (h : k < lv.length) : tbFrom r f k (lv.drop k) = if tmHit r f lv[k] = true then (k : Int) else tbFrom r f (k + 1) (lv.drop (k + 1)) := by
  rw [List.drop_eq_getElem_cons h, tbFrom]
theorem tmHit_eq (r f : Int) (t : ByteArray) : tmHit r f t = ((trC t == 0) && (((trO t).r == r) && ((trO t).f == f))) := by
  unfold tmHit
  rw [Bool.eq_iff_iff]
  simp only [Bool.and_eq_true, decide_eq_true_iff, beq_iff_eq]
set_option maxHeartbeats 4000000 in
theorem l09Tomb_any (p : Option Addr) (lv : List ByteArray) (cp : Nat) (r f : Int) (w : World) (hL : TxtAt w p lv) (hl : lv.length ≤ 1048576) (hc : lv.length ≤ cp) (hz : TxtsLe lv) :
    Calls Tryz.prog 49 #[.slice p lv.length cp, .int .i64 r, .int .i64 f] w fun e w' => e = .returned (.int .i64 (tbAt lv r f)) ∧ Below w.heap.size w w' := by
  have HL : Hid (TxtAt w p lv) := hL
  have HZ : Hid (TxtsLe lv) := hz
  clear hL hz
  go_enter Tryz.func49, Tryz.ntmps49
  go_wp2_with fail
  go_loopw [7] (fun i wr => ∃ k : Nat, k ≤ lv.length ∧ i = .int .i64 k ∧ Hid (Below w.heap.size w wr) ∧ Hid (tbAt lv r f = tbFrom r f k (lv.drop k))) (fun i _ => lv.length - (intOf i).toNat)
  case atStart => exact ⟨0, Nat.zero_le _, rfl, Below.refl _ _, rfl⟩
  case round =>
    obtain ⟨k, hk, rfl, HB, HV⟩ := hrel
    by_cases hlt : k < lv.length
    · have i1 : (k : Int) < lv.length := by omega
      obtain ⟨b, off, rfl, hb0, c0⟩ := (HL.out.below HB.out) k hlt
      have hR := specTombRead_any lv[k] wr (HZ.out _ (List.getElem_mem hlt))
      have HS : Hid (tbAt lv r f = if tmHit r f lv[k] = true then (k : Int) else tbFrom r f (k + 1) (lv.drop (k + 1))) := HV.out.trans (tb_next lv r f k hlt)
      have HH : Hid (tmHit r f lv[k] = _) := tmHit_eq r f lv[k]
      have HG : Hid (tmHit r f lv[k] = false → tbAt lv r f = tbFrom r f (k + 1) (lv.drop (k + 1))) := fun h => by rw [HS.out, h, if_neg Bool.false_ne_true]
      unfold tmO at hR
      generalize lv[k] = t at *
      generalize trC t = C at *
      generalize (trO t).r = n1 at *
      generalize (trO t).f = n2 at *
      generalize (trO t).y = n3 at *
      generalize (trO t).a = n4 at *
      clear HV hb0
      cases hC : (C == 0) with
      | false =>
        rw [hC, Bool.false_and] at HH
        have HN := HG.out HH.out
        have HN2 : Hid (tbAt lv r f = tbFrom r f (k + 1) (lv.drop (k + 1))) := HN
        clear HS HH HG HN
        go_wp2_with fail
        refine hR.mono ?_
        rintro e y ⟨rfl, by_⟩
        have HBy : Hid (Below w.heap.size w (y.alloc (.cells #[.int .i64 n1, .int .i64 n2, .int .i64 n3, .int .i64 n4, .int .i64 C] 94))) := alB (chainB HB.out by_) _
        go_wp2_with fail
        go_roundw
        case rel => exact ⟨k + 1, by omega, by simp, HBy.out, HN2.out⟩
        case measure => simp [intOf]; omega
      | true =>
        rw [hC, Bool.true_and] at HH
        cases h1 : (n1 == r) with
        | false =>
          rw [h1, Bool.false_and] at HH
          have HN := HG.out HH.out
          have HN2 : Hid (tbAt lv r f = tbFrom r f (k + 1) (lv.drop (k + 1))) := HN
          clear HS HH HG HN
          go_wp2_with fail
          refine hR.mono ?_
          rintro e y ⟨rfl, by_⟩
          have HBy : Hid (Below w.heap.size w (y.alloc (.cells #[.int .i64 n1, .int .i64 n2, .int .i64 n3, .int .i64 n4, .int .i64 C] 94))) := alB (chainB HB.out by_) _
          go_wp2_with fail
          go_roundw
          case rel => exact ⟨k + 1, by omega, by simp, HBy.out, HN2.out⟩
          case measure => simp [intOf]; omega
        | true =>
          rw [h1, Bool.true_and] at HH
          cases h2 : (n2 == f) with
          | false =>
            rw [h2] at HH
            have HN := HG.out HH.out
            have HN2 : Hid (tbAt lv r f = tbFrom r f (k + 1) (lv.drop (k + 1))) := HN
            clear HS HH HG HN
            go_wp2_with fail
            refine hR.mono ?_
            rintro e y ⟨rfl, by_⟩
            have HBy : Hid (Below w.heap.size w (y.alloc (.cells #[.int .i64 n1, .int .i64 n2, .int .i64 n3, .int .i64 n4, .int .i64 C] 94))) := alB (chainB HB.out by_) _
            go_wp2_with fail
            go_roundw
            case rel => exact ⟨k + 1, by omega, by simp, HBy.out, HN2.out⟩
            case measure => simp [intOf]; omega
          | true =>
            rw [h2] at HH
            rw [HH.out, if_pos rfl] at HS
            clear HH HG
            go_wp2_with fail
            refine hR.mono ?_
            rintro e y ⟨rfl, by_⟩
            have HBy : Hid (Below w.heap.size w (y.alloc (.cells #[.int .i64 n1, .int .i64 n2, .int .i64 n3, .int .i64 n4, .int .i64 C] 94))) := alB (chainB HB.out by_) _
            go_wp2_with fail
            go_ret
            exact ⟨by rw [HS.out]; rfl, HBy.out⟩
    · obtain rfl : k = lv.length := by omega
      have HE : Hid (tbAt lv r f = -1) := by show _ = _; rw [HV.out, List.drop_length]; rfl
      clear HV
      go_wp2_with fail
      go_ret
      exact ⟨by rw [HE.out]; rfl, HB.out⟩
set_option maxHeartbeats 4000000 in
theorem l09Gone_any (p : Option Addr) (lv : List ByteArray) (cp : Nat) (q : Option Addr) (rs : List Rw) (cq : Nat) (now : Int) (r f : Int) (w : World) (hR : RwAt w q rs) (hn : rs.length ≤ 1048576) (hcq : rs.length ≤ cq) (hz : ∀ r ∈ rs, r.fs.length ≤ 1048576) :
    Calls Tryz.prog 91 #[.agg #[.slice q rs.length cq, .slice p lv.length cp, .int .i64 now], .int .i64 r, .int .i64 f] w fun e w' => e = .returned (.bool (goneAt rs r f)) ∧ Below w.heap.size w w' := by
  obtain ⟨W1, hW1⟩ : ∃ W1, W1 = w.alloc (.cells #[.slice q rs.length cq, .slice p lv.length cp, .int .i64 now] 29) := ⟨_, rfl⟩
  have HW1 : Hid (W1 = w.alloc (.cells #[.slice q rs.length cq, .slice p lv.length cp, .int .i64 now] 29)) := hW1
  have B1 : Hid (Below w.heap.size w W1) := by rw [hW1]; exact (Below.refl _ _).alloc (Nat.le_refl _) _
  have K1 : Hid (Bxs W1 w.heap.size 29 #[.slice q rs.length cq, .slice p lv.length cp, .int .i64 now]) := by rw [hW1]; exact Bxs.new _ _ _
  have HR : Hid (RwAt W1 q rs) := hR.below B1.out
  have HI1 := l07Is_any r 0 ((rs.length : Int) - 1) W1
  have x0 := K1.out.cell 0
  by_cases h1 : 0 ≤ r ∧ r ≤ (rs.length : Int) - 1
  · rw [decide_eq_true h1] at HI1
    have hrl : r.toNat < rs.length := by omega
    have hre : (r.toNat : Int) = r := Int.toNat_of_nonneg h1.1
    obtain ⟨I, rfl⟩ : ∃ I : Nat, r = (I : Int) := ⟨r.toNat, hre.symm⟩
    rw [Int.toNat_natCast] at hrl
    obtain ⟨b, off, rq, rc, rfl, hb0, c0, c1, c2, c3, c4⟩ := HR.out I hrl
    have hrI : rs.getD I rwZ = rs[I] := by rw [List.getD_eq_getElem?_getD, List.getElem?_eq_getElem hrl, Option.getD_some]
    have hfz := hz _ (List.getElem_mem hrl)
    have HI2 := l07Is_any f 0 ((rs[I].fs.length : Int) - 1) W1
    by_cases h2 : 0 ≤ f ∧ f ≤ (rs[I].fs.length : Int) - 1
    · rw [decide_eq_true h2] at HI2
      have hfl : f.toNat < rs[I].fs.length := by omega
      obtain ⟨F, rfl⟩ : ∃ F : Nat, f = (F : Int) := ⟨f.toNat, (Int.toNat_of_nonneg h2.1).symm⟩
      rw [Int.toNat_natCast] at hfl
      obtain ⟨bf, of, rfl, hbf, f0, f1, f2, f3, f4⟩ := c4 F hfl
      have HV : Hid (goneAt rs (I : Int) (F : Int) = rs[I].fs[F].g) := by
        show _ = _
        unfold goneAt fldOf
        rw [decide_eq_true h1, Int.toNat_natCast, Int.toNat_natCast, hrI, decide_eq_true h2, List.getD_eq_getElem?_getD, List.getElem?_eq_getElem hfl, Option.getD_some]; rfl
      rw [HV.out]
      clear f0 f1 f2 f3 HV
      generalize rs[I].fs[F].g = G at *
      have iI : (I : Int) < rs.length := by omega
      have fI : (F : Int) < rs[I].fs.length := by omega
      clear hfl c4 c0 c1
      generalize rs[I].fs.length = FL at *
      clear hW1 hR HR hz c3 hrI h1 h2 hre hb0 hbf
      rw [HW1.out] at x0 c2 f4 HI1 HI2
      go_enter Tryz.func91, Tryz.ntmps91
      go_wp2_with (first | (go_at_call 53; with_reducible refine HI1.mono ?_; rintro e y ⟨rfl, rfl⟩) | (go_at_call 53; with_reducible refine HI2.mono ?_; rintro e y ⟨rfl, rfl⟩))
      go_ret
      rw [← HW1.out]
      exact ⟨rfl, B1.out⟩
    · rw [decide_eq_false h2] at HI2
      have HV : Hid (goneAt rs (I : Int) f = false) := by
        show _ = _
        unfold goneAt
        rw [Int.toNat_natCast, hrI, decide_eq_false h2, Bool.false_and, Bool.and_false]
      rw [HV.out]
      have iI : (I : Int) < rs.length := by omega
      generalize rs[I].fs.length = FL at *
      clear hW1 hR HR hz HV c0 c1 c3 c4 hrI h1 h2 hre hb0
      rw [HW1.out] at x0 c2 HI1 HI2
      go_enter Tryz.func91, Tryz.ntmps91
      go_wp2_with (first | (go_at_call 53; with_reducible refine HI1.mono ?_; rintro e y ⟨rfl, rfl⟩) | (go_at_call 53; with_reducible refine HI2.mono ?_; rintro e y ⟨rfl, rfl⟩))
      go_ret
      rw [← HW1.out]
      exact ⟨rfl, B1.out⟩
  · rw [decide_eq_false h1] at HI1
    have HV : Hid (goneAt rs r f = false) := by
      show _ = _
      unfold goneAt
      rw [decide_eq_false h1, Bool.false_and]
    rw [HV.out]
    clear hW1 hR HR hz HV h1
    rw [HW1.out] at x0 HI1
    go_enter Tryz.func91, Tryz.ntmps91
    go_wp2_with (first | (go_at_call 53; with_reducible refine HI1.mono ?_; rintro e y ⟨rfl, rfl⟩))
    go_ret
    rw [← HW1.out]
    exact ⟨rfl, B1.out⟩
end Go.Proofs.YtnaonldkbaapeabGreatDoor
