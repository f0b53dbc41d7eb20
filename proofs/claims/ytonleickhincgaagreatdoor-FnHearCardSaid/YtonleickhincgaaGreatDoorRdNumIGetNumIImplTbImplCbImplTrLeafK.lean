/-
  Parts of one proof, laid as one text: RdNumI, GetNumI, ImplTb, ImplCb, ImplTr, LeafK; what each says stands at its head.
-/
import Derived.Test.YtonleickhincgaaGreatDoorRows
import Derived.Test.YtonleickhincgaaGreatDoorBytesDigMath
import Derived.Test.YtonleickhincgaaGreatDoorImplVerInc2SignRSignWFldRiseScanMath
import Derived.Test.YtonleickhincgaaGreatDoorAsDAs2CodeOfRngXScopesReadBits
import Derived.Test.YtonleickhincgaaGreatDoorGetValGetTxtNumMathFldRdNumFromTmbMathLgMath
import Derived.Handy
import Derived.Test.YtonleickhincgaaGreatDoorTimeBPutMathPutNumJoinedPutTextFldMath
import Derived.Test.YtonleickhincgaaGreatDoorTreeMathSlABxKSlBOwnS
import Derived.Test.YtonleickhincgaaGreatDoorFldIsTimeIGrKSpecGNSpecGTTillTwoFldN
import Derived.WalkSpells
import Derived.OwnWalk
import Derived.Deep.RegionHeld3
import Derived.Deep.RegionWith
import Derived.Deep.Cut
import Derived.Test.YtonleickhincgaaGreatDoorShwKOwnBPadIMacMathSgnBDigITurn2
import Derived.Lib.DecodeN
import Derived.Lib.OthersKept
import Derived.Laws.RangeAny
import Derived.Test.YtonleickhincgaaGreatDoorLgLawTakesTakesLPutterPathI
import Derived.Test.YtonleickhincgaaGreatDoorFldTbFldTrImplFCBlNot
/-
  What the program's readNum answers.
  Conditions: the string fits the form's own reach; the place is an int64.
-/
namespace Go.Proofs.YtonleickhincgaaGreatDoor
open Go.RowKit Go.Extern.Stop Go.Stop Go.Extern
set_option linter.unusedVariables false

def rnBad (c : Int) : Value := .tuple #[.int .i64 0, .int .i64 0, .iface 194 (.agg #[.int .i64 c])]
def rnOk (n a : Int) : Value := .tuple #[.int .i64 n, .int .i64 a, .nilIface]
def rnV (s : ByteArray) (a : Int) : Value := if (getN s a).2.2 = 0 then rnOk (getN s a).1 (getN s a).2.1 else rnBad (getN s a).2.2

theorem rnV_of {s : ByteArray} {a c : Int} (h : getN s a = (0, 0, c)) (hc : c ≠ 0) : rnV s a = rnBad c := by unfold rnV; rw [h, if_neg hc]
theorem rnV_okk {s : ByteArray} {a n b : Int} (h : getN s a = (n, b, 0)) : rnV s a = rnOk n b := by unfold rnV; rw [h, if_pos rfl]
set_option maxRecDepth 20000 in
set_option maxHeartbeats 2000000 in
theorem readNum_any (s : ByteArray) (at0 : Int) (w : World) (hs : s.size ≤ maxLen) (h1 : at0 ≤ 9223372036854775807) :
    Calls Tryz.prog 94 #[.string s, .int .i64 at0] w fun e w' => e = .returned (rnV s at0) ∧ w' = w := by
  unfold maxLen at hs
  by_cases hb : 8000 < s.size
  · have H : Hid (rnV s at0 = rnBad 2) := rnV_of (by unfold getN; rw [if_pos hb]) (by decide)
    go_enter Tryz.func94, Tryz.ntmps94
    go_wp2_with fail
    go_ret3
    exact ⟨ret_valN (H.out.trans rfl).symm, rfl⟩
  by_cases h0 : at0 < 0
  · have H : Hid (rnV s at0 = rnBad 1) := rnV_of (by unfold getN; rw [if_neg hb, if_pos h0]) (by decide)
    go_enter Tryz.func94, Tryz.ntmps94
    go_wp2_with fail
    go_ret3
    exact ⟨ret_valN (H.out.trans rfl).symm, rfl⟩
  obtain ⟨a, ha⟩ : ∃ a : Nat, at0 = a := ⟨at0.toNat, by omega⟩
  subst ha
  rcases scanAt_bd s a with hbd | hbd
  · obtain ⟨c, u, k, hsc⟩ : ∃ c u k, scanAt s a = (c, u, k) := ⟨_, _, _, rfl⟩
    rw [hsc] at hbd
    have hc0 : c = 0 := hbd.1
    subst hc0
    have u0' : 0 ≤ u := hbd.2.1
    have u1' : u ≤ 18446744073709551615 := hbd.2.2.1
    have HRB : Hid (rbV s a = .tuple #[.int .u64 u, .int .i64 ((a : Int) + (k : Int)), .nilIface]) := rbV_ok hsc
    have H : Hid (rnV s (a : Int) = rnOk (unfoldN u) ((a : Int) + (k : Int))) := rnV_okk (by unfold getN; rw [if_neg hb, if_neg h0, Int.toNat_natCast, hsc, if_pos rfl])
    have HA : Hid (bits .and .u64 u 1 = u % 2) := and1 u u0' (by omega)
    clear hbd hsc
    cases hp : (bits .and .u64 u 1 == 1)
    · have HU : Hid (unfoldN u = u / 2) := if_neg (by rw [HA.out] at hp; simp at hp; omega)
      go_enter Tryz.func94, Tryz.ntmps94
      go_wp2_with (go_at_call 148; refine (readBits_any _ _ _ (by omega) h1).mono ?_; rintro e w1 ⟨rfl, hw⟩; rw [HRB.out]; subst hw)
      go_ret3
      exact ⟨ret_valN (by rw [H.out, HU.out]; rfl), rfl⟩
    · have HU : Hid (unfoldN u = -(u / 2) - 1) := if_pos (by rw [HA.out] at hp; simpa using hp)
      have HN : Hid (bits .xor .i64 (-1) (u / 2) = -(u / 2) - 1) := not64 (u / 2) (by omega) (by omega)
      go_enter Tryz.func94, Tryz.ntmps94
      go_wp2_with (go_at_call 148; refine (readBits_any _ _ _ (by omega) h1).mono ?_; rintro e w1 ⟨rfl, hw⟩; rw [HRB.out]; subst hw)
      go_ret3
      exact ⟨ret_valN (by rw [H.out, HU.out, ← HN.out]; rfl), rfl⟩
  · obtain ⟨c, u, k, hsc⟩ : ∃ c u k, scanAt s a = (c, u, k) := ⟨_, _, _, rfl⟩
    rw [hsc] at hbd
    obtain ⟨hc34, hu0, hk0⟩ := hbd
    have e1 : u = 0 := hu0
    have e2 : k = 0 := hk0
    subst e1 e2
    have hc : c ≠ 0 := by have : c = 3 ∨ c = 4 := hc34; omega
    have HRB : Hid (rbV s a = .tuple #[.int .u64 0, .int .i64 0, .iface 194 (.agg #[.int .i64 c])]) := rbV_bad ⟨hc, hsc⟩
    have H : Hid (rnV s (a : Int) = rnBad c) := rnV_of (by unfold getN; rw [if_neg hb, if_neg h0, Int.toNat_natCast, hsc, if_neg hc]) hc
    clear hsc hc34 hu0 hk0 hc
    go_enter Tryz.func94, Tryz.ntmps94
    go_wp2_with (go_at_call 148; refine (readBits_any _ _ _ (by omega) h1).mono ?_; rintro e w1 ⟨rfl, hw⟩; rw [HRB.out]; subst hw)
    go_ret3
    exact ⟨ret_valN (H.out.trans rfl).symm, rfl⟩
end Go.Proofs.YtonleickhincgaaGreatDoor
/-
  What the program's readNum and GetNum answer: 'getN' of the text and the place.
  Conditions: the string fits the form's own reach; the place is an int64; for GetNum: the variable errors.errorType holds the handle of the type error.
-/
namespace Go.Proofs.YtonleickhincgaaGreatDoor
open Go.RowKit Go.Extern.Stop Go.Stop Go.Extern
set_option linter.unusedVariables false

set_option maxHeartbeats 2000000 in
theorem implGetNum_any (s : ByteArray) (at0 : Int) (w : World) (hs : s.size ≤ maxLen) (h1 : at0 ≤ 9223372036854775807) (hg : Laid w) :
    Calls Tryz.prog 207 #[.string s, .int .i64 at0] w fun e w' => e = .returned (getV s at0) ∧ Below w.heap.size w w' := by
  rcases getN_cases s at0 with ⟨n, b, hgn⟩ | ⟨c, hc, hgn⟩
  · have HRN : Hid (rnV s at0 = .tuple #[.int .i64 n, .int .i64 b, .nilIface]) := rnV_okk hgn
    have H : Hid (getV s at0 = numOut n b 0) := by show _ = _; unfold getV; rw [hgn]
    clear hgn hg
    go_enter Tryz.func207, Tryz.ntmps207
    go_wp2_with (first | (go_at_call 94; refine (readNum_any _ _ _ hs h1).mono ?_; rintro e w1 ⟨rfl, hw⟩; rw [HRN.out]; subst hw) | (go_at_call 218; refine (codeOf_nil _).mono ?_; rintro e w2 ⟨rfl, hb⟩; obtain ⟨hcc, hff⟩ := bcell hb))
    refine bodyPost_ret (v := numOut n b 0) (by simp [numOut, results, Tryz.results207, go_sem, hcc]) rfl ⟨ret_valN H.out.symm, ?_⟩
    exact ((((Below.refl _ _).alloc (Nat.le_refl _) _).trans (hb.mono (by simp))).setCell (Nat.le_refl _) _).setCell (Nat.le_refl _) _ |>.setCell (Nat.le_refl _) _
  · have HRN : Hid (rnV s at0 = .tuple #[.int .i64 0, .int .i64 0, .iface 194 (.agg #[.int .i64 c])]) := rnV_of hgn hc
    have H : Hid (getV s at0 = numOut 0 0 c) := by show _ = _; unfold getV; rw [hgn]
    have HG : Hid (∀ o, Laid (w.alloc o)) := fun o => hg.below ((Below.refl _ _).alloc (Nat.le_refl _) o)
    clear hgn hg hc
    go_enter Tryz.func207, Tryz.ntmps207
    go_wp2_with (first | (go_at_call 94; refine (readNum_any _ _ _ hs h1).mono ?_; rintro e w1 ⟨rfl, hw⟩; rw [HRN.out]; subst hw) | (go_at_call 218; refine (codeOf_hit _ _ (HG.out _)).mono ?_; rintro e w2 ⟨rfl, hb⟩; obtain ⟨hcc, hff⟩ := bcell hb))
    refine bodyPost_ret (v := numOut 0 0 c) (by simp [numOut, results, Tryz.results207, go_sem, hcc]) rfl ⟨ret_valN H.out.symm, ?_⟩
    exact ((((Below.refl _ _).alloc (Nat.le_refl _) _).trans (hb.mono (by simp))).setCell (Nat.le_refl _) _).setCell (Nat.le_refl _) _ |>.setCell (Nat.le_refl _) _

end Go.Proofs.YtonleickhincgaaGreatDoor
/-
  What the program's whyRight, TombRight and TombText answer.
-/
namespace Go.Proofs.YtonleickhincgaaGreatDoor
open Go.RowKit Go.Lib
set_option linter.unusedVariables false
set_option maxRecDepth 20000

theorem whyRight_any (y : Int) (w : World) : Calls Tryz.prog 208 #[.int .i64 y] w fun e w' => e = .returned (.bool (decide (1 ≤ y ∧ y ≤ 2))) ∧ w' = w := by
  by_cases h1 : y = 1
  · subst h1
    rw [show decide ((1 : Int) ≤ 1 ∧ (1 : Int) ≤ 2) = true from rfl]
    go_enter Tryz.func208, Tryz.ntmps208
    go_wp2_with fail
    go_ret
    exact ⟨rfl, rfl⟩
  by_cases h2 : y = 2
  · subst h2
    rw [show decide ((1 : Int) ≤ 2 ∧ (2 : Int) ≤ 2) = true from rfl]
    go_enter Tryz.func208, Tryz.ntmps208
    go_wp2_with fail
    go_ret
    exact ⟨rfl, rfl⟩
  have e1 : (y == 1) = false := beq_eq_false_iff_ne.2 h1
  have e2 : (y == 2) = false := beq_eq_false_iff_ne.2 h2
  rw [decide_eq_false (show ¬ (1 ≤ y ∧ y ≤ 2) by omega)]
  clear h1 h2
  go_enter Tryz.func208, Tryz.ntmps208
  go_wp2_with fail
  go_ret
  exact ⟨rfl, rfl⟩
theorem tmB_six (t : Tmb) : tmB t = (decide (0 ≤ t.r) && (decide (t.r ≤ 63) && (decide (0 ≤ t.f) && (decide (t.f < 3) && (decide (1 ≤ t.y ∧ t.y ≤ 2) && timeB t.a))))) := by
  have : (t.f ≤ 2) ↔ (t.f < 3) := by omega
  unfold tmB timeB; simp [Bool.and_assoc, this]
set_option maxHeartbeats 2000000 in
theorem implTombRight_any (t : Tmb) (w : World) : Calls Tryz.prog 188 #[tmV t] w fun e w' => e = .returned (.bool (tmB t)) ∧ Below w.heap.size w w' := by
  rw [tmB_six]
  obtain ⟨r, f, y, a⟩ := t
  show Calls Tryz.prog 188 #[.agg #[.int .i64 r, .int .i64 f, .int .i64 y, .int .i64 a]] w _
  dsimp only
  obtain ⟨W1, hW1⟩ : ∃ W1, W1 = w.alloc (.cells #[.int .i64 r, .int .i64 f, .int .i64 y, .int .i64 a] 114) := ⟨_, rfl⟩
  have HW1 : Hid (W1 = w.alloc (.cells #[.int .i64 r, .int .i64 f, .int .i64 y, .int .i64 a] 114)) := hW1
  have B1 : Hid (Below w.heap.size w W1) := by rw [hW1]; exact (Below.refl _ _).alloc (Nat.le_refl _) _
  have K1 : Bxs W1 w.heap.size 114 #[.int .i64 r, .int .i64 f, .int .i64 y, .int .i64 a] := by rw [hW1]; exact Bxs.new _ _ _
  obtain ⟨x0, x1, x2, x3⟩ : W1.cell? ⟨w.heap.size, 0, none⟩ = some (.int .i64 r) ∧ W1.cell? ⟨w.heap.size, 1, none⟩ = some (.int .i64 f) ∧ W1.cell? ⟨w.heap.size, 2, none⟩ = some (.int .i64 y) ∧ W1.cell? ⟨w.heap.size, 3, none⟩ = some (.int .i64 a) := ⟨K1.cell 0, K1.cell 1, K1.cell 2, K1.cell 3⟩
  clear K1 hW1
  have Qy : Hid (∀ x, Calls Tryz.prog 208 #[.int .i64 y] x fun e w' => e = .returned (.bool (decide (1 ≤ y ∧ y ≤ 2))) ∧ w' = x) := fun x => whyRight_any y x
  have Qa : Hid (∀ x, Calls Tryz.prog 151 #[.int .i64 a] x fun e w' => e = .returned (.bool (timeB a)) ∧ w' = x) := fun x => timeRight_any a x
  generalize decide (1 ≤ y ∧ y ≤ 2) = Dy at *
  generalize timeB a = Da at *
  cases d0 : decide (0 ≤ r) with
  | false =>
    go_enter Tryz.func188, Tryz.ntmps188
    go_upto_region 1 with fail
    rw [← HW1.out]
    go_wp2_with fail
    go_ret
    exact ⟨rfl, B1.out⟩
  | true =>
  cases d1 : decide (r ≤ 63) with
  | false =>
    go_enter Tryz.func188, Tryz.ntmps188
    go_upto_region 1 with fail
    rw [← HW1.out]
    go_wp2_with fail
    go_ret
    exact ⟨rfl, B1.out⟩
  | true =>
  cases d2 : decide (0 ≤ f) with
  | false =>
    go_enter Tryz.func188, Tryz.ntmps188
    go_upto_region 1 with fail
    rw [← HW1.out]
    go_wp2_with fail
    go_ret
    exact ⟨rfl, B1.out⟩
  | true =>
  cases d3 : decide (f < 3) with
  | false =>
    go_enter Tryz.func188, Tryz.ntmps188
    go_upto_region 1 with fail
    rw [← HW1.out]
    go_wp2_with fail
    go_ret
    exact ⟨rfl, B1.out⟩
  | true =>
  cases Dy with
  | false =>
    go_enter Tryz.func188, Tryz.ntmps188
    go_upto_region 1 with fail
    rw [← HW1.out]
    go_wp2_with fail
    refine (Qy.out _).mono ?_
    rintro e w1 ⟨rfl, rfl⟩
    go_wp2_with fail
    go_ret
    exact ⟨rfl, B1.out⟩
  | true =>
  cases Da with
  | false =>
    go_enter Tryz.func188, Tryz.ntmps188
    go_upto_region 1 with fail
    rw [← HW1.out]
    go_wp2_with fail
    refine (Qy.out _).mono ?_
    rintro e w1 ⟨rfl, rfl⟩
    go_wp2_with fail
    refine (Qa.out _).mono ?_
    rintro e w1 ⟨rfl, rfl⟩
    go_wp2_with fail
    go_ret
    exact ⟨rfl, B1.out⟩
  | true =>
    go_enter Tryz.func188, Tryz.ntmps188
    go_upto_region 1 with fail
    rw [← HW1.out]
    go_wp2_with fail
    refine (Qy.out _).mono ?_
    rintro e w1 ⟨rfl, rfl⟩
    go_wp2_with fail
    refine (Qa.out _).mono ?_
    rintro e w1 ⟨rfl, rfl⟩
    go_wp2_with fail
    go_ret
    exact ⟨rfl, B1.out⟩
theorem cat_five (a b c d e : ByteArray) : cat [a, b, c, d, e] = a ++ b ++ c ++ d ++ e := by
  apply ByteArray.ext; apply Array.ext'
  simp [cat]
set_option maxHeartbeats 4000000 in
theorem implTombText_any (t : Tmb) (w : World) : Calls Tryz.prog 189 #[tmV t] w fun e w' => e = .returned (.string (tmT t)) ∧ Below w.heap.size w w' := by
  have hr := fun x => implTombRight_any t x
  have hb := tmB_iff t
  have HT : Hid (tmT t = if tmB t = true then tmRaw t else ByteArray.empty) := rfl
  obtain ⟨r, f, y, a⟩ := t
  show Calls Tryz.prog 189 #[.agg #[.int .i64 r, .int .i64 f, .int .i64 y, .int .i64 a]] w _
  obtain ⟨W1, hW1⟩ : ∃ W1, W1 = w.alloc (.cells #[.int .i64 r, .int .i64 f, .int .i64 y, .int .i64 a] 114) := ⟨_, rfl⟩
  have HW1 : Hid (W1 = w.alloc (.cells #[.int .i64 r, .int .i64 f, .int .i64 y, .int .i64 a] 114)) := hW1
  have B1 : Hid (Below w.heap.size w W1) := by rw [hW1]; exact (Below.refl _ _).alloc (Nat.le_refl _) _
  have K1 : Hid (Bxs W1 w.heap.size 114 #[.int .i64 r, .int .i64 f, .int .i64 y, .int .i64 a]) := by rw [hW1]; exact Bxs.new _ _ _
  clear hW1
  cases h : tmB ⟨r, f, y, a⟩ with
  | false =>
    rw [h] at hr
    rw [h, if_neg Bool.false_ne_true] at HT
    have HR : Hid (∀ x, Calls Tryz.prog 188 #[.agg #[.int .i64 r, .int .i64 f, .int .i64 y, .int .i64 a]] x fun e w' => e = .returned (.bool false) ∧ Below x.heap.size x w') := hr
    rw [HT.out]
    clear hr hb h HT K1
    go_enter Tryz.func189, Tryz.ntmps189
    go_wp2_with fail
    rw [← HW1.out]
    refine (HR.out W1).mono ?_
    rintro e w1 ⟨rfl, b1⟩
    have c1 : Hid (Below w.heap.size w w1) := chainB B1.out b1
    clear b1
    go_wp2_with fail
    go_ret
    exact ⟨rfl, c1.out⟩
  | true =>
    obtain ⟨⟨a0, a1⟩, ⟨b0, b1⟩, ⟨c0, c1⟩, d0, d1⟩ := hb.1 h
    dsimp only at a0 a1 b0 b1 c0 c1 d0 d1
    rw [h] at hr
    rw [h, if_pos rfl] at HT
    have HR : Hid (∀ x, Calls Tryz.prog 188 #[.agg #[.int .i64 r, .int .i64 f, .int .i64 y, .int .i64 a]] x fun e w' => e = .returned (.bool true) ∧ Below x.heap.size x w') := hr
    have HX : Hid (∀ x, Below W1.heap.size W1 x → x.cell? ⟨w.heap.size, 0, none⟩ = some (.int .i64 r) ∧ x.cell? ⟨w.heap.size, 1, none⟩ = some (.int .i64 f) ∧ x.cell? ⟨w.heap.size, 2, none⟩ = some (.int .i64 y) ∧ x.cell? ⟨w.heap.size, 3, none⟩ = some (.int .i64 a)) := fun x hb => ⟨(K1.out.below hb).cell 0, (K1.out.below hb).cell 1, (K1.out.below hb).cell 2, (K1.out.below hb).cell 3⟩
    have QP : ∀ (n : Int), -9223372036854775808 ≤ n → n ≤ 9223372036854775807 → ∀ x, Below W1.heap.size W1 x → Calls Tryz.prog 209 #[.int .i64 n] x fun e x1 => e = .returned (.string (putB n)) ∧ Below W1.heap.size W1 x1 := fun n h0 h1 x hb => (implPutNum_any n x h0 h1).mono (by rintro e x1 ⟨rfl, b⟩; exact ⟨rfl, chainB hb b⟩)
    have Qr : Hid (∀ x, Below W1.heap.size W1 x → Calls Tryz.prog 209 #[.int .i64 r] x fun e x1 => e = .returned (.string (putB r)) ∧ Below W1.heap.size W1 x1) := QP r (by omega) (by omega)
    have Qf : Hid (∀ x, Below W1.heap.size W1 x → Calls Tryz.prog 209 #[.int .i64 f] x fun e x1 => e = .returned (.string (putB f)) ∧ Below W1.heap.size W1 x1) := QP f (by omega) (by omega)
    have Qy : Hid (∀ x, Below W1.heap.size W1 x → Calls Tryz.prog 209 #[.int .i64 y] x fun e x1 => e = .returned (.string (putB y)) ∧ Below W1.heap.size W1 x1) := QP y (by omega) (by omega)
    have Qa : Hid (∀ x, Below W1.heap.size W1 x → Calls Tryz.prog 209 #[.int .i64 a] x fun e x1 => e = .returned (.string (putB a)) ∧ Below W1.heap.size W1 x1) := QP a (by omega) (by omega)
    have zr := putB_size r
    have zf := putB_size f
    have zy := putB_size y
    have za := putB_size a
    have z0 : (⟨#[116]⟩ : ByteArray).size = 1 := rfl
    have QJ : Hid (∀ x, Below W1.heap.size W1 x → Calls Tryz.prog 37 #[.slice (some ⟨x.heap.size, 0, none⟩) 5 5] (x.alloc (.cells #[.string ⟨#[116]⟩, .string (putB r), .string (putB f), .string (putB y), .string (putB a)] 9)) fun e x1 => e = .returned (.string (tmRaw ⟨r, f, y, a⟩)) ∧ Below W1.heap.size W1 x1) := fun x hb => by
      have h := joined_new [⟨#[116]⟩, putB r, putB f, putB y, putB a] x (by simp) (by rw [cat_five, ByteArray.size_append, ByteArray.size_append, ByteArray.size_append, ByteArray.size_append]; omega)
      rw [cat_five] at h
      refine h.mono ?_
      rintro e x1 ⟨rfl, b⟩
      exact ⟨rfl, chainB hb b⟩
    have QJ2 : Hid (∀ x, Below W1.heap.size W1 x → Calls Tryz.prog 37 #[.slice (some ⟨x.heap.size, 0, none⟩) 5 5] (x.alloc (.cells #[.string ⟨#[116]⟩, .string (putB r), .string (putB f), .string (putB y), .string (putB a)] 9)).drew fun e x1 => e = .returned (.string (tmRaw ⟨r, f, y, a⟩)) ∧ Below W1.heap.size W1 x1) := fun x hb => QJ.out x.drew hb.drew
    rw [HT.out]
    generalize tmRaw ⟨r, f, y, a⟩ = O at *
    generalize putB r = R at *
    generalize putB f = F at *
    generalize putB y = Y at *
    generalize putB a = A at *
    clear hr hb h HT QP a0 a1 b0 b1 c0 c1 d0 d1 zr zf zy za z0 K1
    go_enter Tryz.func189, Tryz.ntmps189
    go_wp2_with fail
    rw [← HW1.out]
    refine (HR.out W1).mono ?_
    rintro e w1 ⟨rfl, HR1⟩
    have HR1 : Hid (Below W1.heap.size W1 w1) := HR1
    go_wp2_with fail
    first
      | (go_region_held3 (fun w' => w'.cell? ⟨w.heap.size, 0, none⟩ = some (.int .i64 r) ∧ w'.cell? ⟨w.heap.size, 1, none⟩ = some (.int .i64 f) ∧ w'.cell? ⟨w.heap.size, 2, none⟩ = some (.int .i64 y) ∧ w'.cell? ⟨w.heap.size, 3, none⟩ = some (.int .i64 a)) ((refine HX.out _ ?hT; (case hT => (with_reducible repeat (first | assumption | exact HR1.out | refine Below.drew ?_ | refine alB ?_ _))))) (first
        | (go_at_call 209; with_reducible refine (Qr.out _ ?hB).mono ?_; (case hB => first | exact HR1.out | exact HR1.out.drew); rintro e x1 ⟨rfl, y1⟩)
        | (go_at_call 209; with_reducible refine (Qf.out _ ?hB).mono ?_; (case hB => first | exact y1 | exact y1.drew); rintro e x2 ⟨rfl, y2⟩)
        | (go_at_call 209; with_reducible refine (Qy.out _ ?hB).mono ?_; (case hB => first | exact y2 | exact y2.drew); rintro e x3 ⟨rfl, y3⟩)
        | (go_at_call 209; with_reducible refine (Qa.out _ ?hB).mono ?_; (case hB => first | exact y3 | exact y3.drew); rintro e x4 ⟨rfl, y4⟩)
        | (go_at_call 37; (first | with_reducible refine (QJ.out _ ?hB).mono ?_ | with_reducible refine (QJ2.out _ ?hB).mono ?_); (case hB => first | exact y4 | exact y4.drew); rintro e x5 ⟨rfl, y5⟩)))
      | fail
    all_goals
      have y6 := chainB B1.out y5
      go_wp2_with fail
      go_ret
      exact ⟨rfl, y6⟩
end Go.Proofs.YtonleickhincgaaGreatDoor
/-
  What the program's cutBehindLow answers: the text cut behind each byte below 128.
  Conditions: the text has at most 8000 bytes.
-/
namespace Go.Proofs.YtonleickhincgaaGreatDoor
open Go.RowKit Go.Lib
set_option linter.unusedVariables false
set_option maxRecDepth 20000

theorem drop_at (t : ByteArray) (pos : Nat) (h : pos < t.size) : t.data.toList.drop pos = (t[pos]'h) :: t.data.toList.drop (pos + 1) := by
  have h' : pos < t.data.toList.length := by rw [sz_list]; exact h
  rw [List.drop_eq_getElem_cons h']
  rfl
theorem getB (t : ByteArray) (i : Nat) (h : i < t.size) : t.get! i = t[i]'h := by
  show t.data[i]! = t.data[i]
  exact getElem!_pos t.data i h
/-- So many bytes from a place on, all of them 128 or above. -/
def Highs (t : ByteArray) (pos k : Nat) : Prop := pos + k ≤ t.size ∧ ∀ j, j < k → 128 ≤ (t.get! (pos + j)).toNat
theorem highs_split (t : ByteArray) : ∀ (k pos : Nat), Highs t pos k → ∃ xs, xs.length = k ∧ (∀ x ∈ xs, 128 ≤ x.toNat) ∧ t.data.toList.drop pos = xs ++ t.data.toList.drop (pos + k)
  | 0, pos, h => ⟨[], rfl, by simp, by simp⟩
  | k + 1, pos, h => by
    have h0 : pos < t.size := by have := h.1; omega
    obtain ⟨xs, e1, e2, e3⟩ := highs_split t k (pos + 1) ⟨by have := h.1; omega, fun j hj => by have := h.2 (j + 1) (by omega); rwa [show pos + 1 + j = pos + (j + 1) by omega]⟩
    refine ⟨(t[pos]'h0) :: xs, by simp [e1], ?_, ?_⟩
    · intro x hx
      rcases List.mem_cons.1 hx with rfl | hx
      · have := h.2 0 (by omega)
        rwa [Nat.add_zero, getB t pos h0] at this
      · exact e2 x hx
    · rw [drop_at t pos h0, e3, show pos + 1 + k = pos + (k + 1) by omega]; rfl
theorem dec_high (t : ByteArray) (pos : Nat) (h : pos < t.size) (ha : 128 ≤ (t.get! pos).toNat) : 128 ≤ (Utf8.decode t pos).1 ∧ 1 ≤ (Utf8.decode t pos).2 ∧ Highs t pos (Utf8.decode t pos).2 := by
  rw [decode_at]
  generalize e0 : (t.get! pos).toNat = b0 at *
  generalize e1 : (t.get! (pos + 1)).toNat = b1
  generalize e2 : (t.get! (pos + 2)).toNat = b2
  generalize e3 : (t.get! (pos + 3)).toNat = b3
  have H : ∀ k, pos + k ≤ t.size → (k ≤ 4) → (2 ≤ k → 128 ≤ b1) → (3 ≤ k → 128 ≤ b2) → (4 ≤ k → 128 ≤ b3) → Highs t pos k := by
    intro k hk h4 g1 g2 g3
    refine ⟨hk, fun j hj => ?_⟩
    match j, hj with
    | 0, _ => rw [Nat.add_zero, e0]; exact ha
    | 1, _ => rw [e1]; exact g1 (by omega)
    | 2, _ => rw [e2]; exact g2 (by omega)
    | 3, _ => rw [e3]; exact g3 (by omega)
    | j + 4, hj => omega
  unfold decodeN
  rw [if_neg (by omega)]
  split
  · split
    · rename_i g _; refine ⟨by dsimp only; omega, by dsimp only; omega, H 2 (by omega) (by omega) (fun _ => by omega) (fun _ => by omega) (fun _ => by omega)⟩
    · exact ⟨by decide, by decide, H 1 (by omega) (by omega) (fun _ => by omega) (fun _ => by omega) (fun _ => by omega)⟩
  · split
    · split
      · rename_i g _; refine ⟨by dsimp only; omega, by dsimp only; omega, H 3 (by omega) (by omega) (fun _ => by omega) (fun _ => by omega) (fun _ => by omega)⟩
      · exact ⟨by decide, by decide, H 1 (by omega) (by omega) (fun _ => by omega) (fun _ => by omega) (fun _ => by omega)⟩
    · split
      · split
        · rename_i g _; refine ⟨by dsimp only; omega, by dsimp only; omega, H 4 (by omega) (by omega) (fun _ => by omega) (fun _ => by omega) (fun _ => by omega)⟩
        · exact ⟨by decide, by decide, H 1 (by omega) (by omega) (fun _ => by omega) (fun _ => by omega) (fun _ => by omega)⟩
      · exact ⟨by decide, by decide, H 1 (by omega) (by omega) (fun _ => by omega) (fun _ => by omega) (fun _ => by omega)⟩
/-- What the loop knows at a place: so much is cut, so much is held. -/
def CutTo (t : ByteArray) (fr pos : Nat) (A : List ByteArray) : Prop := fr ≤ pos ∧ pos ≤ t.size ∧ A.length ≤ pos ∧ A ++ cutL ((t.data.toList.drop fr).take (pos - fr)) (t.data.toList.drop pos) = cutB t
theorem cutTo_start (t : ByteArray) : CutTo t 0 0 [] := ⟨Nat.le_refl _, Nat.zero_le _, Nat.le_refl _, by simp [cutB]⟩
theorem cutTo_end {t : ByteArray} {fr pos : Nat} {A : List ByteArray} (h : CutTo t fr pos A) (hp : ¬ pos < t.size) : A = cutB t := by
  have := h.2.2.2
  have e : t.data.toList.drop pos = [] := List.drop_eq_nil_of_le (by rw [sz_list]; omega)
  rw [e] at this
  simpa [cutL] using this
theorem cutTo_high {t : ByteArray} {fr pos k : Nat} {A : List ByteArray} (h : CutTo t fr pos A) (hk : Highs t pos k) : CutTo t fr (pos + k) A := by
  obtain ⟨h1, h2, h3, h4⟩ := h
  obtain ⟨xs, e1, e2, e3⟩ := highs_split t k pos hk
  refine ⟨by omega, hk.1, by omega, ?_⟩
  rw [← h4, e3, cutL_high xs _ _ e2]
  congr 2
  have e4 : t.data.toList.drop fr = (t.data.toList.drop fr).take (pos - fr) ++ t.data.toList.drop pos := by
    conv => lhs; rw [← List.take_append_drop (pos - fr) (t.data.toList.drop fr)]
    rw [List.drop_drop, show fr + (pos - fr) = pos by omega]
  have e5 : ((t.data.toList.drop fr).take (pos - fr)).length = pos - fr := by rw [List.length_take, List.length_drop, sz_list]; omega
  generalize hX : (t.data.toList.drop fr).take (pos - fr) = X at e4 e5 ⊢
  rw [show pos + k - fr = (pos - fr) + k by omega, e4, List.take_append, e5, show pos - fr + k - (pos - fr) = k by omega, e3, List.take_of_length_le (l := X) (by omega), List.take_append_of_le_length (by omega), List.take_of_length_le (l := xs) (by omega)]
theorem cutTo_low {t : ByteArray} {fr pos : Nat} {A : List ByteArray} (h : CutTo t fr pos A) (hp : pos < t.size) (hb : (t[pos]'hp).toNat < 128) : CutTo t (pos + 1) (pos + 1) (A ++ [t.extract fr (pos + 1)]) := by
  obtain ⟨h1, h2, h3, h4⟩ := h
  refine ⟨Nat.le_refl _, by omega, by simp; omega, ?_⟩
  rw [← h4, drop_at t pos hp, cutL_low _ _ _ hb, Nat.sub_self, List.take_zero, List.append_assoc]
  congr 1
  show t.extract fr (pos + 1) :: cutL [] _ = _
  congr 1
  apply ByteArray.ext; apply Array.ext'
  rw [ByteArray.data_extract, Array.toList_extract, List.extract_eq_take_drop]
  show _ = (t.data.toList.drop fr).take (pos - fr) ++ [t[pos]'hp]
  have e4 : t.data.toList.drop fr = (t.data.toList.drop fr).take (pos - fr) ++ t.data.toList.drop pos := by
    conv => lhs; rw [← List.take_append_drop (pos - fr) (t.data.toList.drop fr)]
    rw [List.drop_drop, show fr + (pos - fr) = pos by omega]
  have e5 : ((t.data.toList.drop fr).take (pos - fr)).length = pos - fr := by rw [List.length_take, List.length_drop, sz_list]; omega
  generalize hX : (t.data.toList.drop fr).take (pos - fr) = X at e4 e5 ⊢
  rw [e4, drop_at t pos hp, List.take_append, e5, show pos + 1 - fr - (pos - fr) = 1 by omega, List.take_of_length_le (l := X) (by omega)]
  rfl
/-- An iterator's block, and a row of texts of its own beside it. -/
structure CbS (w : World) (I : Nat) (t : ByteArray) (pos : Nat) (v : Value) (A : List ByteArray) (x : World) : Prop where
  bel : Below w.heap.size w x
  it : x.heap[I]? = some (.stringIter t pos)
  own : x.ownsRow (I + 1) 9 1 v A.length (strRow A)
  hI : w.heap.size ≤ I
theorem CbS.lt {w : World} {I : Nat} {t : ByteArray} {pos : Nat} {v : Value} {A : List ByteArray} {x : World} (h : CbS w I t pos v A x) : I < x.heap.size := (Array.getElem?_eq_some_iff.1 h.it).1
theorem grown_iter (x : World) (I : Nat) (t : ByteArray) (pos : Nat) : x.grownBy (x.iterAt I t pos) (some I) :=
  ⟨rfl, rfl, rfl, by rw [iterAt_size]; exact Nat.le_refl _, fun g hg hne => iterAt_other x I g t pos (fun e => hne (by rw [e]))⟩
theorem CbS.next {w : World} {I : Nat} {t : ByteArray} {pos : Nat} {v : Value} {A : List ByteArray} {x : World} (h : CbS w I t pos v A x) (pos' : Nat) : CbS w I t pos' v A (x.iterAt I t pos') :=
  ⟨below_iterAt h.bel h.hI t pos', iterAt_heap x I t pos pos' h.it, ownR_grown h.own (grown_iter x I t pos') (fun g hg e => by have := (h.own.lt g hg).1; cases e; omega), h.hI⟩
theorem CbS.app {w : World} {I : Nat} {t : ByteArray} {pos : Nat} {v : Value} {A : List ByteArray} {x : World} (h : CbS w I t pos v A x) (s : ByteArray) (hl : A.length + 1 ≤ 1048576) :
    ∃ g c y, (Builtin.append_ #[25, 25] 25 #[v, .slice (some ⟨x.heap.size, 0, none⟩) 1 1]).run Tryz.prog (x.alloc (.cells #[.string s] 9)) = .ok (.slice (some ⟨g, 0, none⟩) (A.length + 1) c) y ∧ CbS w I t pos (.slice (some ⟨g, 0, none⟩) (A.length + 1) c) (A ++ [s]) y := by
  have hlt := h.lt
  obtain ⟨g, c, y, h1, h2, h3, h4⟩ := app_str x (I + 1) v A h.own s hl hlt
  have hnI : some I ≠ v.ownBlock := fun e => by have := (h.own.lt I e.symm).1; omega
  refine ⟨g, c, y, h1, ⟨?_, ?_, h2, h.hI⟩⟩
  · exact (h.bel.alloc h.bel.size _).grown h3 (by have := h.bel.size; rw [szA]; omega) (fun j hj => by have := (h.own.lt j hj).1; have := h.hI; omega)
  · rw [h3.block I (by rw [szA]; omega) hnI]
    have : (x.alloc (.cells #[.string s] 9)).heap[I]? = x.heap[I]? := ((Below.refl x.heap.size x).alloc (Nat.le_refl _) _).block I hlt
    rw [this]; exact h.it
set_option maxHeartbeats 4000000 in
theorem cutBehindLow_any (t : ByteArray) (w : World) (ht : t.size ≤ 8000) :
    Calls Tryz.prog 206 #[.string t] w fun e w' => ∃ p cap, e = .returned (.slice p (cutB t).length cap) ∧ (cutB t).length ≤ cap ∧ TxtAt w' p (cutB t) ∧ Below w.heap.size w w' := by
  obtain ⟨W1, hW1⟩ : ∃ W1, W1 = w.iter t 0 := ⟨_, rfl⟩
  have HW1 : Hid (W1 = w.iter t 0) := hW1
  have S0 : Hid (CbS w w.heap.size t 0 (.slice none 0 0) [] W1) := by
    refine ⟨?_, ?_, ?_, Nat.le_refl _⟩
    · rw [hW1]; exact (Below.refl _ _).alloc (Nat.le_refl _) _
    · rw [hW1]; exact World.iter_heap w t 0
    · exact ⟨rfl, .inl ⟨rfl, rfl⟩⟩
  clear hW1
  go_enter Tryz.func206, Tryz.ntmps206
  go_wp2_with fail
  rw [← HW1.out]
  clear HW1
  go_loopw [3, 4] (fun p f wr => ∃ (pos fr : Nat) (A : List ByteArray) (v : Value), p = v ∧ f = .int .i64 fr ∧ Hid (CutTo t fr pos A) ∧ Hid (CbS w w.heap.size t pos v A wr)) (fun _ _ wr => t.size - wr.iterPos w.heap.size)
  case atStart => exact ⟨0, 0, [], _, rfl, rfl, cutTo_start t, S0.out⟩
  case round =>
    obtain ⟨pos, fr, A, v, rfl, rfl, HC, HS⟩ := hrel
    have hit := HS.out.it
    obtain ⟨pp, cp, rfl, hcp, -⟩ := ownS_form HS.out.own
    by_cases hp : pos < t.size
    · have hnx : ∀ ty, (Instr.next (.pointer (some ⟨w.heap.size, 0, none⟩)) true ty).run Tryz.prog wr = _ := fun ty => run_next_any_at wr w.heap.size t pos ty hit hp
      by_cases ha : (t[pos]'hp).toNat < 128
      · have hd := decode_ascii t pos hp ha
        rw [hd] at hnx
        have h8 : (((t[pos]'hp).toNat : Nat) : Int) < 128 := by omega
        have HC2 : Hid (CutTo t (pos + 1) (pos + 1) (A ++ [t.extract fr (pos + 1)])) := cutTo_low HC.out hp ha
        have hfr := HC.out.1
        have hAl := HC.out.2.2.1
        obtain ⟨x, hx⟩ : ∃ x, x = wr.iterAt w.heap.size t (pos + 1) := ⟨_, rfl⟩
        have S1 : CbS w w.heap.size t (pos + 1) (.slice pp A.length cp) A x := by rw [hx]; exact HS.out.next (pos + 1)
        obtain ⟨g, c, y, hrun, S2⟩ := S1.app (t.extract fr (pos + 1)) (by omega)
        have HS2 : Hid (CbS w w.heap.size t (pos + 1) (.slice (some ⟨g, 0, none⟩) (A.length + 1) c) (A ++ [t.extract fr (pos + 1)]) y) := S2
        have hiy : wr.iterPos w.heap.size = pos := by unfold World.iterPos; rw [hit]
        have HM : Hid (t.size - y.iterPos w.heap.size < t.size - wr.iterPos w.heap.size) := by
          have : y.iterPos w.heap.size = pos + 1 := by unfold World.iterPos; rw [S2.it]
          show _ < _
          rw [this, hiy]; omega
        generalize (t[pos]'hp).toNat = b at *
        have hwr : IntKind.i64.wrap ((pos : Int) + 1) = (pos : Int) + 1 := by rw [IntKind.wrap_i64]; omega
        have hsl : ∀ wx, (Instr.slice 9 (.string t) (some (.int .i64 (fr : Int))) (some (.int .i64 ((pos : Int) + 1))) none).run Tryz.prog wx = .ok (.string (t.extract fr (pos + 1))) wx := fun wx => by
          have h := run_slice_string (P := Tryz.prog) wx 9 t .i64 .i64 (fr : Int) ((pos : Int) + 1) Tryz.underlying9 (by omega) (by omega) (by omega)
          rw [h]
          rfl
        rw [← hx] at hnx
        clear S1 S2 HS HC hit hiy hd hx
        go_wp2_with (at_builtin; refine wpList_append_run rfl _ _ _ rfl _ _ _ _ rfl rfl hrun ?_)
        go_roundw
        case rel => exact ⟨pos + 1, pos + 1, _, _, rfl, by go_num, HC2, HS2⟩
        case measure => exact HM.out
      · have hg : 128 ≤ (t.get! pos).toNat := by rw [getB t pos hp]; omega
        obtain ⟨d1, d2, d3⟩ := dec_high t pos hp hg
        generalize (Utf8.decode t pos).1 = R at *
        generalize (Utf8.decode t pos).2 = K at *
        have h8 : ¬ ((R : Int) < 128) := by omega
        have HC2 : Hid (CutTo t fr (pos + K) A) := cutTo_high HC.out d3
        have HS2 : Hid (CbS w w.heap.size t (pos + K) (.slice pp A.length cp) A (wr.iterAt w.heap.size t (pos + K))) := HS.out.next (pos + K)
        have hiy : wr.iterPos w.heap.size = pos := by unfold World.iterPos; rw [hit]
        have HM : Hid (t.size - (wr.iterAt w.heap.size t (pos + K)).iterPos w.heap.size < t.size - wr.iterPos w.heap.size) := by
          have : (wr.iterAt w.heap.size t (pos + K)).iterPos w.heap.size = pos + K := by unfold World.iterPos; rw [HS2.out.it]
          show _ < _
          rw [this, hiy]; omega
        clear HS HC hit hiy d1 d2 d3 hg ha
        go_wp2_with fail
        go_roundw
        case rel => exact ⟨pos + K, fr, A, _, rfl, rfl, HC2, HS2⟩
        case measure => exact HM.out
    · have hnx : ∀ ty, (Instr.next (.pointer (some ⟨w.heap.size, 0, none⟩)) true ty).run Tryz.prog wr = _ := fun ty => run_next_end_at wr w.heap.size t pos ty hit hp
      have hA := cutTo_end HC.out hp
      obtain ⟨p2, c2, e2, hc2, htx⟩ := ownS_form HS.out.own
      have HE : Hid (∃ p cap, Ending.returned (.slice pp A.length cp) = .returned (.slice p (cutB t).length cap) ∧ (cutB t).length ≤ cap ∧ TxtAt wr p (cutB t) ∧ Below w.heap.size w wr) := by
        rw [← hA]
        exact ⟨p2, c2, by rw [e2], hc2, htx, HS.out.bel⟩
      clear HS HC hA htx hc2 e2 hit
      go_wp2_with fail
      go_ret
      exact HE.out
end Go.Proofs.YtonleickhincgaaGreatDoor
/-
  What the program's readTomb and TombRead answer.
  Conditions: the text fits the form's own reach; the variable errors.errorType holds the handle of the type error.
-/
namespace Go.Proofs.YtonleickhincgaaGreatDoor
open Go.RowKit Go.Lib
set_option linter.unusedVariables false
set_option maxRecDepth 20000

theorem cutL_size : ∀ (l cur : List UInt8), ∀ x ∈ cutL cur l, x.size ≤ cur.length + l.length
  | [], cur => by simp [cutL]
  | b :: l, cur => by
    rw [cutL]
    split
    · intro x hx
      rcases List.mem_cons.1 hx with rfl | hx
      · show (cur ++ [b]).toArray.size ≤ _
        simp
      · have := cutL_size l [] x hx
        simp at this ⊢; omega
    · intro x hx
      have := cutL_size l (cur ++ [b]) x hx
      simp at this ⊢; omega
theorem cutB_size (t : ByteArray) : ∀ x ∈ cutB t, x.size ≤ t.size := by
  intro x hx
  have := cutL_size t.data.toList [] x hx
  rw [sz_list] at this
  simpa using this
theorem field_n (a b c : Int) (x : World) : (Instr.field 150 (.agg #[.int .i64 a, .int .i64 b, .int .i64 c]) 0).run Tryz.prog x = .ok (.int .i64 a) x := by kernel_rfl
theorem five_parts {l : List ByteArray} (h : l.length = 5) : ∃ a b c d e, l = [a, b, c, d, e] := by
  match l, h with
  | [a, b, c, d, e], _ => exact ⟨a, b, c, d, e, rfl⟩
set_option maxHeartbeats 4000000 in
theorem readTomb_any (t : ByteArray) (w : World) (ht : t.size ≤ 8000) (hg : Laid w) :
    Calls Tryz.prog 187 #[.string t] w fun e w' => e = .returned (tmV (ipT (cutB t))) ∧ Below w.heap.size w w' := by
  obtain ⟨W1, hW1⟩ : ∃ W1, W1 = w.alloc (.cells #[.int .i64 0, .int .i64 0, .int .i64 0, .int .i64 0] 114) := ⟨_, rfl⟩
  have HW1 : Hid (W1 = w.alloc (.cells #[.int .i64 0, .int .i64 0, .int .i64 0, .int .i64 0] 114)) := hW1
  have B1 : Hid (Below w.heap.size w W1) := by rw [hW1]; exact (Below.refl _ _).alloc (Nat.le_refl _) _
  have K1 : Hid (Bxs W1 w.heap.size 114 #[.int .i64 0, .int .i64 0, .int .i64 0, .int .i64 0]) := by rw [hW1]; exact Bxs.new _ _ _
  have HL1 : Hid (∀ x, Below W1.heap.size W1 x → Laid x) := fun x hx => (hg.below B1.out).below hx
  have hcut := cutBehindLow_any t W1 ht
  have HEr : Hid (∀ (y : World) (T : Tmb) (x0 x1 x2 x3 : Value), Below W1.heap.size W1 y → ipT (cutB t) = T → Ending.returned (.agg #[.int .i64 T.r, .int .i64 T.f, .int .i64 T.y, .int .i64 T.a]) = .returned (tmV (ipT (cutB t))) ∧ Below w.heap.size w ((((y.setCell ⟨w.heap.size, 0, none⟩ x0).setCell ⟨w.heap.size, 1, none⟩ x1).setCell ⟨w.heap.size, 2, none⟩ x2).setCell ⟨w.heap.size, 3, none⟩ x3)) := by
    intro y T x0 x1 x2 x3 hb hT
    rw [hT]
    exact ⟨rfl, below_set4 (chainB B1.out hb) (Nat.le_refl _) _ _ _ _⟩
  have HSz : Hid (∀ x ∈ cutB t, x.size ≤ 8000) := fun x hx => Nat.le_trans (cutB_size t x hx) ht
  clear hW1 hg
  obtain ⟨ps, hps⟩ : ∃ ps, ps = cutB t := ⟨_, rfl⟩
  have HPs : Hid (cutB t = ps) := hps.symm
  rw [← hps] at hcut HSz
  clear hps
  by_cases h5 : ps.length = 5
  · obtain ⟨s0, s1, s2, s3, s4, rfl⟩ := five_parts h5
    have h5' : ((([s0, s1, s2, s3, s4] : List ByteArray).length : Nat) : Int) = 5 := rfl
    obtain ⟨n1, b1, c1, hn1⟩ : ∃ n b c, getN s1 0 = (n, b, c) := ⟨_, _, _, rfl⟩
    have Q1 : Hid (∀ x, Laid x → Calls Tryz.prog 207 #[.string s1, .int .i64 0] x fun e x1 => e = .returned (.agg #[.int .i64 n1, .int .i64 b1, .int .i64 c1]) ∧ Below x.heap.size x x1) := fun x hx => by
      have h := implGetNum_any s1 0 x (by have := HSz.out s1 (by simp); unfold maxLen; omega) (by omega) hx
      refine h.mono ?_
      rintro e x1 ⟨rfl, b⟩
      refine ⟨?_, b⟩
      unfold getV; rw [hn1]; rfl
    obtain ⟨n2, b2, c2, hn2⟩ : ∃ n b c, getN s2 0 = (n, b, c) := ⟨_, _, _, rfl⟩
    have Q2 : Hid (∀ x, Laid x → Calls Tryz.prog 207 #[.string s2, .int .i64 0] x fun e x1 => e = .returned (.agg #[.int .i64 n2, .int .i64 b2, .int .i64 c2]) ∧ Below x.heap.size x x1) := fun x hx => by
      have h := implGetNum_any s2 0 x (by have := HSz.out s2 (by simp); unfold maxLen; omega) (by omega) hx
      refine h.mono ?_
      rintro e x1 ⟨rfl, b⟩
      refine ⟨?_, b⟩
      unfold getV; rw [hn2]; rfl
    obtain ⟨n3, b3, c3, hn3⟩ : ∃ n b c, getN s3 0 = (n, b, c) := ⟨_, _, _, rfl⟩
    have Q3 : Hid (∀ x, Laid x → Calls Tryz.prog 207 #[.string s3, .int .i64 0] x fun e x1 => e = .returned (.agg #[.int .i64 n3, .int .i64 b3, .int .i64 c3]) ∧ Below x.heap.size x x1) := fun x hx => by
      have h := implGetNum_any s3 0 x (by have := HSz.out s3 (by simp); unfold maxLen; omega) (by omega) hx
      refine h.mono ?_
      rintro e x1 ⟨rfl, b⟩
      refine ⟨?_, b⟩
      unfold getV; rw [hn3]; rfl
    obtain ⟨n4, b4, c4, hn4⟩ : ∃ n b c, getN s4 0 = (n, b, c) := ⟨_, _, _, rfl⟩
    have Q4 : Hid (∀ x, Laid x → Calls Tryz.prog 207 #[.string s4, .int .i64 0] x fun e x1 => e = .returned (.agg #[.int .i64 n4, .int .i64 b4, .int .i64 c4]) ∧ Below x.heap.size x x1) := fun x hx => by
      have h := implGetNum_any s4 0 x (by have := HSz.out s4 (by simp); unfold maxLen; omega) (by omega) hx
      refine h.mono ?_
      rintro e x1 ⟨rfl, b⟩
      refine ⟨?_, b⟩
      unfold getV; rw [hn4]; rfl
    have HI : Hid (ipT (cutB t) = ⟨n1, n2, n3, n4⟩) := by
      rw [HPs.out]
      show Tmb.mk (getN s1 0).1 (getN s2 0).1 (getN s3 0).1 (getN s4 0).1 = _
      rw [hn1, hn2, hn3, hn4]
    clear hn1 hn2 hn3 hn4 h5 HPs HSz
    go_enter Tryz.func187, Tryz.ntmps187
    go_upto_region 1 with fail
    rw [← HW1.out]
    clear HW1
    go_wp2_with fail
    refine hcut.mono ?_
    rintro e x ⟨p, cap, rfl, hcap, htx, bx⟩
    obtain ⟨b, off, rfl, hb0, -⟩ := htx 0 (by simp)
    have HTx : Hid (TxtAt x (some ⟨b, off, none⟩) [s0, s1, s2, s3, s4]) := htx
    have HBx : Hid (Below W1.heap.size W1 x) := bx
    have HC : Hid (∀ y, Below x.heap.size x y → y.cell? ⟨b, off + 1, none⟩ = some (.string s1) ∧ y.cell? ⟨b, off + 2, none⟩ = some (.string s2) ∧ y.cell? ⟨b, off + 3, none⟩ = some (.string s3) ∧ y.cell? ⟨b, off + 4, none⟩ = some (.string s4)) := fun y hy => ⟨(HTx.out.below hy).at 1 (by simp), (HTx.out.below hy).at 2 (by simp), (HTx.out.below hy).at 3 (by simp), (HTx.out.below hy).at 4 (by simp)⟩
    have BR : Hid (Below x.heap.size x x.drew) := (Below.refl _ _).drew
    have HF := field_n
    have HLx : Hid (∀ y, Below x.heap.size x y → Laid y) := fun y hy => HL1.out y (chainB HBx.out hy)
    have HKx : Hid (∀ y, Below x.heap.size x y → Bxs y w.heap.size 114 #[.int .i64 0, .int .i64 0, .int .i64 0, .int .i64 0]) := fun y hy => K1.out.below (chainB HBx.out hy)
    clear htx hcut bx hb0 HTx HL1 K1
    go_upto_region 4 with fail
    refine region_till (fun w' => w'.cell? ⟨b, off + 1, none⟩ = some (.string s1) ∧ w'.cell? ⟨b, off + 2, none⟩ = some (.string s2) ∧ w'.cell? ⟨b, off + 3, none⟩ = some (.string s3) ∧ w'.cell? ⟨b, off + 4, none⟩ = some (.string s4)) 21 (by kernel_rfl) (HC.out _ BR.out) (fun hHeld => ?_)
    refine till_take 0 (v := ?_) rfl (by kernel_rfl) (by kernel_rfl) (by kernel_rfl) (by kernel_rfl) (fun _ _ _ h => h) hHeld (Or.inl ⟨by rfl, ?_⟩) ?_
    rotate_left
    · (intro w hSw; (try dsimp only at hSw); go_simp; try with_reducible rfl)
    simp only [Act.put, List.setIfInBounds_toArray, List.set_cons_zero, List.set_cons_succ]
    refine till_take 1 (v := ?_) rfl (by kernel_rfl) (by kernel_rfl) (by kernel_rfl) (by kernel_rfl) (fun _ _ _ h => h) hHeld (Or.inl ⟨by rfl, ?_⟩) ?_
    rotate_left
    · (intro w hSw; (try dsimp only at hSw); go_simp; try with_reducible rfl)
    simp only [Act.put, List.setIfInBounds_toArray, List.set_cons_zero, List.set_cons_succ]
    refine till_take 2 (v := ?_) rfl (by kernel_rfl) (by kernel_rfl) (by kernel_rfl) (by kernel_rfl) (fun _ _ _ h => h) hHeld (Or.inl ⟨by rfl, ?_⟩) ?_
    rotate_left
    · (intro w hSw; (try dsimp only at hSw); go_simp; try with_reducible rfl)
    simp only [Act.put, List.setIfInBounds_toArray, List.set_cons_zero, List.set_cons_succ]
    refine till_take 5 (v := ?_) rfl (by kernel_rfl) (by kernel_rfl) (by kernel_rfl) (by kernel_rfl) (fun _ _ _ h => h) hHeld (Or.inl ⟨by rfl, ?_⟩) ?_
    rotate_left
    · (intro w hSw; (try dsimp only at hSw); go_simp; try with_reducible rfl)
    simp only [Act.put, List.setIfInBounds_toArray, List.set_cons_zero, List.set_cons_succ]
    refine till_take 6 (v := ?_) rfl (by kernel_rfl) (by kernel_rfl) (by kernel_rfl) (by kernel_rfl) (fun _ _ _ h => h) hHeld (Or.inl ⟨by rfl, ?_⟩) ?_
    rotate_left
    · (intro w hSw; (try dsimp only at hSw); go_simp; try with_reducible rfl)
    simp only [Act.put, List.setIfInBounds_toArray, List.set_cons_zero, List.set_cons_succ]
    refine till_take 7 (v := ?_) rfl (by kernel_rfl) (by kernel_rfl) (by kernel_rfl) (by kernel_rfl) (fun _ _ _ h => h) hHeld (Or.inl ⟨by rfl, ?_⟩) ?_
    rotate_left
    · (intro w hSw; (try dsimp only at hSw); go_simp; try with_reducible rfl)
    simp only [Act.put, List.setIfInBounds_toArray, List.set_cons_zero, List.set_cons_succ]
    refine till_take 10 (v := ?_) rfl (by kernel_rfl) (by kernel_rfl) (by kernel_rfl) (by kernel_rfl) (fun _ _ _ h => h) hHeld (Or.inl ⟨by rfl, ?_⟩) ?_
    rotate_left
    · (intro w hSw; (try dsimp only at hSw); go_simp; try with_reducible rfl)
    simp only [Act.put, List.setIfInBounds_toArray, List.set_cons_zero, List.set_cons_succ]
    refine till_take 11 (v := ?_) rfl (by kernel_rfl) (by kernel_rfl) (by kernel_rfl) (by kernel_rfl) (fun _ _ _ h => h) hHeld (Or.inl ⟨by rfl, ?_⟩) ?_
    rotate_left
    · (intro w hSw; (try dsimp only at hSw); go_simp; try with_reducible rfl)
    simp only [Act.put, List.setIfInBounds_toArray, List.set_cons_zero, List.set_cons_succ]
    refine till_take 12 (v := ?_) rfl (by kernel_rfl) (by kernel_rfl) (by kernel_rfl) (by kernel_rfl) (fun _ _ _ h => h) hHeld (Or.inl ⟨by rfl, ?_⟩) ?_
    rotate_left
    · (intro w hSw; (try dsimp only at hSw); go_simp; try with_reducible rfl)
    simp only [Act.put, List.setIfInBounds_toArray, List.set_cons_zero, List.set_cons_succ]
    refine till_take 15 (v := ?_) rfl (by kernel_rfl) (by kernel_rfl) (by kernel_rfl) (by kernel_rfl) (fun _ _ _ h => h) hHeld (Or.inl ⟨by rfl, ?_⟩) ?_
    rotate_left
    · (intro w hSw; (try dsimp only at hSw); go_simp; try with_reducible rfl)
    simp only [Act.put, List.setIfInBounds_toArray, List.set_cons_zero, List.set_cons_succ]
    refine till_take 16 (v := ?_) rfl (by kernel_rfl) (by kernel_rfl) (by kernel_rfl) (by kernel_rfl) (fun _ _ _ h => h) hHeld (Or.inl ⟨by rfl, ?_⟩) ?_
    rotate_left
    · (intro w hSw; (try dsimp only at hSw); go_simp; try with_reducible rfl)
    simp only [Act.put, List.setIfInBounds_toArray, List.set_cons_zero, List.set_cons_succ]
    refine till_take 17 (v := ?_) rfl (by kernel_rfl) (by kernel_rfl) (by kernel_rfl) (by kernel_rfl) (fun _ _ _ h => h) hHeld (Or.inl ⟨by rfl, ?_⟩) ?_
    rotate_left
    · (intro w hSw; (try dsimp only at hSw); go_simp; try with_reducible rfl)
    simp only [Act.put, List.setIfInBounds_toArray, List.set_cons_zero, List.set_cons_succ]
    refine till_ready 3 rfl (by kernel_rfl) (fun K hK => ?_)
    go_simp; (go_at_call 207; with_reducible refine (Q1.out _ (HLx.out _ BR.out)).mono ?_; rintro e y1 ⟨rfl, k1⟩); have g1 := chainB BR.out k1
    refine hK.out _ _ (HC.out _ g1) (fun hHeld => ?_)
    clear hK K
    try simp only [Act.put, List.setIfInBounds_toArray, List.set_cons_zero, List.set_cons_succ]
    refine till_take 4 (v := ?_) rfl (by kernel_rfl) (by kernel_rfl) (by kernel_rfl) (by kernel_rfl) (fun _ _ _ h => h) hHeld (Or.inl ⟨by rfl, ?_⟩) ?_
    rotate_left
    · (intro w hSw; (try dsimp only at hSw); go_simp; try with_reducible rfl)
    simp only [Act.put, List.setIfInBounds_toArray, List.set_cons_zero, List.set_cons_succ]
    refine till_ready 8 rfl (by kernel_rfl) (fun K hK => ?_)
    go_simp; (go_at_call 207; with_reducible refine (Q2.out _ (HLx.out _ g1)).mono ?_; rintro e y2 ⟨rfl, k2⟩); have g2 := chainB g1 k2
    refine hK.out _ _ (HC.out _ g2) (fun hHeld => ?_)
    clear hK K
    try simp only [Act.put, List.setIfInBounds_toArray, List.set_cons_zero, List.set_cons_succ]
    refine till_take 9 (v := ?_) rfl (by kernel_rfl) (by kernel_rfl) (by kernel_rfl) (by kernel_rfl) (fun _ _ _ h => h) hHeld (Or.inl ⟨by rfl, ?_⟩) ?_
    rotate_left
    · (intro w hSw; (try dsimp only at hSw); go_simp; try with_reducible rfl)
    simp only [Act.put, List.setIfInBounds_toArray, List.set_cons_zero, List.set_cons_succ]
    refine till_ready 13 rfl (by kernel_rfl) (fun K hK => ?_)
    go_simp; (go_at_call 207; with_reducible refine (Q3.out _ (HLx.out _ g2)).mono ?_; rintro e y3 ⟨rfl, k3⟩); have g3 := chainB g2 k3
    refine hK.out _ _ (HC.out _ g3) (fun hHeld => ?_)
    clear hK K
    try simp only [Act.put, List.setIfInBounds_toArray, List.set_cons_zero, List.set_cons_succ]
    refine till_take 14 (v := ?_) rfl (by kernel_rfl) (by kernel_rfl) (by kernel_rfl) (by kernel_rfl) (fun _ _ _ h => h) hHeld (Or.inl ⟨by rfl, ?_⟩) ?_
    rotate_left
    · (intro w hSw; (try dsimp only at hSw); go_simp; try with_reducible rfl)
    simp only [Act.put, List.setIfInBounds_toArray, List.set_cons_zero, List.set_cons_succ]
    refine till_ready 18 rfl (by kernel_rfl) (fun K hK => ?_)
    go_simp; (go_at_call 207; with_reducible refine (Q4.out _ (HLx.out _ g3)).mono ?_; rintro e y4 ⟨rfl, k4⟩); have g4 := chainB g3 k4
    refine hK.out _ _ (HC.out _ g4) (fun hHeld => ?_)
    clear hK K
    try simp only [Act.put, List.setIfInBounds_toArray, List.set_cons_zero, List.set_cons_succ]
    refine till_take 19 (v := ?_) rfl (by kernel_rfl) (by kernel_rfl) (by kernel_rfl) (by kernel_rfl) (fun _ _ _ h => h) hHeld (Or.inl ⟨by rfl, ?_⟩) ?_
    rotate_left
    · (intro w hSw; (try dsimp only at hSw); go_simp; try with_reducible rfl)
    simp only [Act.put, List.setIfInBounds_toArray, List.set_cons_zero, List.set_cons_succ]
    refine till_take 20 (v := ?_) rfl (by kernel_rfl) (by kernel_rfl) (by kernel_rfl) (by kernel_rfl) (fun _ _ _ h => h) hHeld (Or.inl ⟨by rfl, ?_⟩) ?_
    rotate_left
    · (intro w hSw; (try dsimp only at hSw); go_simp; try with_reducible rfl)
    simp only [Act.put, List.setIfInBounds_toArray, List.set_cons_zero, List.set_cons_succ]
    refine till_last rfl (by kernel_rfl) (by kernel_rfl) (fun K hK => ?_)
    have KK := HKx.out _ g4; obtain ⟨r0, r1, r2, r3⟩ := KK.four; have f0 := KK.fr 0; have f1 := KK.fr 1; have f2 := KK.fr 2; have f3 := KK.fr 3; have HE := fun x0 x1 x2 x3 => HEr.out y4 ⟨n1, n2, n3, n4⟩ x0 x1 x2 x3 (chainB HBx.out g4) HI.out; have HE : Hid _ := HE; clear KK HKx HEr HI; go_simp
    refine hK.out _ _ ?_
    clear hK K
    go_wp2_with fail
    refine bodyPost_ret (v := .agg #[.int .i64 n1, .int .i64 n2, .int .i64 n3, .int .i64 n4]) (by simp [results, Tryz.results187, go_sem, r0, r1, r2, r3]) rfl ?_
    exact HE.out _ _ _ _
  · have HI : Hid (ipT (cutB t) = tmZ) := by rw [HPs.out]; exact ipT_not h5
    have q5 : (((ps.length : Nat) : Int) != 5) = true := by simp; omega
    have HE0 : Hid (∀ (y : World), Below W1.heap.size W1 y → ∀ x0 x1 x2 x3, Ending.returned (.agg #[.int .i64 0, .int .i64 0, .int .i64 0, .int .i64 0]) = .returned (tmV (ipT (cutB t))) ∧ Below w.heap.size w ((((y.setCell ⟨w.heap.size, 0, none⟩ x0).setCell ⟨w.heap.size, 1, none⟩ x1).setCell ⟨w.heap.size, 2, none⟩ x2).setCell ⟨w.heap.size, 3, none⟩ x3)) := fun y hy x0 x1 x2 x3 => HEr.out y tmZ x0 x1 x2 x3 hy HI.out
    clear HEr HI HPs h5 HL1 HSz
    go_enter Tryz.func187, Tryz.ntmps187
    go_upto_region 1 with fail
    rw [← HW1.out]
    clear HW1
    go_wp2_with fail
    refine hcut.mono ?_
    rintro e x ⟨p, cap, rfl, hcap, -, bx⟩
    have KK := K1.out.below bx
    obtain ⟨r0, r1, r2, r3⟩ := KK.four
    have f0 := KK.fr 0
    have f1 := KK.fr 1
    have f2 := KK.fr 2
    have f3 := KK.fr 3
    have HE : Hid _ := HE0.out x bx
    clear KK HE0 bx hcut K1 B1
    go_wp2_with fail
    refine bodyPost_ret (v := .agg #[.int .i64 0, .int .i64 0, .int .i64 0, .int .i64 0]) (by simp [results, Tryz.results187, go_sem, r0, r1, r2, r3]) rfl ?_
    exact HE.out _ _ _ _
set_option maxHeartbeats 4000000 in
theorem implTombRead_any (t : ByteArray) (w : World) (ht : t.size ≤ maxLen) (hg : Laid w) :
    Calls Tryz.prog 160 #[.string t] w fun e w' => e = .returned (tmO (trO t) (trC t)) ∧ Below w.heap.size w w' := by
  obtain ⟨W1, hW1⟩ : ∃ W1, W1 = w.alloc (.cells #[.int .i64 0, .int .i64 0, .int .i64 0, .int .i64 0, .int .i64 0] 116) := ⟨_, rfl⟩
  have HW1 : Hid (W1 = w.alloc (.cells #[.int .i64 0, .int .i64 0, .int .i64 0, .int .i64 0, .int .i64 0] 116)) := hW1
  have K1 : Hid (Bxs W1 w.heap.size 116 #[.int .i64 0, .int .i64 0, .int .i64 0, .int .i64 0, .int .i64 0]) := by rw [hW1]; exact Bxs.new _ _ _
  have B1 : Hid (Below w.heap.size w W1) := by rw [hW1]; exact (Below.refl _ _).alloc (Nat.le_refl _) _
  have HL1 : Hid (Laid W1) := hg.below B1.out
  have HEr : Hid (∀ (y : World) (c : Int) (T : Tmb) (x0 x1 x2 x3 x4 : Value), Below W1.heap.size W1 y → trC t = c → trO t = T → Ending.returned (.agg #[.int .i64 T.r, .int .i64 T.f, .int .i64 T.y, .int .i64 T.a, .int .i64 c]) = .returned (tmO (trO t) (trC t)) ∧ Below w.heap.size w (((((y.setCell ⟨w.heap.size, 0, none⟩ x0).setCell ⟨w.heap.size, 1, none⟩ x1).setCell ⟨w.heap.size, 2, none⟩ x2).setCell ⟨w.heap.size, 3, none⟩ x3).setCell ⟨w.heap.size, 4, none⟩ x4)) := by
    intro y c T x0 x1 x2 x3 x4 hb hc hT
    rw [hc, hT]
    exact ⟨rfl, below_set5 (chainB B1.out hb) (Nat.le_refl _) _ _ _ _ _⟩
  clear hW1 hg
  unfold maxLen at ht
  by_cases h8 : 8000 < t.size
  · have hC : trC t = 2 := if_pos h8
    have hO : trO t = tmZ := if_neg (by rw [hC]; decide)
    have d8 : decide (8000 < (t.size : Int)) = true := decide_eq_true (by omega)
    have HE := fun x0 x1 x2 x3 x4 => HEr.out W1 2 tmZ x0 x1 x2 x3 x4 (Below.refl _ _) hC hO
    rw [HW1.out] at HE
    have HE : Hid _ := HE
    clear HEr h8 hC hO
    go_enter Tryz.func160, Tryz.ntmps160
    go_upto_region 2 with fail
    rw [← HW1.out] at HE ⊢
    obtain ⟨r0, r1, r2, r3, r4⟩ := K1.out.five
    have f0 := K1.out.fr 0
    have f1 := K1.out.fr 1
    have f2 := K1.out.fr 2
    have f3 := K1.out.fr 3
    have f4 := K1.out.fr 4
    go_wp2_with fail
    refine bodyPost_ret (v := .agg #[.int .i64 0, .int .i64 0, .int .i64 0, .int .i64 0, .int .i64 2]) (by simp [results, Tryz.results160, go_sem, r0, r1, r2, r3, r4]) rfl ?_
    exact HE.out _ _ _ _ _
  have d8 : decide (8000 < (t.size : Int)) = false := decide_eq_false (by omega)
  have ht8 : t.size ≤ 8000 := by omega
  have hRT := readTomb_any t W1 ht8 HL1.out
  have HYes : Hid (tmB (ipT (cutB t)) = true → tmRaw (ipT (cutB t)) = t → trC t = 0 ∧ trO t = ipT (cutB t)) := ip_yes ht8
  have HNo : Hid (tmB (ipT (cutB t)) = false ∨ tmRaw (ipT (cutB t)) ≠ t → trC t = 3 ∧ trO t = tmZ) := ip_no ht8
  have HTT : Hid (tmB (ipT (cutB t)) = true → tmT (ipT (cutB t)) = tmRaw (ipT (cutB t))) := fun h => if_pos h
  have hRR := fun x => implTombRight_any (ipT (cutB t)) x
  have hTX := fun x => implTombText_any (ipT (cutB t)) x
  generalize ipT (cutB t) = T at *
  obtain ⟨r, f, y, a⟩ := T
  have CR : Hid (Calls Tryz.prog 187 #[.string t] W1 fun e w' => e = .returned (.agg #[.int .i64 r, .int .i64 f, .int .i64 y, .int .i64 a]) ∧ Below W1.heap.size W1 w') := hRT
  have CG : Hid (∀ x, Calls Tryz.prog 188 #[.agg #[.int .i64 r, .int .i64 f, .int .i64 y, .int .i64 a]] x fun e w' => e = .returned (.bool (tmB ⟨r, f, y, a⟩)) ∧ Below x.heap.size x w') := hRR
  have CX : Hid (∀ x, Calls Tryz.prog 189 #[.agg #[.int .i64 r, .int .i64 f, .int .i64 y, .int .i64 a]] x fun e w' => e = .returned (.string (tmT ⟨r, f, y, a⟩)) ∧ Below x.heap.size x w') := hTX
  have eT := ba_beq (tmT ⟨r, f, y, a⟩) t
  clear hRT hRR hTX h8 HL1
  generalize tmT ⟨r, f, y, a⟩ = TX at *
  have ET : Hid ((TX.toList == t.toList) = decide (TX = t)) := eT
  clear eT
  go_enter Tryz.func160, Tryz.ntmps160
  go_upto_region 3 with fail
  rw [← HW1.out]
  clear HW1 d8
  go_wp2_with fail
  refine CR.out.mono ?_
  rintro e y1 ⟨rfl, bb1⟩
  go_upto_region 4 with fail
  obtain ⟨y2, hy2⟩ : ∃ y2, y2 = y1.alloc (.cells #[.int .i64 r, .int .i64 f, .int .i64 y, .int .i64 a] 114) := ⟨_, rfl⟩
  rw [← hy2]
  obtain ⟨Z, hZ⟩ : ∃ Z, Z = y1.heap.size := ⟨_, rfl⟩
  rw [← hZ]
  have BZ : Hid (Bxs y2 Z 114 #[.int .i64 r, .int .i64 f, .int .i64 y, .int .i64 a]) := by rw [hy2, hZ]; exact Bxs.new _ _ _
  have B2 : Hid (Below W1.heap.size W1 y2) := by rw [hy2]; exact alB bb1 _
  clear hy2 hZ bb1 CR
  obtain ⟨c0, c1, c2, c3⟩ := BZ.out.four
  cases hB : tmB ⟨r, f, y, a⟩ with
  | false =>
    obtain ⟨n1, n2⟩ := HNo.out (Or.inl hB)
    rw [hB] at CG
    go_wp2_with fail
    refine (CG.out y2).mono ?_
    rintro e y3 ⟨rfl, b3⟩
    have HE : Hid (∀ x0 x1 x2 x3 x4, _) := fun x0 x1 x2 x3 x4 => HEr.out y3 3 tmZ x0 x1 x2 x3 x4 (chainB B2.out b3) n1 n2
    have KK := K1.out.below (chainB B2.out b3)
    clear n1 n2 HEr HNo HYes
    obtain ⟨r0, r1, r2, r3, r4⟩ := KK.five
    have f0 := KK.fr 0
    have f1 := KK.fr 1
    have f2 := KK.fr 2
    have f3 := KK.fr 3
    have f4 := KK.fr 4
    clear KK
    go_wp2_with fail
    refine bodyPost_ret (v := .agg #[.int .i64 0, .int .i64 0, .int .i64 0, .int .i64 0, .int .i64 3]) (by simp [results, Tryz.results160, go_sem, r0, r1, r2, r3, r4]) rfl ?_
    exact HE.out _ _ _ _ _
  | true =>
    rw [hB] at CG
    have eTR := HTT.out hB
    cases h1 : (TX.toList == t.toList) with
    | false =>
      have d1 : decide (TX = t) = false := by rw [← ET.out]; exact h1
      obtain ⟨n1, n2⟩ := HNo.out (Or.inr (by rw [← eTR]; exact of_decide_eq_false d1))
      have HE9 : Hid (∀ y, Below W1.heap.size W1 y → ∀ x0 x1 x2 x3 x4, _) := fun y hy x0 x1 x2 x3 x4 => HEr.out y 3 tmZ x0 x1 x2 x3 x4 hy n1 n2
      clear n1 n2 HEr HNo HYes d1 eTR HTT ET hB
      go_wp2_with fail
      refine (CG.out y2).mono ?_
      rintro e y3 ⟨rfl, b3⟩
      obtain ⟨c0, c1, c2, c3⟩ := (BZ.out.below b3).four
      go_wp2_with fail
      refine (CX.out y3).mono ?_
      rintro e y4 ⟨rfl, b4⟩
      have bb := chainB (chainB B2.out b3) b4
      have HE : Hid (∀ x0 x1 x2 x3 x4, _) := HE9.out y4 bb
      have KK := K1.out.below bb
      clear HE9 b3 b4 bb
      obtain ⟨r0, r1, r2, r3, r4⟩ := KK.five
      have f0 := KK.fr 0
      have f1 := KK.fr 1
      have f2 := KK.fr 2
      have f3 := KK.fr 3
      have f4 := KK.fr 4
      clear KK
      go_wp2_with fail
      refine bodyPost_ret (v := .agg #[.int .i64 0, .int .i64 0, .int .i64 0, .int .i64 0, .int .i64 3]) (by simp [results, Tryz.results160, go_sem, r0, r1, r2, r3, r4]) rfl ?_
      exact HE.out _ _ _ _ _
    | true =>
      have d1 : decide (TX = t) = true := by rw [← ET.out]; exact h1
      obtain ⟨n1, n2⟩ := HYes.out hB (by rw [← eTR]; exact of_decide_eq_true d1)
      have HE9 : Hid (∀ y, Below W1.heap.size W1 y → ∀ x0 x1 x2 x3 x4, _) := fun y hy x0 x1 x2 x3 x4 => HEr.out y 0 _ x0 x1 x2 x3 x4 hy n1 n2
      clear n1 n2 HEr HNo HYes d1 eTR HTT ET hB
      go_wp2_with fail
      refine (CG.out y2).mono ?_
      rintro e y3 ⟨rfl, b3⟩
      obtain ⟨c0, c1, c2, c3⟩ := (BZ.out.below b3).four
      go_wp2_with fail
      refine (CX.out y3).mono ?_
      rintro e y4 ⟨rfl, b4⟩
      have bb := chainB (chainB B2.out b3) b4
      obtain ⟨c0, c1, c2, c3⟩ := (BZ.out.below (chainB b3 b4)).four
      have HE : Hid (∀ x0 x1 x2 x3 x4, _) := HE9.out y4 bb
      have KK := K1.out.below bb
      clear HE9 b3 b4 bb BZ
      obtain ⟨r0, r1, r2, r3, r4⟩ := KK.five
      have f0 := KK.fr 0
      have f1 := KK.fr 1
      have f2 := KK.fr 2
      have f3 := KK.fr 3
      have f4 := KK.fr 4
      clear KK
      go_wp2_with fail
      refine bodyPost_ret (v := .agg #[.int .i64 r, .int .i64 f, .int .i64 y, .int .i64 a, .int .i64 0]) (by simp [results, Tryz.results160, go_sem, r0, r1, r2, r3, r4]) rfl ?_
      exact HE.out _ _ _ _ _
end Go.Proofs.YtonleickhincgaaGreatDoor
/-
  What LeafKind answers, the specification's and the program's (with isRowLeaf and strings.HasPrefix on its road).
  Conditions: the text fits the form's own reach; for the program's: the variable errors.errorType holds the handle of the type error.
-/
namespace Go.Proofs.YtonleickhincgaaGreatDoor
open Go.RowKit Go.Lib
set_option linter.unusedVariables false
set_option maxRecDepth 20000

theorem pre_e (t : ByteArray) (h : 0 < t.size) : ((t.extract 0 1).toList == [101]) = decide (t.data.toList.head? = some 101) := by
  rw [show ([101] : List UInt8) = ByteArray.toList ⟨#[101]⟩ from by rw [ByteArray.toList_eq], ba_beq]
  have e : (t.extract 0 1).data.toList = [t[0]'h] := by
    rw [ByteArray.data_extract, Array.toList_extract, List.extract_eq_take_drop]
    have := List.drop_eq_getElem_cons (l := t.data.toList) (i := 0) (by simpa using h)
    simp only [List.drop_zero, Nat.sub_zero] at this ⊢
    rw [this]
    rfl
  have e2 : t.data.toList.head? = some (t[0]'h) := by
    rw [List.head?_eq_getElem?]
    exact List.getElem?_eq_getElem (by simpa using h)
  rw [e2]
  by_cases hb : (t[0]'h) = 101
  · rw [hb] at e ⊢
    rw [decide_eq_true rfl, decide_eq_true]
    apply ByteArray.ext; apply Array.ext'
    rw [e]
  · rw [decide_eq_false (fun q => hb (Option.some.inj q)), decide_eq_false]
    intro q
    rw [q] at e
    injection e with e1
    exact hb e1.symm
set_option maxHeartbeats 1000000 in
theorem litePre_any (t : ByteArray) (w : World) (h : 0 < t.size) (ht : t.size ≤ 100) : Calls Tryz.prog 217 #[.string t, .string ⟨#[101]⟩] w fun e w' => e = .returned (.bool (decide (t.data.toList.head? = some 101))) ∧ w' = w := by
  rw [← pre_e t h]
  have hsl : ∀ wx, (Instr.slice 9 (.string t) none (some (.int .i64 1)) none).run Tryz.prog wx = .ok (.string (t.extract 0 1)) wx := fun wx => by
    rw [run_slice_string_h (P := Tryz.prog) wx 9 t Tryz.underlying9 .i64 1 (by omega) (by omega)]
    rfl
  generalize t.extract 0 1 = X at *
  have d1 : decide ((1 : Int) ≤ (t.size : Int)) = true := decide_eq_true (by omega)
  go_enter Tryz.func217, Tryz.ntmps217
  go_wp2_with fail
  go_ret
  exact ⟨rfl, rfl⟩
theorem strPre_any (t : ByteArray) (w : World) (h : 0 < t.size) (ht : t.size ≤ 100) : Calls Tryz.prog 205 #[.string t, .string ⟨#[101]⟩] w fun e w' => e = .returned (.bool (decide (t.data.toList.head? = some 101))) ∧ w' = w := by
  have hl := litePre_any t w h ht
  generalize decide (t.data.toList.head? = some 101) = D at *
  go_enter Tryz.func205, Tryz.ntmps205
  go_wp2_with fail
  refine hl.mono ?_
  rintro e w1 ⟨rfl, rfl⟩
  go_wp2_with fail
  go_ret
  exact ⟨rfl, rfl⟩
theorem isRowLeaf_any (t : ByteArray) (w : World) : Calls Tryz.prog 186 #[.string t] w fun e w' => e = .returned (.bool (isRl t)) ∧ w' = w := by
  by_cases h : t.size = 33
  · have hs := strPre_any t w (by omega) (by omega)
    have HI : Hid (isRl t = decide (t.data.toList.head? = some 101)) := by show _ = _; unfold isRl; rw [decide_eq_true h]; rfl
    rw [HI.out]
    generalize decide (t.data.toList.head? = some 101) = D at *
    have q : (((t.size : Nat) : Int) == 33) = true := by simp; omega
    have H : Hid (t.size = 33) := h
    clear h
    go_enter Tryz.func186, Tryz.ntmps186
    go_wp2_with fail
    refine hs.mono ?_
    rintro e w1 ⟨rfl, rfl⟩
    go_wp2_with fail
    go_ret
    exact ⟨rfl, rfl⟩
  · have HI : Hid (isRl t = false) := by show _ = _; unfold isRl; rw [decide_eq_false h]; rfl
    rw [HI.out]
    have q : (((t.size : Nat) : Int) == 33) = false := by simp; omega
    clear h
    go_enter Tryz.func186, Tryz.ntmps186
    go_wp2_with fail
    go_ret
    exact ⟨rfl, rfl⟩
theorem field_c5 (a b c d e : Int) (x : World) : (Instr.field 116 (.agg #[.int .i64 a, .int .i64 b, .int .i64 c, .int .i64 d, .int .i64 e]) 1).run Tryz.prog x = .ok (.int .i64 e) x := by kernel_rfl
set_option maxHeartbeats 1000000 in
theorem implLeafKind_any (t : ByteArray) (w : World) (ht : t.size ≤ maxLen) (hg : Laid w) : Calls Tryz.prog 159 #[.string t] w fun e w' => e = .returned (.int .i64 (lkB t)) ∧ Below w.heap.size w w' := by
  have hr := isRowLeaf_any t w
  have hT := implTombRead_any t w ht hg
  have HL : Hid (lkB t = if isRl t = true then 1 else if trC t = 0 then 2 else 0) := rfl
  have hf := field_c5
  unfold tmO at hT
  clear ht hg
  generalize trC t = C at *
  generalize (trO t).r = n1 at *
  generalize (trO t).f = n2 at *
  generalize (trO t).y = n3 at *
  generalize (trO t).a = n4 at *
  cases hi : isRl t with
  | true =>
    rw [hi] at hr
    rw [hi, if_pos rfl] at HL
    rw [HL.out]
    clear hT
    go_enter Tryz.func159, Tryz.ntmps159
    go_wp2_with fail
    refine hr.mono ?_
    rintro e w1 ⟨rfl, rfl⟩
    go_wp2_with fail
    go_ret
    exact ⟨rfl, Below.refl _ _⟩
  | false =>
    rw [hi] at hr
    rw [hi, if_neg Bool.false_ne_true] at HL
    cases hc : (C == 0) with
    | true =>
      rw [if_pos (by simpa using hc)] at HL
      rw [HL.out]
      go_enter Tryz.func159, Tryz.ntmps159
      go_wp2_with fail
      refine hr.mono ?_
      rintro e w1 ⟨rfl, rfl⟩
      go_wp2_with fail
      refine hT.mono ?_
      rintro e w2 ⟨rfl, b2⟩
      go_wp2_with fail
      go_ret
      exact ⟨rfl, b2⟩
    | false =>
      rw [if_neg (by simpa using hc)] at HL
      rw [HL.out]
      go_enter Tryz.func159, Tryz.ntmps159
      go_wp2_with fail
      refine hr.mono ?_
      rintro e w1 ⟨rfl, rfl⟩
      go_wp2_with fail
      refine hT.mono ?_
      rintro e w2 ⟨rfl, b2⟩
      go_wp2_with fail
      go_ret
      exact ⟨rfl, b2⟩
set_option maxHeartbeats 1000000 in
theorem specLeafKind_any (t : ByteArray) (w : World) (ht : t.size ≤ maxLen) : Calls Tryz.prog 109 #[.string t] w fun e w' => e = .returned (.int .i64 (lkB t)) ∧ Below w.heap.size w w' := by
  have hT := specTombRead_any t w ht
  have HL : Hid (lkB t = if isRl t = true then 1 else if trC t = 0 then 2 else 0) := rfl
  have hf := field_c5
  unfold tmO at hT
  unfold maxLen at ht
  generalize trC t = C at *
  generalize (trO t).r = n1 at *
  generalize (trO t).f = n2 at *
  generalize (trO t).y = n3 at *
  generalize (trO t).a = n4 at *
  by_cases h : t.size = 33
  · have hpos : 0 < t.size := by omega
    obtain ⟨b, hb⟩ : ∃ b, b = t[0]'hpos := ⟨_, rfl⟩
    have HI : Hid (isRl t = decide (b = 101)) := by
      show _ = _
      unfold isRl
      rw [decide_eq_true h, List.head?_eq_getElem?, List.getElem?_eq_getElem (show 0 < t.data.toList.length by rw [sz_list]; omega)]
      have : t.data.toList[0]'(by rw [sz_list]; omega) = b := by rw [hb]; rfl
      rw [this]; simp
    have q : (((t.size : Nat) : Int) == 33) = true := by simp; omega
    have H : Hid (t.size = 33) := h
    clear h
    cases hq : (((t[0]'hpos).toNat : Int) == 101) with
    | true =>
      have hb2 : b = 101 := by
        rw [hb]
        have := eq_of_beq hq; have : (t[0]'hpos).toNat = 101 := by omega
        exact UInt8.toNat_inj.1 this
      rw [HI.out, decide_eq_true hb2, if_pos rfl] at HL
      rw [HL.out]
      clear hT HI hb2 hb
      have h0 : (0 : Int) < t.size := by omega
      go_enter Tryz.func109, Tryz.ntmps109
      go_wp2_with fail
      go_ret
      exact ⟨rfl, Below.refl _ _⟩
    | false =>
      have hb2 : ¬ b = 101 := by
        rw [hb]
        intro e
        rw [e] at hq
        exact absurd hq (by decide)
      rw [HI.out, decide_eq_false hb2, if_neg Bool.false_ne_true] at HL
      clear HI hb2 hb
      have h0 : (0 : Int) < t.size := by omega
      cases hc : (C == 0) with
      | true =>
        rw [if_pos (by simpa using hc)] at HL
        rw [HL.out]
        go_enter Tryz.func109, Tryz.ntmps109
        go_wp2_with fail
        refine hT.mono ?_
        rintro e w2 ⟨rfl, b2⟩
        go_wp2_with fail
        go_ret
        exact ⟨rfl, b2⟩
      | false =>
        rw [if_neg (by simpa using hc)] at HL
        rw [HL.out]
        go_enter Tryz.func109, Tryz.ntmps109
        go_wp2_with fail
        refine hT.mono ?_
        rintro e w2 ⟨rfl, b2⟩
        go_wp2_with fail
        go_ret
        exact ⟨rfl, b2⟩
  · have HI : isRl t = false := by unfold isRl; rw [decide_eq_false h]; rfl
    rw [HI, if_neg Bool.false_ne_true] at HL
    have q : (((t.size : Nat) : Int) == 33) = false := by simp; omega
    clear h HI
    cases hc : (C == 0) with
    | true =>
      rw [if_pos (by simpa using hc)] at HL
      rw [HL.out]
      go_enter Tryz.func109, Tryz.ntmps109
      go_wp2_with fail
      refine hT.mono ?_
      rintro e w2 ⟨rfl, b2⟩
      go_wp2_with fail
      go_ret
      exact ⟨rfl, b2⟩
    | false =>
      rw [if_neg (by simpa using hc)] at HL
      rw [HL.out]
      go_enter Tryz.func109, Tryz.ntmps109
      go_wp2_with fail
      refine hT.mono ?_
      rintro e w2 ⟨rfl, b2⟩
      go_wp2_with fail
      go_ret
      exact ⟨rfl, b2⟩
end Go.Proofs.YtonleickhincgaaGreatDoor
