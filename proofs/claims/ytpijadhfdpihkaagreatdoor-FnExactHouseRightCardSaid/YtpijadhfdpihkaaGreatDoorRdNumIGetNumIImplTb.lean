/-
  Parts of one proof, laid as one text: RdNumI, GetNumI, ImplTb; what each says stands at its head.
-/
import Derived.Test.YtpijadhfdpihkaaGreatDoorRows
import Derived.Test.YtpijadhfdpihkaaGreatDoorBytesDigMath
import Derived.Test.YtpijadhfdpihkaaGreatDoorFldRiseScanMath
import Derived.Test.YtpijadhfdpihkaaGreatDoorRngXScopesReadBits
import Derived.Test.YtpijadhfdpihkaaGreatDoorGetValGetTxtNumMathFldRdNumFromTmbMath
import Derived.Handy
import Derived.Test.YtpijadhfdpihkaaGreatDoorAsDAs2CodeOfTimeIGrK
import Derived.Test.YtpijadhfdpihkaaGreatDoorTimeBPutMathPutNum
import Derived.Test.YtpijadhfdpihkaaGreatDoorJoinedPutTextFldMath
import Derived.Test.YtpijadhfdpihkaaGreatDoorSlASlBBxKOwnS
import Derived.WalkSpells
import Derived.OwnWalk
import Derived.Deep.RegionHeld3
import Derived.Deep.RegionWith
import Derived.Deep.Cut
/-
  What the program's readNum answers.
  Conditions: the string fits the form's own reach; the place is an int64.
-/
namespace Go.Proofs.YtpijadhfdpihkaaGreatDoor
open Go.RowKit Go.Extern.Stop Go.Stop Go.Extern
set_option linter.unusedVariables false

def rnBad (c : Int) : Value := .tuple #[.int .i64 0, .int .i64 0, .iface 181 (.agg #[.int .i64 c])]
def rnOk (n a : Int) : Value := .tuple #[.int .i64 n, .int .i64 a, .nilIface]
def rnV (s : ByteArray) (a : Int) : Value := if (getN s a).2.2 = 0 then rnOk (getN s a).1 (getN s a).2.1 else rnBad (getN s a).2.2

theorem rnV_of {s : ByteArray} {a c : Int} (h : getN s a = (0, 0, c)) (hc : c ≠ 0) : rnV s a = rnBad c := by unfold rnV; rw [h, if_neg hc]
theorem rnV_okk {s : ByteArray} {a n b : Int} (h : getN s a = (n, b, 0)) : rnV s a = rnOk n b := by unfold rnV; rw [h, if_pos rfl]
set_option maxRecDepth 20000 in
set_option maxHeartbeats 2000000 in
theorem readNum_any (s : ByteArray) (at0 : Int) (w : World) (hs : s.size ≤ maxLen) (h1 : at0 ≤ 9223372036854775807) :
    Calls Tryz.prog 115 #[.string s, .int .i64 at0] w fun e w' => e = .returned (rnV s at0) ∧ w' = w := by
  unfold maxLen at hs
  by_cases hb : 8000 < s.size
  · have H : Hid (rnV s at0 = rnBad 2) := rnV_of (by unfold getN; rw [if_pos hb]) (by decide)
    go_enter Tryz.func115, Tryz.ntmps115
    go_wp2_with fail
    go_ret3
    exact ⟨ret_valN (H.out.trans rfl).symm, rfl⟩
  by_cases h0 : at0 < 0
  · have H : Hid (rnV s at0 = rnBad 1) := rnV_of (by unfold getN; rw [if_neg hb, if_pos h0]) (by decide)
    go_enter Tryz.func115, Tryz.ntmps115
    go_wp2_with fail
    go_ret3
    exact ⟨ret_valN (H.out.trans rfl).symm, rfl⟩
  obtain ⟨a, ha⟩ : ∃ a : Nat, at0 = a := ⟨at0.toNat, by omega⟩
  subst ha
  rcases scanAt_bd s a with hbd | hbd
  · obtain ⟨c, u, k, hsc⟩ : ∃ c u k, scanAt s a = (c, u, k) := ⟨_, _, _, rfl⟩
    rw [hsc] at hbd
    have hc0 : c = 0 := hbd.1
    subst hc0
    have u0' : 0 ≤ u := hbd.2.1
    have u1' : u ≤ 18446744073709551615 := hbd.2.2.1
    have HRB : Hid (rbV s a = .tuple #[.int .u64 u, .int .i64 ((a : Int) + (k : Int)), .nilIface]) := rbV_ok hsc
    have H : Hid (rnV s (a : Int) = rnOk (unfoldN u) ((a : Int) + (k : Int))) := rnV_okk (by unfold getN; rw [if_neg hb, if_neg h0, Int.toNat_natCast, hsc, if_pos rfl])
    have HA : Hid (bits .and .u64 u 1 = u % 2) := and1 u u0' (by omega)
    clear hbd hsc
    cases hp : (bits .and .u64 u 1 == 1)
    · have HU : Hid (unfoldN u = u / 2) := if_neg (by rw [HA.out] at hp; simp at hp; omega)
      go_enter Tryz.func115, Tryz.ntmps115
      go_wp2_with (go_at_call 123; refine (readBits_any _ _ _ (by omega) h1).mono ?_; rintro e w1 ⟨rfl, hw⟩; rw [HRB.out]; subst hw)
      go_ret3
      exact ⟨ret_valN (by rw [H.out, HU.out]; rfl), rfl⟩
    · have HU : Hid (unfoldN u = -(u / 2) - 1) := if_pos (by rw [HA.out] at hp; simpa using hp)
      have HN : Hid (bits .xor .i64 (-1) (u / 2) = -(u / 2) - 1) := not64 (u / 2) (by omega) (by omega)
      go_enter Tryz.func115, Tryz.ntmps115
      go_wp2_with (go_at_call 123; refine (readBits_any _ _ _ (by omega) h1).mono ?_; rintro e w1 ⟨rfl, hw⟩; rw [HRB.out]; subst hw)
      go_ret3
      exact ⟨ret_valN (by rw [H.out, HU.out, ← HN.out]; rfl), rfl⟩
  · obtain ⟨c, u, k, hsc⟩ : ∃ c u k, scanAt s a = (c, u, k) := ⟨_, _, _, rfl⟩
    rw [hsc] at hbd
    obtain ⟨hc34, hu0, hk0⟩ := hbd
    have e1 : u = 0 := hu0
    have e2 : k = 0 := hk0
    subst e1 e2
    have hc : c ≠ 0 := by have : c = 3 ∨ c = 4 := hc34; omega
    have HRB : Hid (rbV s a = .tuple #[.int .u64 0, .int .i64 0, .iface 181 (.agg #[.int .i64 c])]) := rbV_bad ⟨hc, hsc⟩
    have H : Hid (rnV s (a : Int) = rnBad c) := rnV_of (by unfold getN; rw [if_neg hb, if_neg h0, Int.toNat_natCast, hsc, if_neg hc]) hc
    clear hsc hc34 hu0 hk0 hc
    go_enter Tryz.func115, Tryz.ntmps115
    go_wp2_with (go_at_call 123; refine (readBits_any _ _ _ (by omega) h1).mono ?_; rintro e w1 ⟨rfl, hw⟩; rw [HRB.out]; subst hw)
    go_ret3
    exact ⟨ret_valN (H.out.trans rfl).symm, rfl⟩
end Go.Proofs.YtpijadhfdpihkaaGreatDoor
/-
  What the program's readNum and GetNum answer: 'getN' of the text and the place.
  Conditions: the string fits the form's own reach; the place is an int64; for GetNum: the variable errors.errorType holds the handle of the type error.
-/
namespace Go.Proofs.YtpijadhfdpihkaaGreatDoor
open Go.RowKit Go.Extern.Stop Go.Stop Go.Extern
set_option linter.unusedVariables false

set_option maxHeartbeats 2000000 in
theorem implGetNum_any (s : ByteArray) (at0 : Int) (w : World) (hs : s.size ≤ maxLen) (h1 : at0 ≤ 9223372036854775807) (hg : Laid w) :
    Calls Tryz.prog 107 #[.string s, .int .i64 at0] w fun e w' => e = .returned (getV s at0) ∧ Below w.heap.size w w' := by
  rcases getN_cases s at0 with ⟨n, b, hgn⟩ | ⟨c, hc, hgn⟩
  · have HRN : Hid (rnV s at0 = .tuple #[.int .i64 n, .int .i64 b, .nilIface]) := rnV_okk hgn
    have H : Hid (getV s at0 = numOut n b 0) := by show _ = _; unfold getV; rw [hgn]
    clear hgn hg
    go_enter Tryz.func107, Tryz.ntmps107
    go_wp2_with (first | (go_at_call 115; refine (readNum_any _ _ _ hs h1).mono ?_; rintro e w1 ⟨rfl, hw⟩; rw [HRN.out]; subst hw) | (go_at_call 116; refine (codeOf_nil _).mono ?_; rintro e w2 ⟨rfl, hb⟩; obtain ⟨hcc, hff⟩ := bcell hb))
    refine bodyPost_ret (v := numOut n b 0) (by simp [numOut, results, Tryz.results107, go_sem, hcc]) rfl ⟨ret_valN H.out.symm, ?_⟩
    exact ((((Below.refl _ _).alloc (Nat.le_refl _) _).trans (hb.mono (by simp))).setCell (Nat.le_refl _) _).setCell (Nat.le_refl _) _ |>.setCell (Nat.le_refl _) _
  · have HRN : Hid (rnV s at0 = .tuple #[.int .i64 0, .int .i64 0, .iface 181 (.agg #[.int .i64 c])]) := rnV_of hgn hc
    have H : Hid (getV s at0 = numOut 0 0 c) := by show _ = _; unfold getV; rw [hgn]
    have HG : Hid (∀ o, Laid (w.alloc o)) := fun o => hg.below ((Below.refl _ _).alloc (Nat.le_refl _) o)
    clear hgn hg hc
    go_enter Tryz.func107, Tryz.ntmps107
    go_wp2_with (first | (go_at_call 115; refine (readNum_any _ _ _ hs h1).mono ?_; rintro e w1 ⟨rfl, hw⟩; rw [HRN.out]; subst hw) | (go_at_call 116; refine (codeOf_hit _ _ (HG.out _)).mono ?_; rintro e w2 ⟨rfl, hb⟩; obtain ⟨hcc, hff⟩ := bcell hb))
    refine bodyPost_ret (v := numOut 0 0 c) (by simp [numOut, results, Tryz.results107, go_sem, hcc]) rfl ⟨ret_valN H.out.symm, ?_⟩
    exact ((((Below.refl _ _).alloc (Nat.le_refl _) _).trans (hb.mono (by simp))).setCell (Nat.le_refl _) _).setCell (Nat.le_refl _) _ |>.setCell (Nat.le_refl _) _

end Go.Proofs.YtpijadhfdpihkaaGreatDoor
/-
  What the program's whyRight, TombRight and TombText answer.
-/
namespace Go.Proofs.YtpijadhfdpihkaaGreatDoor
open Go.RowKit Go.Lib
set_option linter.unusedVariables false
set_option maxRecDepth 20000

theorem whyRight_any (y : Int) (w : World) : Calls Tryz.prog 108 #[.int .i64 y] w fun e w' => e = .returned (.bool (decide (1 ≤ y ∧ y ≤ 2))) ∧ w' = w := by
  by_cases h1 : y = 1
  · subst h1
    rw [show decide ((1 : Int) ≤ 1 ∧ (1 : Int) ≤ 2) = true from rfl]
    go_enter Tryz.func108, Tryz.ntmps108
    go_wp2_with fail
    go_ret
    exact ⟨rfl, rfl⟩
  by_cases h2 : y = 2
  · subst h2
    rw [show decide ((1 : Int) ≤ 2 ∧ (2 : Int) ≤ 2) = true from rfl]
    go_enter Tryz.func108, Tryz.ntmps108
    go_wp2_with fail
    go_ret
    exact ⟨rfl, rfl⟩
  have e1 : (y == 1) = false := beq_eq_false_iff_ne.2 h1
  have e2 : (y == 2) = false := beq_eq_false_iff_ne.2 h2
  rw [decide_eq_false (show ¬ (1 ≤ y ∧ y ≤ 2) by omega)]
  clear h1 h2
  go_enter Tryz.func108, Tryz.ntmps108
  go_wp2_with fail
  go_ret
  exact ⟨rfl, rfl⟩
theorem tmB_six (t : Tmb) : tmB t = (decide (0 ≤ t.r) && (decide (t.r ≤ 63) && (decide (0 ≤ t.f) && (decide (t.f < 3) && (decide (1 ≤ t.y ∧ t.y ≤ 2) && timeB t.a))))) := by
  have : (t.f ≤ 2) ↔ (t.f < 3) := by omega
  unfold tmB timeB; simp [Bool.and_assoc, this]
set_option maxHeartbeats 2000000 in
theorem implTombRight_any (t : Tmb) (w : World) : Calls Tryz.prog 99 #[tmV t] w fun e w' => e = .returned (.bool (tmB t)) ∧ Below w.heap.size w w' := by
  rw [tmB_six]
  obtain ⟨r, f, y, a⟩ := t
  show Calls Tryz.prog 99 #[.agg #[.int .i64 r, .int .i64 f, .int .i64 y, .int .i64 a]] w _
  dsimp only
  obtain ⟨W1, hW1⟩ : ∃ W1, W1 = w.alloc (.cells #[.int .i64 r, .int .i64 f, .int .i64 y, .int .i64 a] 95) := ⟨_, rfl⟩
  have HW1 : Hid (W1 = w.alloc (.cells #[.int .i64 r, .int .i64 f, .int .i64 y, .int .i64 a] 95)) := hW1
  have B1 : Hid (Below w.heap.size w W1) := by rw [hW1]; exact (Below.refl _ _).alloc (Nat.le_refl _) _
  have K1 : Bxs W1 w.heap.size 95 #[.int .i64 r, .int .i64 f, .int .i64 y, .int .i64 a] := by rw [hW1]; exact Bxs.new _ _ _
  obtain ⟨x0, x1, x2, x3⟩ : W1.cell? ⟨w.heap.size, 0, none⟩ = some (.int .i64 r) ∧ W1.cell? ⟨w.heap.size, 1, none⟩ = some (.int .i64 f) ∧ W1.cell? ⟨w.heap.size, 2, none⟩ = some (.int .i64 y) ∧ W1.cell? ⟨w.heap.size, 3, none⟩ = some (.int .i64 a) := ⟨K1.cell 0, K1.cell 1, K1.cell 2, K1.cell 3⟩
  clear K1 hW1
  have Qy : Hid (∀ x, Calls Tryz.prog 108 #[.int .i64 y] x fun e w' => e = .returned (.bool (decide (1 ≤ y ∧ y ≤ 2))) ∧ w' = x) := fun x => whyRight_any y x
  have Qa : Hid (∀ x, Calls Tryz.prog 51 #[.int .i64 a] x fun e w' => e = .returned (.bool (timeB a)) ∧ w' = x) := fun x => timeRight_any a x
  generalize decide (1 ≤ y ∧ y ≤ 2) = Dy at *
  generalize timeB a = Da at *
  cases d0 : decide (0 ≤ r) with
  | false =>
    go_enter Tryz.func99, Tryz.ntmps99
    go_upto_region 1 with fail
    rw [← HW1.out]
    go_wp2_with fail
    go_ret
    exact ⟨rfl, B1.out⟩
  | true =>
  cases d1 : decide (r ≤ 63) with
  | false =>
    go_enter Tryz.func99, Tryz.ntmps99
    go_upto_region 1 with fail
    rw [← HW1.out]
    go_wp2_with fail
    go_ret
    exact ⟨rfl, B1.out⟩
  | true =>
  cases d2 : decide (0 ≤ f) with
  | false =>
    go_enter Tryz.func99, Tryz.ntmps99
    go_upto_region 1 with fail
    rw [← HW1.out]
    go_wp2_with fail
    go_ret
    exact ⟨rfl, B1.out⟩
  | true =>
  cases d3 : decide (f < 3) with
  | false =>
    go_enter Tryz.func99, Tryz.ntmps99
    go_upto_region 1 with fail
    rw [← HW1.out]
    go_wp2_with fail
    go_ret
    exact ⟨rfl, B1.out⟩
  | true =>
  cases Dy with
  | false =>
    go_enter Tryz.func99, Tryz.ntmps99
    go_upto_region 1 with fail
    rw [← HW1.out]
    go_wp2_with fail
    refine (Qy.out _).mono ?_
    rintro e w1 ⟨rfl, rfl⟩
    go_wp2_with fail
    go_ret
    exact ⟨rfl, B1.out⟩
  | true =>
  cases Da with
  | false =>
    go_enter Tryz.func99, Tryz.ntmps99
    go_upto_region 1 with fail
    rw [← HW1.out]
    go_wp2_with fail
    refine (Qy.out _).mono ?_
    rintro e w1 ⟨rfl, rfl⟩
    go_wp2_with fail
    refine (Qa.out _).mono ?_
    rintro e w1 ⟨rfl, rfl⟩
    go_wp2_with fail
    go_ret
    exact ⟨rfl, B1.out⟩
  | true =>
    go_enter Tryz.func99, Tryz.ntmps99
    go_upto_region 1 with fail
    rw [← HW1.out]
    go_wp2_with fail
    refine (Qy.out _).mono ?_
    rintro e w1 ⟨rfl, rfl⟩
    go_wp2_with fail
    refine (Qa.out _).mono ?_
    rintro e w1 ⟨rfl, rfl⟩
    go_wp2_with fail
    go_ret
    exact ⟨rfl, B1.out⟩
theorem cat_five (a b c d e : ByteArray) : cat [a, b, c, d, e] = a ++ b ++ c ++ d ++ e := by
  apply ByteArray.ext; apply Array.ext'
  simp [cat]
set_option maxHeartbeats 4000000 in
theorem implTombText_any (t : Tmb) (w : World) : Calls Tryz.prog 100 #[tmV t] w fun e w' => e = .returned (.string (tmT t)) ∧ Below w.heap.size w w' := by
  have hr := fun x => implTombRight_any t x
  have hb := tmB_iff t
  have HT : Hid (tmT t = if tmB t = true then tmRaw t else ByteArray.empty) := rfl
  obtain ⟨r, f, y, a⟩ := t
  show Calls Tryz.prog 100 #[.agg #[.int .i64 r, .int .i64 f, .int .i64 y, .int .i64 a]] w _
  obtain ⟨W1, hW1⟩ : ∃ W1, W1 = w.alloc (.cells #[.int .i64 r, .int .i64 f, .int .i64 y, .int .i64 a] 95) := ⟨_, rfl⟩
  have HW1 : Hid (W1 = w.alloc (.cells #[.int .i64 r, .int .i64 f, .int .i64 y, .int .i64 a] 95)) := hW1
  have B1 : Hid (Below w.heap.size w W1) := by rw [hW1]; exact (Below.refl _ _).alloc (Nat.le_refl _) _
  have K1 : Hid (Bxs W1 w.heap.size 95 #[.int .i64 r, .int .i64 f, .int .i64 y, .int .i64 a]) := by rw [hW1]; exact Bxs.new _ _ _
  clear hW1
  cases h : tmB ⟨r, f, y, a⟩ with
  | false =>
    rw [h] at hr
    rw [h, if_neg Bool.false_ne_true] at HT
    have HR : Hid (∀ x, Calls Tryz.prog 99 #[.agg #[.int .i64 r, .int .i64 f, .int .i64 y, .int .i64 a]] x fun e w' => e = .returned (.bool false) ∧ Below x.heap.size x w') := hr
    rw [HT.out]
    clear hr hb h HT K1
    go_enter Tryz.func100, Tryz.ntmps100
    go_wp2_with fail
    rw [← HW1.out]
    refine (HR.out W1).mono ?_
    rintro e w1 ⟨rfl, b1⟩
    have c1 : Hid (Below w.heap.size w w1) := chainB B1.out b1
    clear b1
    go_wp2_with fail
    go_ret
    exact ⟨rfl, c1.out⟩
  | true =>
    obtain ⟨⟨a0, a1⟩, ⟨b0, b1⟩, ⟨c0, c1⟩, d0, d1⟩ := hb.1 h
    dsimp only at a0 a1 b0 b1 c0 c1 d0 d1
    rw [h] at hr
    rw [h, if_pos rfl] at HT
    have HR : Hid (∀ x, Calls Tryz.prog 99 #[.agg #[.int .i64 r, .int .i64 f, .int .i64 y, .int .i64 a]] x fun e w' => e = .returned (.bool true) ∧ Below x.heap.size x w') := hr
    have HX : Hid (∀ x, Below W1.heap.size W1 x → x.cell? ⟨w.heap.size, 0, none⟩ = some (.int .i64 r) ∧ x.cell? ⟨w.heap.size, 1, none⟩ = some (.int .i64 f) ∧ x.cell? ⟨w.heap.size, 2, none⟩ = some (.int .i64 y) ∧ x.cell? ⟨w.heap.size, 3, none⟩ = some (.int .i64 a)) := fun x hb => ⟨(K1.out.below hb).cell 0, (K1.out.below hb).cell 1, (K1.out.below hb).cell 2, (K1.out.below hb).cell 3⟩
    have QP : ∀ (n : Int), -9223372036854775808 ≤ n → n ≤ 9223372036854775807 → ∀ x, Below W1.heap.size W1 x → Calls Tryz.prog 110 #[.int .i64 n] x fun e x1 => e = .returned (.string (putB n)) ∧ Below W1.heap.size W1 x1 := fun n h0 h1 x hb => (implPutNum_any n x h0 h1).mono (by rintro e x1 ⟨rfl, b⟩; exact ⟨rfl, chainB hb b⟩)
    have Qr : Hid (∀ x, Below W1.heap.size W1 x → Calls Tryz.prog 110 #[.int .i64 r] x fun e x1 => e = .returned (.string (putB r)) ∧ Below W1.heap.size W1 x1) := QP r (by omega) (by omega)
    have Qf : Hid (∀ x, Below W1.heap.size W1 x → Calls Tryz.prog 110 #[.int .i64 f] x fun e x1 => e = .returned (.string (putB f)) ∧ Below W1.heap.size W1 x1) := QP f (by omega) (by omega)
    have Qy : Hid (∀ x, Below W1.heap.size W1 x → Calls Tryz.prog 110 #[.int .i64 y] x fun e x1 => e = .returned (.string (putB y)) ∧ Below W1.heap.size W1 x1) := QP y (by omega) (by omega)
    have Qa : Hid (∀ x, Below W1.heap.size W1 x → Calls Tryz.prog 110 #[.int .i64 a] x fun e x1 => e = .returned (.string (putB a)) ∧ Below W1.heap.size W1 x1) := QP a (by omega) (by omega)
    have zr := putB_size r
    have zf := putB_size f
    have zy := putB_size y
    have za := putB_size a
    have z0 : (⟨#[116]⟩ : ByteArray).size = 1 := rfl
    have QJ : Hid (∀ x, Below W1.heap.size W1 x → Calls Tryz.prog 109 #[.slice (some ⟨x.heap.size, 0, none⟩) 5 5] (x.alloc (.cells #[.string ⟨#[116]⟩, .string (putB r), .string (putB f), .string (putB y), .string (putB a)] 9)) fun e x1 => e = .returned (.string (tmRaw ⟨r, f, y, a⟩)) ∧ Below W1.heap.size W1 x1) := fun x hb => by
      have h := joined_new [⟨#[116]⟩, putB r, putB f, putB y, putB a] x (by simp) (by rw [cat_five, ByteArray.size_append, ByteArray.size_append, ByteArray.size_append, ByteArray.size_append]; omega)
      rw [cat_five] at h
      refine h.mono ?_
      rintro e x1 ⟨rfl, b⟩
      exact ⟨rfl, chainB hb b⟩
    have QJ2 : Hid (∀ x, Below W1.heap.size W1 x → Calls Tryz.prog 109 #[.slice (some ⟨x.heap.size, 0, none⟩) 5 5] (x.alloc (.cells #[.string ⟨#[116]⟩, .string (putB r), .string (putB f), .string (putB y), .string (putB a)] 9)).drew fun e x1 => e = .returned (.string (tmRaw ⟨r, f, y, a⟩)) ∧ Below W1.heap.size W1 x1) := fun x hb => QJ.out x.drew hb.drew
    rw [HT.out]
    generalize tmRaw ⟨r, f, y, a⟩ = O at *
    generalize putB r = R at *
    generalize putB f = F at *
    generalize putB y = Y at *
    generalize putB a = A at *
    clear hr hb h HT QP a0 a1 b0 b1 c0 c1 d0 d1 zr zf zy za z0 K1
    go_enter Tryz.func100, Tryz.ntmps100
    go_wp2_with fail
    rw [← HW1.out]
    refine (HR.out W1).mono ?_
    rintro e w1 ⟨rfl, HR1⟩
    have HR1 : Hid (Below W1.heap.size W1 w1) := HR1
    go_wp2_with fail
    first
      | (go_region_held3 (fun w' => w'.cell? ⟨w.heap.size, 0, none⟩ = some (.int .i64 r) ∧ w'.cell? ⟨w.heap.size, 1, none⟩ = some (.int .i64 f) ∧ w'.cell? ⟨w.heap.size, 2, none⟩ = some (.int .i64 y) ∧ w'.cell? ⟨w.heap.size, 3, none⟩ = some (.int .i64 a)) ((refine HX.out _ ?hT; (case hT => (with_reducible repeat (first | assumption | exact HR1.out | refine Below.drew ?_ | refine alB ?_ _))))) (first
        | (go_at_call 110; with_reducible refine (Qr.out _ ?hB).mono ?_; (case hB => first | exact HR1.out | exact HR1.out.drew); rintro e x1 ⟨rfl, y1⟩)
        | (go_at_call 110; with_reducible refine (Qf.out _ ?hB).mono ?_; (case hB => first | exact y1 | exact y1.drew); rintro e x2 ⟨rfl, y2⟩)
        | (go_at_call 110; with_reducible refine (Qy.out _ ?hB).mono ?_; (case hB => first | exact y2 | exact y2.drew); rintro e x3 ⟨rfl, y3⟩)
        | (go_at_call 110; with_reducible refine (Qa.out _ ?hB).mono ?_; (case hB => first | exact y3 | exact y3.drew); rintro e x4 ⟨rfl, y4⟩)
        | (go_at_call 109; (first | with_reducible refine (QJ.out _ ?hB).mono ?_ | with_reducible refine (QJ2.out _ ?hB).mono ?_); (case hB => first | exact y4 | exact y4.drew); rintro e x5 ⟨rfl, y5⟩)))
      | fail
    all_goals
      have y6 := chainB B1.out y5
      go_wp2_with fail
      go_ret
      exact ⟨rfl, y6⟩
end Go.Proofs.YtpijadhfdpihkaaGreatDoor
