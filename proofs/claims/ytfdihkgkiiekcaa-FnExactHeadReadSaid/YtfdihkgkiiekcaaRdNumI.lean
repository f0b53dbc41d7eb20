/-
  What the program's readNum answers.
  Conditions: the string fits the form's own reach; the place is an int64.
-/
import Derived.Test.YtfdihkgkiiekcaaRows
import Derived.Test.YtfdihkgkiiekcaaBytes
import Derived.Test.YtfdihkgkiiekcaaScanMath
import Derived.Test.YtfdihkgkiiekcaaReadBits
import Derived.Test.YtfdihkgkiiekcaaGetVal
import Derived.Handy
namespace Go.Proofs.Ytfdihkgkiiekcaa
open Go.RowKit Go.Extern.Stop Go.Stop Go.Extern
set_option linter.unusedVariables false

def rnBad (c : Int) : Value := .tuple #[.int .i64 0, .int .i64 0, .iface 61 (.agg #[.int .i64 c])]
def rnOk (n a : Int) : Value := .tuple #[.int .i64 n, .int .i64 a, .nilIface]
def rnV (s : ByteArray) (a : Int) : Value := if (getN s a).2.2 = 0 then rnOk (getN s a).1 (getN s a).2.1 else rnBad (getN s a).2.2

theorem rnV_of {s : ByteArray} {a c : Int} (h : getN s a = (0, 0, c)) (hc : c ≠ 0) : rnV s a = rnBad c := by unfold rnV; rw [h, if_neg hc]
theorem rnV_okk {s : ByteArray} {a n b : Int} (h : getN s a = (n, b, 0)) : rnV s a = rnOk n b := by unfold rnV; rw [h, if_pos rfl]
set_option maxRecDepth 20000 in
set_option maxHeartbeats 2000000 in
theorem readNum_any (s : ByteArray) (at0 : Int) (w : World) (hs : s.size ≤ maxLen) (h1 : at0 ≤ 9223372036854775807) :
    Calls Try.prog 22 #[.string s, .int .i64 at0] w fun e w' => e = .returned (rnV s at0) ∧ w' = w := by
  unfold maxLen at hs
  by_cases hb : 8000 < s.size
  · have H : Hid (rnV s at0 = rnBad 2) := rnV_of (by unfold getN; rw [if_pos hb]) (by decide)
    go_enter Try.func22, Try.ntmps22
    go_wp2_with fail
    go_ret3
    exact ⟨ret_valN (H.out.trans rfl).symm, rfl⟩
  by_cases h0 : at0 < 0
  · have H : Hid (rnV s at0 = rnBad 1) := rnV_of (by unfold getN; rw [if_neg hb, if_pos h0]) (by decide)
    go_enter Try.func22, Try.ntmps22
    go_wp2_with fail
    go_ret3
    exact ⟨ret_valN (H.out.trans rfl).symm, rfl⟩
  obtain ⟨a, ha⟩ : ∃ a : Nat, at0 = a := ⟨at0.toNat, by omega⟩
  subst ha
  rcases scanAt_bd s a with hbd | hbd
  · obtain ⟨c, u, k, hsc⟩ : ∃ c u k, scanAt s a = (c, u, k) := ⟨_, _, _, rfl⟩
    rw [hsc] at hbd
    have hc0 : c = 0 := hbd.1
    subst hc0
    have u0' : 0 ≤ u := hbd.2.1
    have u1' : u ≤ 18446744073709551615 := hbd.2.2.1
    have HRB : Hid (rbV s a = .tuple #[.int .u64 u, .int .i64 ((a : Int) + (k : Int)), .nilIface]) := rbV_ok hsc
    have H : Hid (rnV s (a : Int) = rnOk (unfoldN u) ((a : Int) + (k : Int))) := rnV_okk (by unfold getN; rw [if_neg hb, if_neg h0, Int.toNat_natCast, hsc, if_pos rfl])
    have HA : Hid (bits .and .u64 u 1 = u % 2) := and1 u u0' (by omega)
    clear hbd hsc
    cases hp : (bits .and .u64 u 1 == 1)
    · have HU : Hid (unfoldN u = u / 2) := if_neg (by rw [HA.out] at hp; simp at hp; omega)
      go_enter Try.func22, Try.ntmps22
      go_wp2_with (go_at_call 24; refine (readBits_any _ _ _ (by omega) h1).mono ?_; rintro e w1 ⟨rfl, hw⟩; rw [HRB.out]; subst hw)
      go_ret3
      exact ⟨ret_valN (by rw [H.out, HU.out]; rfl), rfl⟩
    · have HU : Hid (unfoldN u = -(u / 2) - 1) := if_pos (by rw [HA.out] at hp; simpa using hp)
      have HN : Hid (bits .xor .i64 (-1) (u / 2) = -(u / 2) - 1) := not64 (u / 2) (by omega) (by omega)
      go_enter Try.func22, Try.ntmps22
      go_wp2_with (go_at_call 24; refine (readBits_any _ _ _ (by omega) h1).mono ?_; rintro e w1 ⟨rfl, hw⟩; rw [HRB.out]; subst hw)
      go_ret3
      exact ⟨ret_valN (by rw [H.out, HU.out, ← HN.out]; rfl), rfl⟩
  · obtain ⟨c, u, k, hsc⟩ : ∃ c u k, scanAt s a = (c, u, k) := ⟨_, _, _, rfl⟩
    rw [hsc] at hbd
    obtain ⟨hc34, hu0, hk0⟩ := hbd
    have e1 : u = 0 := hu0
    have e2 : k = 0 := hk0
    subst e1 e2
    have hc : c ≠ 0 := by have : c = 3 ∨ c = 4 := hc34; omega
    have HRB : Hid (rbV s a = .tuple #[.int .u64 0, .int .i64 0, .iface 61 (.agg #[.int .i64 c])]) := rbV_bad ⟨hc, hsc⟩
    have H : Hid (rnV s (a : Int) = rnBad c) := rnV_of (by unfold getN; rw [if_neg hb, if_neg h0, Int.toNat_natCast, hsc, if_neg hc]) hc
    clear hsc hc34 hu0 hk0 hc
    go_enter Try.func22, Try.ntmps22
    go_wp2_with (go_at_call 24; refine (readBits_any _ _ _ (by omega) h1).mono ?_; rintro e w1 ⟨rfl, hw⟩; rw [HRB.out]; subst hw)
    go_ret3
    exact ⟨ret_valN (H.out.trans rfl).symm, rfl⟩
end Go.Proofs.Ytfdihkgkiiekcaa
