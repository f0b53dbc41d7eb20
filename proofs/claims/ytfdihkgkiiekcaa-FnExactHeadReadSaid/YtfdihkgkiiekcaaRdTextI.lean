/-
  What the program's readText answers.
  Conditions: the string fits the form's own reach; the place is an int64.
-/
import Derived.Test.YtfdihkgkiiekcaaRows
import Derived.Test.YtfdihkgkiiekcaaBytes
import Derived.Test.YtfdihkgkiiekcaaScanMath
import Derived.Test.YtfdihkgkiiekcaaGetVal
import Derived.Test.YtfdihkgkiiekcaaGetTxt
import Derived.Test.YtfdihkgkiiekcaaRdNumI
import Derived.Test.YtfdihkgkiiekcaaJoined
import Derived.Handy
import Derived.WalkSpells
import Derived.Deep.RegionHeld3
namespace Go.Proofs.Ytfdihkgkiiekcaa
open Go.RowKit Go.Extern.Stop Go.Stop Go.Extern
set_option linter.unusedVariables false

def rtBad (c : Int) : Value := .tuple #[.string ByteArray.empty, .int .i64 0, .iface 61 (.agg #[.int .i64 c])]
def rtOk (t : ByteArray) (a : Int) : Value := .tuple #[.string t, .int .i64 a, .nilIface]
/-- What readText hands back, and GetText's answer beside it. -/
def ReadsTo (s : ByteArray) (a : Int) (v : Value) : Prop :=
  (∃ c, c ≠ 0 ∧ v = rtBad c ∧ getTV s a = txt ByteArray.empty 0 c) ∨ (∃ t b, v = rtOk t b ∧ getTV s a = txt t b 0)

set_option maxHeartbeats 2000000 in
theorem readText_any (s : ByteArray) (at0 : Int) (w : World) (hs : s.size ≤ maxLen) (h1 : at0 ≤ 9223372036854775807) :
    Calls Try.prog 23 #[.string s, .int .i64 at0] w fun e w' => (∃ v, e = .returned v ∧ ReadsTo s at0 v) ∧ Below w.heap.size w w' := by
  rcases getN_cases s at0 with ⟨n, b, hgn⟩ | ⟨c, hc, hgn⟩
  · obtain ⟨b0, b1, hs8, n0, n1⟩ := getN_ok hgn
    have HRN : Hid (rnV s at0 = .tuple #[.int .i64 n, .int .i64 b, .nilIface]) := rnV_okk hgn
    by_cases hn0 : n < 0
    · have H : Hid (getTV s at0 = txt ByteArray.empty 0 3) := getTV_syn hgn (.inl hn0)
      have d1 : decide (n < 0) = true := by simp; omega
      clear hgn
      go_enter Try.func23, Try.ntmps23
      go_wp2_with (go_at_call 22; refine (readNum_any _ _ _ hs h1).mono ?_; rintro e w1 ⟨rfl, hw⟩; rw [HRN.out]; subst hw)
      go_ret3
      exact ⟨⟨_, rfl, .inl ⟨3, by decide, rfl, H.out⟩⟩, Below.refl _ _⟩
    have d1 : decide (n < 0) = false := by simp; omega
    by_cases hn1 : 8000 < n
    · have H : Hid (getTV s at0 = txt ByteArray.empty 0 3) := getTV_syn hgn (.inr hn1)
      have d2 : decide (8000 < n) = true := by simp; omega
      clear hgn
      go_enter Try.func23, Try.ntmps23
      go_wp2_with (go_at_call 22; refine (readNum_any _ _ _ hs h1).mono ?_; rintro e w1 ⟨rfl, hw⟩; rw [HRN.out]; subst hw)
      go_ret3
      exact ⟨⟨_, rfl, .inl ⟨3, by decide, rfl, H.out⟩⟩, Below.refl _ _⟩
    have d2 : decide (8000 < n) = false := by simp; omega
    by_cases hl : (s.size : Int) < b + n
    · have H : Hid (getTV s at0 = txt ByteArray.empty 0 4) := getTV_short hgn (by omega) hl
      clear hgn
      go_enter Try.func23, Try.ntmps23
      go_wp2_with (go_at_call 22; refine (readNum_any _ _ _ hs h1).mono ?_; rintro e w1 ⟨rfl, hw⟩; rw [HRN.out]; subst hw)
      go_ret3
      exact ⟨⟨_, rfl, .inl ⟨4, by decide, rfl, H.out⟩⟩, Below.refl _ _⟩
    · have H : Hid (getTV s at0 = txt (s.extract b.toNat (b + n).toNat) (b + n) 0) := getTV_ok hgn (by omega) hl
      have hsz : (s.extract b.toNat (b + n).toNat).size ≤ 8000 := by simp; omega
      have hsl := fun wx => run_slice_string (P := Try.prog) wx 9 s .i64 .i64 b (b + n) Try.underlying9 (by omega) (by omega) (by omega)
      clear hgn
      go_enter Try.func23, Try.ntmps23
      go_wp2_with (first | (go_at_call 22; refine (readNum_any _ _ _ hs h1).mono ?_; rintro e w1 ⟨rfl, hw⟩; rw [HRN.out]; subst hw) | (go_at_call 25; refine (joined_one _ _ (by omega)).mono ?_; rintro e w2 ⟨rfl, hb2⟩))
      go_ret3
      exact ⟨⟨_, rfl, .inr ⟨_, _, rfl, H.out⟩⟩, hb2⟩
  · have HRN : Hid (rnV s at0 = .tuple #[.int .i64 0, .int .i64 0, .iface 61 (.agg #[.int .i64 c])]) := rnV_of hgn hc
    have H : Hid (getTV s at0 = txt ByteArray.empty 0 c) := getTV_bad hgn hc
    have HC : Hid (c ≠ 0) := hc
    clear hgn hc
    go_enter Try.func23, Try.ntmps23
    go_wp2_with (go_at_call 22; refine (readNum_any _ _ _ hs h1).mono ?_; rintro e w1 ⟨rfl, hw⟩; rw [HRN.out]; subst hw)
    go_ret3
    exact ⟨⟨_, rfl, .inl ⟨c, HC.out, rfl, H.out⟩⟩, Below.refl _ _⟩
end Go.Proofs.Ytfdihkgkiiekcaa
