/-
  What Stretch answers, in the program and in the specification: 'strA'.
  Conditions: for the program's half the two tables lie as the program's text lays them; rounds is an int64.
-/
import Derived.Test.YtjdgeiddbmmckaaDoorRows
import Derived.Test.YtjdgeiddbmmckaaDoorBytes
import Derived.Test.YtjdgeiddbmmckaaDoorDigMath
import Derived.Test.YtjdgeiddbmmckaaDoorMacMath
import Derived.Test.YtjdgeiddbmmckaaDoorMac2
import Derived.Test.YtjdgeiddbmmckaaDoorMacI
import Derived.Handy
namespace Go.Proofs.YtjdgeiddbmmckaaDoor
open Go.RowKit Go.Lib
set_option linter.unusedVariables false
set_option maxRecDepth 20000

set_option maxHeartbeats 1000000 in
theorem specStretch_any (pass : ByteArray) (n : Int) (w : World) (hp : pass.size ≤ maxLen) (n0 : -9223372036854775808 ≤ n) (n1 : n ≤ 9223372036854775807) :
    Calls Tryd.prog 21 #[.string pass, .int .i64 n] w fun e w' => e = .returned (.string (strA pass n)) ∧ Below w.heap.size w w' := by
  unfold maxLen at hp
  by_cases h1 : pass.size ≤ 8000
  · by_cases h2 : 1 ≤ n
    · by_cases h3 : n ≤ 100
      · have H : Hid (strA pass n = strB pass n.toNat) := if_pos ⟨h1, h2, h3⟩
        obtain ⟨N, rfl⟩ : ∃ N : Nat, n = N := ⟨n.toNat, by omega⟩
        rw [Int.toNat_natCast] at H
        go_enter Tryd.func21, Tryd.ntmps21
        go_wp2
        go_loopw [6, 5] (fun x v wr => ∃ k : Nat, k ≤ N ∧ x = .int .i64 k ∧ v = .string (strB pass k) ∧ Below w.heap.size w wr) (fun x _ _ => N - (intOf x).toNat)
        case atStart => exact ⟨0, by omega, rfl, rfl, Below.refl _ _⟩
        case round =>
          obtain ⟨k, hk, rfl, rfl, hnx⟩ := hrel
          by_cases hlt : k < N
          · have hsz := strB_size pass k
            have HS : Hid (macB pass (strB pass k) = strB pass (k + 1)) := rfl
            have hc := fun w => specMacB_any pass (strB pass k) w (by omega) (by omega)
            rw [HS.out] at hc
            generalize strB pass k = u at *
            go_wp2_with (go_at_call 36; refine (hc _).mono ?_; rintro e w1 ⟨rfl, hb⟩)
            go_roundw
            case rel => exact ⟨k + 1, by omega, by go_num, rfl, chain2 hnx hb⟩
            case measure => simp [intOf]; omega
          · have hkk : k = N := by omega
            subst hkk
            go_wp2
            go_ret
            exact ⟨ret_str H.out.symm, hnx⟩
      · have H : Hid (strA pass n = ByteArray.empty) := if_neg (fun h => h3 h.2.2)
        go_enter Tryd.func21, Tryd.ntmps21
        go_wp2
        go_ret
        exact ⟨ret_str H.out.symm, Below.refl _ _⟩
    · have H : Hid (strA pass n = ByteArray.empty) := if_neg (fun h => h2 h.2.1)
      go_enter Tryd.func21, Tryd.ntmps21
      go_wp2
      go_ret
      exact ⟨ret_str H.out.symm, Below.refl _ _⟩
  · have H : Hid (strA pass n = ByteArray.empty) := if_neg (fun h => h1 h.1)
    go_enter Tryd.func21, Tryd.ntmps21
    go_wp2
    go_ret
    exact ⟨ret_str H.out.symm, Below.refl _ _⟩

set_option maxHeartbeats 1000000 in
theorem implStretch_any (pass : ByteArray) (n : Int) (w : World) (hT : Tabs w) (hp : pass.size ≤ maxLen) (n0 : -9223372036854775808 ≤ n) (n1 : n ≤ 9223372036854775807) :
    Calls Tryd.prog 20 #[.string pass, .int .i64 n] w fun e w' => e = .returned (.string (strA pass n)) ∧ Below w.heap.size w w' := by
  unfold maxLen at hp
  have HT : Hid (Tabs w) := hT
  clear hT
  by_cases h1 : pass.size ≤ 8000
  · by_cases h2 : 1 ≤ n
    · by_cases h3 : n ≤ 100
      · have H : Hid (strA pass n = strB pass n.toNat) := if_pos ⟨h1, h2, h3⟩
        obtain ⟨N, rfl⟩ : ∃ N : Nat, n = N := ⟨n.toNat, by omega⟩
        rw [Int.toNat_natCast] at H
        go_enter Tryd.func20, Tryd.ntmps20
        go_wp2
        go_loopw [18, 5] (fun x v wr => ∃ k : Nat, k ≤ N ∧ x = .int .i64 k ∧ v = .string (strB pass k) ∧ Below w.heap.size w wr) (fun x _ _ => N - (intOf x).toNat)
        case atStart => exact ⟨0, by omega, rfl, rfl, Below.refl _ _⟩
        case round =>
          obtain ⟨k, hk, rfl, rfl, hnx⟩ := hrel
          by_cases hlt : k < N
          · have hsz := strB_size pass k
            have HS : Hid (macB pass (strB pass k) = strB pass (k + 1)) := rfl
            have hc := macIB_any pass (strB pass k) wr (HT.out.below hnx HT.out.1) h1 (by omega)
            rw [HS.out] at hc
            generalize strB pass k = u at *
            go_wp2_with (go_at_call 16; refine hc.mono ?_; rintro e w1 ⟨rfl, hb⟩)
            go_roundw
            case rel => exact ⟨k + 1, by omega, by go_num, rfl, chain2 hnx hb⟩
            case measure => simp [intOf]; omega
          · have hkk : k = N := by omega
            subst hkk
            go_wp2
            go_ret
            exact ⟨ret_str H.out.symm, hnx⟩
      · have H : Hid (strA pass n = ByteArray.empty) := if_neg (fun h => h3 h.2.2)
        go_enter Tryd.func20, Tryd.ntmps20
        go_wp2
        go_ret
        exact ⟨ret_str H.out.symm, Below.refl _ _⟩
    · have H : Hid (strA pass n = ByteArray.empty) := if_neg (fun h => h2 h.2.1)
      go_enter Tryd.func20, Tryd.ntmps20
      go_wp2
      go_ret
      exact ⟨ret_str H.out.symm, Below.refl _ _⟩
  · have H : Hid (strA pass n = ByteArray.empty) := if_neg (fun h => h1 h.1)
    go_enter Tryd.func20, Tryd.ntmps20
    go_wp2
    go_ret
    exact ⟨ret_str H.out.symm, Below.refl _ _⟩
end Go.Proofs.YtjdgeiddbmmckaaDoor
