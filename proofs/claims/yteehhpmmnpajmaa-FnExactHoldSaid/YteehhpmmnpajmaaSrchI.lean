/-
  What slices.BinarySearch answers for numbers that rise.
-/
import Derived.Test.YteehhpmmnpajmaaRows
import Derived.Test.YteehhpmmnpajmaaBytes
import Derived.Test.YteehhpmmnpajmaaIntK
import Derived.Test.YteehhpmmnpajmaaPolMath
import Derived.Test.YteehhpmmnpajmaaPolIdx
import Derived.Handy
import Derived.WalkSpells
import Derived.OwnWalk
namespace Go.Proofs.Yteehhpmmnpajmaa
open Go.RowKit Go.Lib
set_option linter.unusedVariables false
set_option maxRecDepth 20000

theorem isNaN64_any (x : Int) (w : World) : Calls Try.prog 92 #[.int .i64 x] w fun e w' => e = .returned (.bool false) ∧ w' = w := by
  go_enter Try.func92, Try.ntmps92
  go_wp2_with fail
  go_ret
  exact ⟨rfl, rfl⟩
theorem isNaNs64_any (x : Int) (w : World) : Calls Try.prog 78 #[.int .i64 x] w fun e w' => e = .returned (.bool false) ∧ w' = w := by
  go_enter Try.func78, Try.ntmps78
  go_wp2_with fail
  go_ret
  exact ⟨rfl, rfl⟩
theorem less64_any (x y : Int) (w : World) : Calls Try.prog 77 #[.int .i64 x, .int .i64 y] w fun e w' => e = .returned (.bool (decide (x < y))) ∧ w' = w := by
  have h1 := isNaN64_any x w
  generalize hb : decide (x < y) = b
  go_enter Try.func77, Try.ntmps77
  go_wp2_with fail
  refine h1.mono ?_
  rintro e w1 ⟨rfl, rfl⟩
  go_wp2_with fail
  go_ret
  exact ⟨rfl, rfl⟩
set_option maxHeartbeats 2000000 in
theorem search_any (p : Option Addr) (cap : Nat) (hs : List Int) (r : Int) (w : World) (hp : IntAt w p hs) (hn : hs.length ≤ 1000) (ho : okL heB heLt hs = true) :
    Calls Try.prog 44 #[.slice p hs.length cap, .int .i64 r] w fun e w' => e = .returned (.tuple #[.int .i64 (twI (ltI r) hs : Nat), .bool (thereB (ltI r) (eqI r) hs)]) ∧ w' = w := by
  have HP : Hid (IntAt w p hs) := hp
  have HM : Hid (∀ j (hj : j < hs.length) i (hi : i ≤ j), ltI r hs[j] = true → ltI r (hs[i]'(by omega)) = true) := monoI ho r
  clear hp ho
  have hT := tw_le (ltI r) hs
  have HT1 : Hid (∀ j (h : j < hs.length), j < twI (ltI r) hs → ltI r hs[j] = true) := fun j h hj => tw_lt (ltI r) hs j hj
  have HT2 : Hid (∀ j (h : j < hs.length), twI (ltI r) hs ≤ j → ltI r hs[j] = false) := fun j h hj => by
    cases hq : ltI r hs[j] with
    | false => rfl
    | true =>
      have a := HM.out j h _ hj hq
      rw [tw_at (ltI r) hs (by omega)] at a; cases a
  have HTH : Hid (thereB (ltI r) (eqI r) hs = if h : twI (ltI r) hs < hs.length then eqI r hs[twI (ltI r) hs] else false) := rfl
  generalize thereB (ltI r) (eqI r) hs = TH at *
  generalize hTe : twI (ltI r) hs = T at *
  clear hTe HM
  go_enter Try.func44, Try.ntmps44
  go_wp2_with fail
  go_loopw [7, 8] (fun x y wr => ∃ i j : Nat, i ≤ T ∧ T ≤ j ∧ j ≤ hs.length ∧ x = .int .i64 i ∧ y = .int .i64 j ∧ Hid (wr = w)) (fun x y _ => (intOf y).toNat - (intOf x).toNat)
  case atStart => exact ⟨0, hs.length, by omega, by omega, by omega, rfl, rfl, rfl⟩
  case round =>
    obtain ⟨i, j, h1, h2, h3, rfl, rfl, HW⟩ := hrel
    have HW := HW.out
    subst HW
    by_cases hlt : i < j
    · have i1 : (i : Int) < j := by omega
      have hHj : (i + j) / 2 < hs.length := by omega
      obtain ⟨b, off, rfl, hb, hc⟩ := HP.out ((i + j) / 2) hHj
      have g1 : Hid (ltI r hs[(i + j) / 2] = true → (i + j) / 2 + 1 ≤ T) := fun h => by
        rcases Nat.lt_or_ge ((i + j) / 2) T with q | q
        · exact q
        · have := HT2.out _ hHj q; rw [h] at this; cases this
      have g2 : Hid (ltI r hs[(i + j) / 2] = false → T ≤ (i + j) / 2) := fun h => by
        rcases Nat.lt_or_ge ((i + j) / 2) T with q | q
        · have := HT1.out _ hHj q; rw [h] at this; cases this
        · exact q
      have hL := less64_any hs[(i + j) / 2] r wr
      have HE : Hid (ltI r hs[(i + j) / 2] = decide (hs[(i + j) / 2] < r)) := rfl
      cases hq : ltI r hs[(i + j) / 2] with
      | true =>
        have k1 := g1.out hq
        rw [← HE.out, hq] at hL
        generalize hs[(i + j) / 2] = x at *
        clear g1 g2 HE hq
        go_wp2_with fail
        refine hL.mono ?_
        rintro e w1 ⟨rfl, rfl⟩
        go_wp2_with fail
        go_roundw
        case rel => exact ⟨(i + j) / 2 + 1, j, k1, h2, h3, congrArg (Value.int .i64) (by omega), rfl, trivial⟩
        case measure => simp [intOf]; omega
      | false =>
        have k1 := g2.out hq
        rw [← HE.out, hq] at hL
        generalize hs[(i + j) / 2] = x at *
        clear g1 g2 HE hq
        go_wp2_with fail
        refine hL.mono ?_
        rintro e w1 ⟨rfl, rfl⟩
        go_wp2_with fail
        go_roundw
        case rel => exact ⟨i, (i + j) / 2, h1, k1, by omega, rfl, congrArg (Value.int .i64) (by omega), trivial⟩
        case measure => simp [intOf]; omega
    · obtain rfl : i = T := by omega
      obtain rfl : j = i := by omega
      by_cases hk : j < hs.length
      · have i1 : (j : Int) < hs.length := by omega
        rw [dif_pos hk] at HTH
        obtain ⟨b, off, rfl, hb, hc⟩ := HP.out j hk
        have HE : Hid (eqI r hs[j] = (hs[j] == r)) := rfl
        have hN := isNaNs64_any hs[j] wr
        cases hq : eqI r hs[j] with
        | true =>
          have HTT : Hid (TH = true) := by rw [hq] at HTH; exact HTH
          have hx : hs[j] = r := by simpa [eqI] using hq
          rw [hx] at hc
          clear HE hq hx HT1 HT2 HTH hN
          go_wp2_with fail
          go_ret2
          exact ⟨by rw [HTT.out]; rfl, rfl⟩
        | false =>
          have HTT : Hid (TH = false) := by rw [hq] at HTH; exact HTH
          have hx : (hs[j] == r) = false := hq
          generalize hs[j] = x at *
          clear HE hq HT1 HT2 HTH
          go_wp2_with fail
          refine hN.mono ?_
          rintro e w1 ⟨rfl, rfl⟩
          go_wp2_with fail
          go_ret2
          exact ⟨by rw [HTT.out]; rfl, rfl⟩
      · have i1 : decide ((j : Int) < hs.length) = false := decide_eq_false (by omega)
        rw [dif_neg hk] at HTH
        have HTT : Hid (TH = false) := HTH
        clear HT1 HT2 HTH
        go_wp2_with fail
        go_ret2
        exact ⟨by rw [HTT.out]; rfl, rfl⟩
end Go.Proofs.Yteehhpmmnpajmaa
