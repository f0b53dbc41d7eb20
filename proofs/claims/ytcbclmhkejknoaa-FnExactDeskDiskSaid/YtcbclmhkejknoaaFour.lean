/-
  The four bytes of a number below 2^32, as the specification's l01Four and the program's sumOf make them: 'four n', in new memory; nothing that was there turns.
  Conditions: the number is from 0 to 2^32 - 1; the string fits the form's own reach.
-/
import Derived.Test.YtcbclmhkejknoaaRows
import Derived.Test.YtcbclmhkejknoaaBytes
import Derived.Test.YtcbclmhkejknoaaCrc
import Derived.Handy
import Derived.Laws.BytesArg
namespace Go.Proofs.Ytcbclmhkejknoaa
open Go.RowKit Go.Lib
set_option linter.unusedVariables false

def fourN (n : Int) : List Int := [n % 256, n / 256 % 256, n / 65536 % 256, n / 16777216]
def fourV (n : Int) : Array Value := #[.int .u8 (n % 256), .int .u8 (n / 256 % 256), .int .u8 (n / 65536 % 256), .int .u8 (n / 16777216)]
def four (n : Int) : ByteArray := strOfNums (fourN n)
theorem four_size (n : Int) : (four n).size = 4 := strOfNums_size _

theorem four_cells (w : World) (n : Int) (t : TypeId) : ∀ i, i < 4 → (w.alloc (.cells (fourV n) t)).cell? ⟨w.heap.size, 0 + i, none⟩ = some (.int .u8 ((fourN n).getD i 0)) := by
  intro i hi
  rw [World.cell?_alloc_mark]
  match i, hi with
  | 0, _ => rfl
  | 1, _ => rfl
  | 2, _ => rfl
  | 3, _ => rfl

theorem four_conv (w : World) (n : Int) (t : TypeId) :
    (convert 63 9 (.slice (some ⟨w.heap.size, 0, none⟩) 4 4)).run Try.prog (w.alloc (.cells (fourV n) t)) = .ok (.string (four n)) (w.alloc (.cells (fourV n) t)) :=
  run_convert_bytes_arg (P := Try.prog) (w.alloc (.cells (fourV n) t)) 63 5 Try.underlying63 Try.underlying5 w.heap.size 0 4 4 (fourN n) rfl (four_cells w n t) 9 Try.underlying9

set_option maxHeartbeats 1000000 in
theorem specFour_any (n : Int) (w : World) (h0 : 0 ≤ n) (h1 : n ≤ 4294967295) :
    Calls Try.prog 38 #[.int .i64 n] w fun e w' => e = .returned (.string (four n)) ∧ Below w.heap.size w w' := by
  have hconv := four_conv w n 5
  unfold fourV at hconv
  go_enter Try.func38, Try.ntmps38
  go_wp2
  go_ret
  exact ⟨rfl, (Below.refl _ _).alloc (Nat.le_refl _) _⟩

set_option maxHeartbeats 1000000 in
theorem sumOf_any (s : ByteArray) (w : World) (hs : s.size ≤ maxLen)  :
    Calls Try.prog 48 #[.string s] w fun e w' => e = .returned (.string (four (crcB 0 s))) ∧ Below w.heap.size w w' := by
  have hb := crcB_bd 0 s
  go_enter Try.func48, Try.ntmps48
  go_wp2_with (go_at_call 51; refine (implCrc_any _ _ hs).mono ?_; rintro e w1 ⟨rfl, hw⟩)
  subst hw
  generalize hN : crcB 0 s = n at *
  have HN : Hid (crcB 0 s = n) := hN
  clear hN
  obtain ⟨n0, n1⟩ := hb
  have hconv := four_conv w1 n 78
  unfold fourV at hconv
  go_rounds 5
  go_ret
  exact ⟨ret_str (by rw [HN.out]), (Below.refl _ _).alloc (Nat.le_refl _) _⟩
end Go.Proofs.Ytcbclmhkejknoaa
