/-
  The specification's l02All: the digest of a text, 'digB', in new memory.
  Conditions: the text is at most 2^40 bytes long.
-/
import Derived.Test.YtnomkcbcjaagmamDoorRows
import Derived.Test.YtnomkcbcjaagmamDoorBytes
import Derived.Test.YtnomkcbcjaagmamDoorDigMath
import Derived.Test.YtnomkcbcjaagmamDoorOwnB
import Derived.Test.YtnomkcbcjaagmamDoorTurn2
import Derived.Test.YtnomkcbcjaagmamDoorBlock2
import Derived.Handy
import Derived.WalkSpells
import Derived.Deep.AppendLies
namespace Go.Proofs.YtnomkcbcjaagmamDoor
open Go.RowKit Go.Lib
set_option linter.unusedVariables false

theorem infoU8a : (Tryd.prog.info? 5).map (fun i => (i.zero, i.size, i.bytes)) = some (some (.int .u8 0), 1, 1) := by kernel_rfl
theorem conv_str_b (w : World) (t : ByteArray) (ht : t.size ≤ maxLen) : ∃ C W0, (convert 9 55 (.string t)).run Tryd.prog w = .ok (.slice (some ⟨w.heap.size, 0, none⟩) t.size C) W0 ∧
    OwnB W0 w.heap.size w.heap.size C (bytesN t) ∧ Below w.heap.size w W0 :=
  ⟨_, _, run_bytes_of_string (P := Tryd.prog) w 9 55 5 t Tryd.underlying9 Tryd.underlying55 Tryd.underlying5, ownB_of_string w t _ ht, ((Below.refl _ _).drew).alloc (Nat.le_refl _) _⟩
theorem app_b (w : World) (base g cap : Nat) (xs : List Int) (n : Nat) (hn : xs.length = n) (h : OwnB w base g cap xs) (x : Int) (hlen : n < 70368744177664) (hB : base ≤ w.heap.size) (w0 : World) (hb : Below base w0 w) :
    ∃ g' cap' w', (Builtin.append_ #[55, 55] 55 #[.slice (some ⟨g, 0, none⟩) n cap, .slice (some ⟨w.heap.size, 0, none⟩) 1 1]).run Tryd.prog (w.alloc (.cells #[.int .u8 x] 5)) = .ok (.slice (some ⟨g', 0, none⟩) (n + 1) cap') w' ∧
      OwnB w' base g' cap' (xs ++ [x]) ∧ Below base w0 w' := by
  subst hn
  obtain ⟨i0, hi, hz0, hz1, hz2⟩ := info_parts infoU8a
  obtain ⟨g', cap', w', h1, h2, h3⟩ := append_b (P := Tryd.prog) (w.alloc (.cells #[.int .u8 x] 5)) 55 55 5 i0 Tryd.underlying55 hi hz0 hz1 hz2 base g cap xs (h.alloc _) ⟨w.heap.size, 0, none⟩ 1 x (World.cell?_alloc_mark _ _ _ _ _) hlen (by rw [size_alloc]; omega)
  exact ⟨g', cap', w', h1, h2, h3 w0 (hb.alloc hB _)⟩
theorem four4_eq {y : Int} (h0 : 0 ≤ y) (h1 : y ≤ 4294967295) : four4 y = [y / 16777216, y / 65536 % 256, y / 256 % 256, y % 256] := by unfold four4; rw [show y / 16777216 % 256 = y / 16777216 by omega]
def lenV : Value → Nat
  | .slice _ n _ => n
  | _ => 0

end Go.Proofs.YtnomkcbcjaagmamDoor
