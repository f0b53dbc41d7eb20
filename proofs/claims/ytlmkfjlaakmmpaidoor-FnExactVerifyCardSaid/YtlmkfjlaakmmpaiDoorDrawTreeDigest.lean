/-
  Parts of one proof, laid as one text: Digest, DrawTree; what each says stands at its head.
-/
import Derived.Test.YtlmkfjlaakmmpaiDoorRows
import Derived.Test.YtlmkfjlaakmmpaiDoorBytes
import Derived.Test.YtlmkfjlaakmmpaiDoorDigMath
import Derived.Test.YtlmkfjlaakmmpaiDoorAll2
import Derived.Test.YtlmkfjlaakmmpaiDoorDigI
import Derived.Handy
import Derived.Test.YtlmkfjlaakmmpaiDoorSlA
import Derived.Test.YtlmkfjlaakmmpaiDoorSlBOwnS
import Derived.Test.YtlmkfjlaakmmpaiDoorSrcDrawsDrawKit
import Derived.Test.YtlmkfjlaakmmpaiDoorSome
import Derived.WalkSpells
import Derived.Deep.QuietTactic
import Derived.BigQuiet
/-
  What Digest answers, in the program and in the specification: 'digestB': the digest of a text of at most 8000 bytes, else nothing.
-/
namespace Go.Proofs.YtlmkfjlaakmmpaiDoor
open Go.RowKit Go.Lib
set_option linter.unusedVariables false
set_option maxRecDepth 20000

def digestB (t : ByteArray) : ByteArray := if t.size ≤ 8000 then digB t else ByteArray.empty

set_option maxHeartbeats 400000 in
theorem implDigest_any (t : ByteArray) (w : World) (ht : t.size ≤ maxLen) (hT : Tabs w) :
    Calls Tryd.prog 53 #[.string t] w fun e w' => e = .returned (.string (digestB t)) ∧ Below w.heap.size w w' := by
  have HT : Hid (Tabs w) := hT
  clear hT
  by_cases h : t.size ≤ 8000
  · have H : Hid (digestB t = digB t) := if_pos h
    go_enter Tryd.func53, Tryd.ntmps53
    go_wp2_with (go_at_call 57; refine (digI_any t _ (by omega) HT.out).mono ?_; rintro e w1 ⟨rfl, hb⟩)
    go_ret
    exact ⟨ret_str H.out.symm, hb⟩
  · have H : Hid (digestB t = ByteArray.empty) := if_neg h
    unfold maxLen at ht
    go_enter Tryd.func53, Tryd.ntmps53
    go_wp2
    go_ret
    exact ⟨ret_str H.out.symm, Below.refl _ _⟩
end Go.Proofs.YtlmkfjlaakmmpaiDoor
/-
  What lwTexts answers of two slices of texts; what DrawPathOf and DrawProofOf draw: at most 30 texts of at most 101 bytes, and a number from -1 to 31.
-/
namespace Go.Proofs.YtlmkfjlaakmmpaiDoor
open Go.RowKit Go.Lib
set_option linter.unusedVariables false
set_option maxRecDepth 20000

/-- What is drawn: few and small texts. -/
def Drawn (w : World) (v : Value) (L : List ByteArray) : Prop := ∃ q cq, v = .slice q L.length cq ∧ L.length ≤ cq ∧ TxtAt w q L ∧ L.length ≤ 31 ∧ ∀ x ∈ L, x.size ≤ 101
theorem own_drawn {w : World} {base : Nat} {v : Value} {L : List ByteArray} (h : w.ownsRow base 9 1 v L.length (strRow L)) (hl : L.length ≤ 31) (hs : ∀ x ∈ L, x.size ≤ 101) : Drawn w v L := by
  obtain ⟨q, cq, rfl, h1, h2⟩ := ownS_form h
  exact ⟨q, cq, rfl, h1, h2, hl, hs⟩

end Go.Proofs.YtlmkfjlaakmmpaiDoor
