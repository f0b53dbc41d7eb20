/-
  Parts of one proof, laid as one text: DrawNode, SpecLeaf; what each says stands at its head.
-/
import Derived.Test.YtclpccnppmbpcaaDoorRows
import Derived.Test.YtclpccnppmbpcaaDoorBytes
import Derived.Test.YtclpccnppmbpcaaDoorDigMath
import Derived.Test.YtclpccnppmbpcaaDoorDrawTreeDigest
import Derived.Test.YtclpccnppmbpcaaDoorSrc
import Derived.Test.YtclpccnppmbpcaaDoorDraws
import Derived.Test.YtclpccnppmbpcaaDoorDrawKit
import Derived.Test.YtclpccnppmbpcaaDoorSpoil
import Derived.Handy
import Derived.WalkSpells
import Derived.Test.YtclpccnppmbpcaaDoorTreeMath
import Derived.Test.YtclpccnppmbpcaaDoorSlA
import Derived.Test.YtclpccnppmbpcaaDoorLeafNode
/-
  What DrawNodeHash draws: two texts of at most 32 bytes.
-/
namespace Go.Proofs.YtclpccnppmbpcaaDoor
open Go.RowKit Go.Lib
set_option linter.unusedVariables false
set_option maxRecDepth 20000

theorem digestB_wide {t : ByteArray} (h : t.size ≤ 8000) : (digestB t).size = 32 := by unfold digestB; rw [if_pos h]; exact digB_size _

set_option maxHeartbeats 2000000 in
theorem drawNode_any (B : Nat) (a : Option Addr) (len cap : Nat) (w : World) (hlen : len ≤ 1048576) (hB : B ≤ w.heap.size) (hc : CodeAt B a len w) :
    Calls Tryd.prog 37 #[.slice a len cap] w fun e w' => (∃ x y : ByteArray, e = .returned (.tuple #[.string x, .string y]) ∧ x.size ≤ 32 ∧ y.size ≤ 32) ∧ Below w.heap.size w w' := by
  have HC : Hid (CodeAt B a len w) := hc
  clear hc
  go_enter Tryd.func37, Tryd.ntmps37
  go_wp2_with fail
  refine (source_any B a len cap w hlen hB HC.out).mono ?_
  rintro e w1 ⟨rfl, hs1, hb1⟩
  have H1 : Hid (Src 97 B w.heap.size a len cap w1) := hs1
  clear hs1
  go_wp2_with fail
  refine (bytes_any B w.heap.size a len cap 2 _ H1.out (by omega)).mono ?_
  rintro e w2 ⟨⟨t, rfl, ht⟩, hs2, hg2⟩
  have H2 : Hid (Src 97 B w.heap.size a len cap w2) := hs2
  have hb2 := below_touch hb1 hg2 (Nat.le_refl _)
  clear hs2 hg2 H1
  have htm : t.size ≤ maxLen := by rw [ht]; decide
  go_wp2_with fail
  refine (specDigest_any t _ htm).mono ?_
  rintro e w3 ⟨rfl, b3⟩
  have hD := digestB_wide (t := t) (by rw [ht]; decide)
  generalize digestB t = D at *
  have H3 : Hid (Src 97 B w.heap.size a len cap w3) := H2.out.below b3
  have hb3 := hb2.trans (b3.mono hb2.size)
  clear b3 H2 ht htm
  go_wp2_with fail
  refine (bytes_any B w.heap.size a len cap 2 _ H3.out (by omega)).mono ?_
  rintro e w4 ⟨⟨u, rfl, hu⟩, hs4, hg4⟩
  have H4 : Hid (Src 97 B w.heap.size a len cap w4) := hs4
  have hb4 := below_touch hb3 hg4 (Nat.le_refl _)
  clear hs4 hg4 H3
  have hum : u.size ≤ maxLen := by rw [hu]; decide
  go_wp2_with fail
  refine (specDigest_any u _ hum).mono ?_
  rintro e w5 ⟨rfl, b5⟩
  have hE := digestB_le u
  generalize digestB u = E at *
  have H5 : Hid (Src 97 B w.heap.size a len cap w5) := H4.out.below b5
  have hb5 := hb4.trans (b5.mono hb4.size)
  clear b5 H4 hu hum
  go_wp2_with fail
  refine (one_any B w.heap.size a len cap 6 _ H5.out (by omega)).mono ?_
  rintro e w6 ⟨⟨b, rfl⟩, hs6, hg6⟩
  have hb6 := below_touch hb5 hg6 (Nat.le_refl _)
  clear hs6 hg6
  cases b
  · go_wp2
    go_ret2
    exact ⟨⟨D, E, rfl, by omega, hE⟩, hb6⟩
  · go_wp2
    go_ret2
    exact ⟨⟨_, E, rfl, by simp; omega, hE⟩, hb6⟩
end Go.Proofs.YtclpccnppmbpcaaDoor
/-
  What the specification's LeafHash answers: 'leafA'.
-/
namespace Go.Proofs.YtclpccnppmbpcaaDoor
open Go.RowKit Go.Lib
set_option linter.unusedVariables false
set_option maxRecDepth 20000

set_option maxHeartbeats 400000 in
theorem specLeaf_any (t : ByteArray) (w : World) (ht : t.size ≤ maxLen) :
    Calls Tryd.prog 75 #[.string t] w fun e w' => e = .returned (.string (leafA t)) ∧ Below w.heap.size w w' := by
  unfold maxLen at ht
  by_cases h : t.size ≤ 100
  · have H : Hid (leafA t = leafB t) := if_pos h
    go_enter Tryd.func75, Tryd.ntmps75
    go_wp2_with fail
    refine (specL03Leaf_any t _ (by omega)).mono ?_
    rintro e w1 ⟨rfl, b1⟩
    go_wp2_with fail
    go_ret
    exact ⟨ret_str H.out.symm, b1⟩
  · have H : Hid (leafA t = ByteArray.empty) := if_neg h
    go_enter Tryd.func75, Tryd.ntmps75
    go_wp2
    go_ret
    exact ⟨ret_str H.out.symm, Below.refl _ _⟩
end Go.Proofs.YtclpccnppmbpcaaDoor
