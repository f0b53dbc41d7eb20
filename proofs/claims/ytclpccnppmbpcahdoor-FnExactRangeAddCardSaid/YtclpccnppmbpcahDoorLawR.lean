/-
  What the laws' own helpers answer for a Range: szRange, toRange, eqRange.
  Conditions: the cells of Nodes hold the texts.
-/
import Derived.Test.YtclpccnppmbpcahDoorRows
import Derived.Test.YtclpccnppmbpcahDoorBytes
import Derived.Test.YtclpccnppmbpcahDoorSlA
import Derived.Test.YtclpccnppmbpcahDoorLawS
import Derived.Test.YtclpccnppmbpcahDoorOwnS
import Derived.Test.YtclpccnppmbpcahDoorOnesMath
import Derived.Test.YtclpccnppmbpcahDoorRange
import Derived.Test.YtclpccnppmbpcahDoorRootMath
import Derived.Handy
namespace Go.Proofs.YtclpccnppmbpcahDoor
open Go.RowKit Go.Lib
set_option linter.unusedVariables false
set_option maxRecDepth 20000

set_option maxHeartbeats 400000 in
theorem szR_any (n : Int) (p : Option Addr) (cap : Nat) (ss : List ByteArray) (w : World) (hp : TxtAt w p ss) (hn : ss.length ≤ 9223372036854775807) (hcap : ss.length ≤ cap) (hs : ∀ x ∈ ss, x.size ≤ 9223372036854775807) :
    Calls Tryd.prog 19 #[.agg #[.int .i64 n, .slice p ss.length cap], .int .i64 1048576] w fun e w' => (∃ r : Int, e = .returned (.int .i64 r) ∧ SzEnd r ss) ∧ Below w.heap.size w w' := by
  have B0 : Hid (Below w.heap.size w (w.alloc (.cells #[.int .i64 n, .slice p ss.length cap] 31))) := (Below.refl _ _).alloc (Nat.le_refl _) _
  have HC := sz_any p cap ss _ (hp.below B0.out) hn hcap hs
  clear hp hs
  go_enter Tryd.func19, Tryd.ntmps19
  go_wp2_with fail
  refine HC.mono ?_
  rintro e w1 ⟨⟨r, rfl, hr⟩, hw1⟩
  have HR : Hid (SzEnd r ss) := hr
  rcases hr with rfl | ⟨hr0, _, _⟩
  · subst hw1
    go_wp2_with fail
    go_ret
    exact ⟨⟨_, rfl, HR.out⟩, B0.out⟩
  · subst hw1
    go_wp2_with fail
    go_ret
    exact ⟨⟨_, rfl, HR.out⟩, B0.out⟩

set_option maxHeartbeats 400000 in
theorem eqR_any (n m : Int) (p q : Option Addr) (cap cap2 : Nat) (ss ts : List ByteArray) (w : World) (hp : TxtAt w p ss) (hq : TxtAt w q ts) (hn : ss.length ≤ 140737488355328) (hn2 : ts.length ≤ 140737488355328) (hcap : ss.length ≤ cap) (hcap2 : ts.length ≤ cap2) :
    Calls Tryd.prog 23 #[.agg #[.int .i64 n, .slice p ss.length cap], .agg #[.int .i64 m, .slice q ts.length cap2]] w fun e w' => e = .returned (.bool (decide (n = m ∧ ss = ts))) ∧ Below w.heap.size w w' := by
  have B0 : Hid (Below w.heap.size w ((w.alloc (.cells #[.int .i64 n, .slice p ss.length cap] 33)).alloc (.cells #[.int .i64 m, .slice q ts.length cap2] 33))) := ((Below.refl _ _).alloc (Nat.le_refl _) _).alloc (by simp) _
  have HC := eq_any p q cap cap2 ss ts _ (hp.below B0.out) (hq.below B0.out) hn hn2 hcap hcap2
  clear hp hq
  by_cases h1 : n = m
  · subst h1
    have HR : Hid (decide (n = n ∧ ss = ts) = decide (ss = ts)) := by show _ = _; simp
    rw [HR.out]
    clear HR
    cases hd : decide (ss = ts)
    · rw [hd] at HC
      clear hd
      go_enter Tryd.func23, Tryd.ntmps23
      go_wp2_with fail
      refine HC.mono ?_
      rintro e w1 ⟨rfl, b1⟩
      go_wp2_with fail
      go_ret
      exact ⟨rfl, chainB B0.out b1⟩
    · rw [hd] at HC
      clear hd
      go_enter Tryd.func23, Tryd.ntmps23
      go_wp2_with fail
      refine HC.mono ?_
      rintro e w1 ⟨rfl, b1⟩
      go_wp2_with fail
      go_ret
      exact ⟨rfl, chainB B0.out b1⟩
  · have HR : Hid (decide (n = m ∧ ss = ts) = false) := decide_eq_false fun h => h1 h.1
    have h2 : (n != m) = true := bne_iff_ne.2 h1
    clear HC
    go_enter Tryd.func23, Tryd.ntmps23
    go_wp2_with fail
    go_ret
    exact ⟨ret_bool HR.out.symm, B0.out⟩

set_option maxHeartbeats 1000000 in
theorem toR_any (n : Int) (p : Option Addr) (cap : Nat) (ss : List ByteArray) (w : World) (hp : TxtAt w p ss) (hn : ss.length ≤ 1048576) (hcap : ss.length ≤ cap) :
    Calls Tryd.prog 21 #[.agg #[.int .i64 n, .slice p ss.length cap]] w fun e w' => ∃ g, w.heap.size ≤ g ∧ e = .returned (.agg #[.int .i64 n, .slice (some ⟨g, 0, none⟩) ss.length ss.length]) ∧ BlkS w' g ss ∧ Below w.heap.size w w' := by
  obtain ⟨W3, hW3⟩ : ∃ W3, W3 = ((w.alloc (.cells #[.int .i64 n, .slice p ss.length cap] 31)).alloc (.cells #[.int .i64 0, .slice none 0 0] 33)).alloc (.cells #[.int .i64 n, .slice none 0 0] 33) := ⟨_, rfl⟩
  have B0 : Hid (Below w.heap.size w W3) := by rw [hW3]; exact ((((Below.refl _ _).alloc (Nat.le_refl _) _).alloc (by simp) _).alloc (by simp; omega) _)
  have HC := to_any p cap ss W3 (hp.below B0.out) hn hcap
  have HS3 : Hid (W3.heap.size = w.heap.size + 3) := by rw [hW3]; show _ = _; simp
  have HK : Hid (∀ w4, Below W3.heap.size W3 w4 → w4.cell? ⟨w.heap.size + 1, 0, none⟩ = some (.int .i64 0) ∧ w4.cell? ⟨w.heap.size + 1, 1, none⟩ = some (.slice none 0 0) ∧ w4.cell? ⟨w.heap.size + 1 + 1, 0, none⟩ = some (.int .i64 n) ∧ w4.cell? ⟨w.heap.size + 1 + 1, 1, none⟩ = some (.slice none 0 0) ∧
      w4.frozen? ⟨w.heap.size + 1, 0, none⟩ = false ∧ w4.frozen? ⟨w.heap.size + 1, 1, none⟩ = false ∧ w4.frozen? ⟨w.heap.size + 1 + 1, 0, none⟩ = false ∧ w4.frozen? ⟨w.heap.size + 1 + 1, 1, none⟩ = false) := by
    intro w4 hb
    have hs := HS3.out
    refine ⟨?_, ?_, ?_, ?_, ?_, ?_, ?_, ?_⟩
    · rw [hb.cell (p := ⟨w.heap.size + 1, 0, none⟩) (by show w.heap.size + 1 < _; omega), hW3]; go_simp
    · rw [hb.cell (p := ⟨w.heap.size + 1, 1, none⟩) (by show w.heap.size + 1 < _; omega), hW3]; go_simp
    · rw [hb.cell (p := ⟨w.heap.size + 1 + 1, 0, none⟩) (by show w.heap.size + 1 + 1 < _; omega), hW3]; go_simp
    · rw [hb.cell (p := ⟨w.heap.size + 1 + 1, 1, none⟩) (by show w.heap.size + 1 + 1 < _; omega), hW3]; go_simp
    · rw [hb.frozen (p := ⟨w.heap.size + 1, 0, none⟩) (by show w.heap.size + 1 < _; omega), hW3]; go_simp
    · rw [hb.frozen (p := ⟨w.heap.size + 1, 1, none⟩) (by show w.heap.size + 1 < _; omega), hW3]; go_simp
    · rw [hb.frozen (p := ⟨w.heap.size + 1 + 1, 0, none⟩) (by show w.heap.size + 1 + 1 < _; omega), hW3]; go_simp
    · rw [hb.frozen (p := ⟨w.heap.size + 1 + 1, 1, none⟩) (by show w.heap.size + 1 + 1 < _; omega), hW3]; go_simp
  have HW3 : Hid (W3 = ((w.alloc (.cells #[.int .i64 n, .slice p ss.length cap] 31)).alloc (.cells #[.int .i64 0, .slice none 0 0] 33)).alloc (.cells #[.int .i64 n, .slice none 0 0] 33)) := hW3
  clear hp hW3
  go_enter Tryd.func21, Tryd.ntmps21
  go_wp2_with fail
  rw [← HW3.out]
  refine HC.mono ?_
  rintro e w4 ⟨rfl, hB4, b4⟩
  have HB4 : Hid (BlkS w4 W3.heap.size ss) := hB4
  obtain ⟨k0, k1, k2, k3, f0, f1, f2, f3⟩ := HK.out w4 b4
  have hs3 := HS3.out
  have hs4 := b4.size
  clear hB4
  go_wp2_with fail
  have hB5 : BlkS w4 (w.heap.size + 3) ss := by rw [← hs3]; exact HB4.out
  have hbl := chainB B0.out b4
  refine bodyPost_ret (v := .agg #[.int .i64 n, .slice (some ⟨w.heap.size + 3, 0, none⟩) ss.length ss.length]) (by simp [results, Tryd.results21, go_sem, k0, k1]) rfl ?_
  exact ⟨w.heap.size + 3, by omega, rfl, ((hB5.setOther _ 1 (by omega) _).setOther _ 0 (by omega) _).setOther _ 1 (by omega) _, ((hbl.setCell (by show w.heap.size ≤ w.heap.size + 1 + 1; omega) _).setCell (by show w.heap.size ≤ w.heap.size + 1; omega) _).setCell (by show w.heap.size ≤ w.heap.size + 1; omega) _⟩
end Go.Proofs.YtclpccnppmbpcahDoor
