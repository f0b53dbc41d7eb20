/-
  What the specification's l05Ill, DiskNew and l05Copy answer.
-/
import Derived.Test.YtcbclmhkejknoaaRows
import Derived.Test.YtcbclmhkejknoaaBytes
import Derived.Test.YtcbclmhkejknoaaSlA
import Derived.Test.YtcbclmhkejknoaaSlB
import Derived.Test.YtcbclmhkejknoaaOwnS
import Derived.Test.YtcbclmhkejknoaaAppS
import Derived.Test.YtcbclmhkejknoaaDskMath
import Derived.Test.YtcbclmhkejknoaaDskR
import Derived.Test.YtcbclmhkejknoaaDskA
import Derived.Handy
import Derived.WalkSpells
import Derived.OwnWalk
namespace Go.Proofs.Ytcbclmhkejknoaa
open Go.RowKit Go.Lib
set_option linter.unusedVariables false
set_option maxRecDepth 20000

theorem l05Ill_any (c : Int) (w : World) : Calls Try.prog 30 #[.int .i64 c] w fun e w' => e = .returned (.agg #[.slice none 0 0, .slice none 0 0, .string ByteArray.empty, .int .i64 c]) ∧ Below w.heap.size w w' := by
  have B1 : Below w.heap.size w (w.alloc (.cells #[.slice none 0 0, .slice none 0 0, .string ByteArray.empty, .int .i64 c] 41)) := (Below.refl _ _).alloc (Nat.le_refl _) _
  go_enter Try.func30, Try.ntmps30
  go_wp2_with fail
  refine bodyPost_ret (v := .agg #[.slice none 0 0, .slice none 0 0, .string ByteArray.empty, .int .i64 c]) (by simp [results, Try.results30, go_sem]; rfl) rfl ?_
  exact ⟨rfl, B1⟩

/-- What DiskNew makes. -/
def newS (n : Int) : List ByteArray := if 1 ≤ n ∧ n ≤ 64 then List.replicate n.toNat ByteArray.empty else []
set_option maxHeartbeats 1000000 in
theorem specDiskNew_any (n : Int) (w : World) : Calls Try.prog 10 #[.int .i64 n] w fun e w' => ∃ v1, e = .returned (.agg #[v1, .slice none 0 0]) ∧ w'.ownsRow w.heap.size 9 1 v1 (newS n).length (strRow (newS n)) ∧ Below w.heap.size w w' := by
  have hK := fun x => l05Is_any n 1 64 x
  by_cases h : 1 ≤ n ∧ n ≤ 64
  · have HN : Hid (newS n = List.replicate n.toNat ByteArray.empty) := if_pos h
    simp only [decide_eq_true h] at hK
    obtain ⟨N, rfl⟩ := Int.eq_ofNat_of_zero_le (show 0 ≤ n by omega)
    rw [Int.toNat_natCast] at HN
    have hmk := run_make_str N (by omega) (w.alloc (.cells #[.slice none 0 0, .slice none 0 0] 25))
    have hs1 : (w.alloc (.cells #[.slice none 0 0, .slice none 0 0] 25)).heap.size = w.heap.size + 1 := by simp
    rw [hs1] at hmk
    obtain ⟨W2, hW2⟩ : ∃ W2, W2 = (w.alloc (.cells #[.slice none 0 0, .slice none 0 0] 25)).alloc (.cells (strRow (List.replicate N ByteArray.empty)).toArray 9) := ⟨_, rfl⟩
    rw [← hW2] at hmk
    have hb : BlkS W2 (w.heap.size + 1) (List.replicate N ByteArray.empty) := by rw [hW2, ← hs1]; exact alloc_str _ _
    have B2 : Below w.heap.size w W2 := by rw [hW2]; exact ((Below.refl _ _).alloc (Nat.le_refl _) _).alloc (by rw [hs1]; omega) _
    have X2 : W2.heap[w.heap.size]? = some (.cells #[.slice none 0 0, .slice none 0 0] 25 (0, 0)) := by rw [hW2]; exact (Below.heap_alloc _ _ _ (by rw [hs1]; omega)).trans (MapKept.heap_alloc w _).1
    have c0 : W2.cell? ⟨w.heap.size, 0, none⟩ = some (.slice none 0 0) ∧ W2.cell? ⟨w.heap.size, 1, none⟩ = some (.slice none 0 0) ∧ W2.frozen? ⟨w.heap.size, 0, none⟩ = false ∧ W2.frozen? ⟨w.heap.size, 1, none⟩ = false := by simp [World.cell?, World.frozen?, X2]
    obtain ⟨c0, c1, f0, f1⟩ := c0
    have HO : Hid (∀ x y : Value, ((W2.setCell ⟨w.heap.size, 0, none⟩ x).setCell ⟨w.heap.size, 1, none⟩ y).ownsRow w.heap.size 9 1 (.slice (some ⟨w.heap.size + 1, 0, none⟩) N N) (newS (N : Int)).length (strRow (newS (N : Int))) ∧ Below w.heap.size w ((W2.setCell ⟨w.heap.size, 0, none⟩ x).setCell ⟨w.heap.size, 1, none⟩ y)) := fun x y => by
      have h1 := hb.own (w.heap.size + 1) (Nat.le_refl _) (by simp; unfold maxLen; omega)
      rw [List.length_replicate] at h1
      refine ⟨?_, (B2.setCell (Nat.le_refl _) _).setCell (Nat.le_refl _) _⟩
      rw [HN.out, List.length_replicate]
      exact ownS_mono (ownsRow_setCell_below (ownsRow_setCell_below h1 (by show w.heap.size < _; omega) _) (by show w.heap.size < _; omega) _) (by omega)
    clear hW2 hb B2 X2 h hs1
    go_enter Try.func10, Try.ntmps10
    go_wp2_with fail
    refine (hK _).mono ?_
    rintro e w1 ⟨rfl, rfl⟩
    go_wp2_with fail
    refine bodyPost_ret (v := .agg #[.slice (some ⟨w.heap.size + 1, 0, none⟩) N N, .slice none 0 0]) (by simp [results, Try.results10, go_sem, c0, c1]) rfl ?_
    exact ⟨_, rfl, HO.out _ _⟩
  · have HN : Hid (newS n = []) := if_neg h
    simp only [decide_eq_false h] at hK
    have B1 : Below w.heap.size w (w.alloc (.cells #[.slice none 0 0, .slice none 0 0] 25)) := (Below.refl _ _).alloc (Nat.le_refl _) _
    clear h
    go_enter Try.func10, Try.ntmps10
    go_wp2_with fail
    refine (hK _).mono ?_
    rintro e w1 ⟨rfl, rfl⟩
    go_wp2_with fail
    refine bodyPost_ret (v := .agg #[.slice none 0 0, .slice none 0 0]) (by simp [results, Try.results10, go_sem]) rfl ?_
    refine ⟨_, rfl, ?_, B1⟩
    rw [HN.out]
    exact World.ownsRow_nil _ _ _ _
end Go.Proofs.Ytcbclmhkejknoaa
