/-
  What DrawRangeAdd draws: a size from -1 to 1000001, few nodes of at most 32 bytes each, and a text of at most 101 bytes.
-/
import Derived.Test.YtclpccnppmbpcaaDoorRows
import Derived.Test.YtclpccnppmbpcaaDoorBytes
import Derived.Test.YtclpccnppmbpcaaDoorSlA
import Derived.Test.YtclpccnppmbpcaaDoorSlBOwnS
import Derived.Test.YtclpccnppmbpcaaDoorSrc
import Derived.Test.YtclpccnppmbpcaaDoorDraws
import Derived.Test.YtclpccnppmbpcaaDoorDrawKit
import Derived.Test.YtclpccnppmbpcaaDoorSome
import Derived.Test.YtclpccnppmbpcaaDoorSpoil
import Derived.Test.YtclpccnppmbpcaaDoorRngKit
import Derived.Test.YtclpccnppmbpcaaDoorDrawRng
import Derived.Handy
import Derived.WalkSpells
import Derived.OwnWalk
import Derived.Deep.RegionLaw
import Derived.Deep.RegionWith
namespace Go.Proofs.YtclpccnppmbpcaaDoor
open Go.RowKit Go.Lib
set_option linter.unusedVariables false
set_option maxRecDepth 20000

theorem set_size (w : World) (a : Addr) (v : Value) : (w.setCell a v).heap.size = w.heap.size := by simp [World.setCell]
theorem zconvS (n : Nat) (w : World) (g : Nat) (hg : g ≠ w.heap.size) (x y : Value) :
    (convert 22 9 (.slice (some ⟨w.heap.size, 0, none⟩) n n)).run Tryd.prog (((w.alloc (.cells (zrow n).toArray 5)).setCell ⟨g, 0, none⟩ x).setCell ⟨g, 1, none⟩ y) = .ok (.string (strOfNums (List.replicate n 0))) (((w.alloc (.cells (zrow n).toArray 5)).setCell ⟨g, 0, none⟩ x).setCell ⟨g, 1, none⟩ y) :=
  run_convert_bytes_arg (P := Tryd.prog) _ 22 5 Tryd.underlying22 Tryd.underlying5 w.heap.size 0 n n (List.replicate n 0) (by simp) (fun i hi => by
    rw [World.cell?_setCell_other _ _ _ _ (by intro e; have h := congrArg Addr.block e; exact hg (by first | exact h | exact h.symm)), World.cell?_setCell_other _ _ _ _ (by intro e; have h := congrArg Addr.block e; exact hg (by first | exact h | exact h.symm)), World.cell?_alloc_mark]; simp [zrow, hi]) 9 Tryd.underlying9

set_option maxHeartbeats 4000000 in
theorem drawAdd_any (B : Nat) (a : Option Addr) (len cap : Nat) (w : World) (hlen : len ≤ 1048576) (hB : B ≤ w.heap.size) (hc : CodeAt B a len w) :
    Calls Tryd.prog 35 #[.slice a len cap] w fun e w' => (∃ (n : Int) (v : Value) (L : List ByteArray) (t : ByteArray), e = .returned (.tuple #[.agg #[.int .i64 n, v], .string t]) ∧ Few w' v L ∧ t.size ≤ 101 ∧ -1 ≤ n ∧ n ≤ 1000001) ∧ Below w.heap.size w w' := by
  have HC : Hid (CodeAt B a len w) := hc
  clear hc
  obtain ⟨W1, hW1⟩ : ∃ W1, W1 = w.alloc (.cells #[.int .i64 0, .slice none 0 0] 48) := ⟨_, rfl⟩
  have HW1 : Hid (W1 = w.alloc (.cells #[.int .i64 0, .slice none 0 0] 48)) := hW1
  have B1 : Hid (Below w.heap.size w W1) := by rw [hW1]; exact (Below.refl _ _).alloc (Nat.le_refl _) _
  have HZ1 : Hid (W1.heap.size = w.heap.size + 1) := by rw [hW1]; show _ = _; simp
  have X1 : Hid (W1.heap[w.heap.size]? = some (.cells #[.int .i64 0, .slice none 0 0] 48 (0, 0))) := by rw [hW1]; exact (MapKept.heap_alloc w _).1
  have HC1 : Hid (CodeAt B a len W1) := HC.out.below (B1.out.mono hB)
  clear hW1
  go_enter Tryd.func35, Tryd.ntmps35
  go_wp2_with fail
  rw [← HW1.out]
  refine (source_any B a len cap W1 hlen (by have := HZ1.out; omega) HC1.out).mono ?_
  rintro e w1 ⟨rfl, hs1, hb1⟩
  have H1 : Hid (Src 97 B W1.heap.size a len cap w1) := hs1
  have hsz1 := hs1.lt
  have hB1 := chainB B1.out hb1
  have X2 : Hid (w1.heap[w.heap.size]? = some (.cells #[.int .i64 0, .slice none 0 0] 48 (0, 0))) := (hb1.block _ (by have := HZ1.out; omega)).trans X1.out
  clear hs1 HC HC1
  go_wp2_with fail
  refine (drawRng_any B W1.heap.size a len cap _ H1.out).mono ?_
  rintro e w2 ⟨⟨n, v, L, rfl, ho, hl, hx, n0, n1⟩, hs2, hg2⟩
  obtain ⟨q, cq, rfl, hcq, _⟩ := ownS_form ho
  obtain ⟨W3, hW3⟩ : ∃ W3, W3 = w2.alloc (.cells #[.int .i64 n, .slice q L.length cq] 48) := ⟨_, rfl⟩
  have HW3 : Hid (W3 = w2.alloc (.cells #[.int .i64 n, .slice q L.length cq] 48)) := hW3
  have R3 : Hid (RngS w1 W1.heap.size w2.heap.size n (.slice q L.length cq) L W3) := by
    rw [hW3]
    exact ⟨touch_below hg2 ((Below.refl _ _).alloc (Nat.le_refl _) _), hg2.size, (MapKept.heap_alloc w2 _).1, ho.alloc _⟩
  have S3 : Hid (Src 97 B W1.heap.size a len cap W3) := by rw [hW3]; exact hs2.below ((Below.refl _ _).alloc (Nat.le_refl _) _)
  have HX : Hid (∀ x ∈ L, x.size ≤ 32) := hx
  have hz1 := HZ1.out
  have HK : Hid (∀ x, w1.grownBy x (some W1.heap.size) → x.cell? ⟨w.heap.size, 0, none⟩ = some (.int .i64 0) ∧ x.cell? ⟨w.heap.size, 1, none⟩ = some (.slice none 0 0) ∧ x.frozen? ⟨w.heap.size, 0, none⟩ = false ∧ x.frozen? ⟨w.heap.size, 1, none⟩ = false) := by
    intro x hg
    have hb : x.heap[w.heap.size]? = some (.cells #[.int .i64 0, .slice none 0 0] 48 (0, 0)) := (hg.block w.heap.size (by omega) (fun e => by simp at e; omega)).trans X2.out
    simp [World.cell?, World.frozen?, hb]
  have HEnd : Hid (∀ (x : World) (y z : Value) (t : ByteArray), RngS w1 W1.heap.size w2.heap.size n (.slice q L.length cq) L x → t.size ≤ 101 →
      (∃ (n' : Int) (v : Value) (L' : List ByteArray) (t' : ByteArray), Ending.returned (.tuple #[.agg #[.int .i64 n, .slice q L.length cq], .string t]) = .returned (.tuple #[.agg #[.int .i64 n', v], .string t']) ∧ Few ((x.setCell ⟨w.heap.size, 0, none⟩ y).setCell ⟨w.heap.size, 1, none⟩ z) v L' ∧ t'.size ≤ 101 ∧ -1 ≤ n' ∧ n' ≤ 1000001) ∧ Below w.heap.size w ((x.setCell ⟨w.heap.size, 0, none⟩ y).setCell ⟨w.heap.size, 1, none⟩ z)) := by
    intro x y z t hR ht
    refine ⟨⟨n, _, L, t, rfl, own_few (base := w1.heap.size) ?_ (by omega) HX.out, ht, n0, n1⟩, ?_⟩
    · exact ownsRow_setCell_below (ownsRow_setCell_below hR.own (by show w.heap.size < _; omega) _) (by show w.heap.size < _; omega) _
    · exact ((below_touch hB1 hR.gr (by omega)).setCell (by show w.heap.size ≤ w.heap.size; omega) _).setCell (by show w.heap.size ≤ w.heap.size; omega) _
  have HEnd2 : Hid (∀ (x : World) (y z : Value) (t : ByteArray) (o : Obj), RngS w1 W1.heap.size w2.heap.size n (.slice q L.length cq) L x → t.size ≤ 101 →
      (∃ (n' : Int) (v : Value) (L' : List ByteArray) (t' : ByteArray), Ending.returned (.tuple #[.agg #[.int .i64 n, .slice q L.length cq], .string t]) = .returned (.tuple #[.agg #[.int .i64 n', v], .string t']) ∧ Few (((x.setCell ⟨w.heap.size, 0, none⟩ y).setCell ⟨w.heap.size, 1, none⟩ z).alloc o) v L' ∧ t'.size ≤ 101 ∧ -1 ≤ n' ∧ n' ≤ 1000001) ∧ Below w.heap.size w (((x.setCell ⟨w.heap.size, 0, none⟩ y).setCell ⟨w.heap.size, 1, none⟩ z).alloc o)) := by
    intro x y z t o hR ht
    have hB2 := ((below_touch hB1 hR.gr (by omega)).setCell (p := ⟨w.heap.size, 0, none⟩) (by show w.heap.size ≤ w.heap.size; omega) y).setCell (p := ⟨w.heap.size, 1, none⟩) (by show w.heap.size ≤ w.heap.size; omega) z
    refine ⟨⟨n, _, L, t, rfl, own_few (base := w1.heap.size) ?_ (by omega) HX.out, ht, n0, n1⟩, hB2.alloc hB2.size _⟩
    exact (ownsRow_setCell_below (ownsRow_setCell_below hR.own (by show w.heap.size < _; omega) _) (by show w.heap.size < _; omega) _).alloc _
  clear hs2 hg2 ho hx hW3 hz1 H1 hb1 hB1 X2 X1
  go_wp2_with fail
  rw [← HW3.out]
  refine (one_any B W1.heap.size a len cap 12 _ S3.out (by omega)).mono ?_
  rintro e w4 ⟨⟨b, rfl⟩, hs4, hg4⟩
  have R4 : Hid (RngS w1 W1.heap.size w2.heap.size n (.slice q L.length cq) L w4) := R3.out.touch hsz1 hg4
  have S4 : Hid (Src 97 B W1.heap.size a len cap w4) := hs4
  clear hs4 hg4 R3 S3
  obtain ⟨c0, c1, f0, f1⟩ := R4.out.cells
  have QN : Hid (∀ (m : Int) w', 1 < m → m ≤ 4 → RngS w1 W1.heap.size w2.heap.size n (.slice q L.length cq) L w' → Src 97 B W1.heap.size a len cap w' → Calls Tryd.prog 53 #[.pointer (some ⟨W1.heap.size, 0, none⟩), .int .i64 m] w' fun e x1 => ∃ r : Nat, e = .returned (.int .i64 (r : Int)) ∧ r < m ∧ Src 97 B W1.heap.size a len cap x1 ∧ RngS w1 W1.heap.size w2.heap.size n (.slice q L.length cq) L x1) := fun m w' m1 m4 hR hS => (n_any B W1.heap.size a len cap m w' hS (by omega)).mono (by
    rintro e x1 ⟨⟨r, rfl, r0, r1, _⟩, s1, g1⟩
    obtain ⟨k, rfl⟩ := Int.eq_ofNat_of_zero_le r0
    exact ⟨k, rfl, r1 m1, s1, hR.touch hsz1 g1⟩)
  have QB : Hid (∀ w' (r : Nat), r < 4 → RngS w1 W1.heap.size w2.heap.size n (.slice q L.length cq) L w' → Src 97 B W1.heap.size a len cap w' → Calls Tryd.prog 54 #[.pointer (some ⟨W1.heap.size, 0, none⟩), .int .i64 (r : Int)] w' fun e x1 => ∃ t : ByteArray, e = .returned (.string t) ∧ t.size ≤ 101 ∧ RngS w1 W1.heap.size w2.heap.size n (.slice q L.length cq) L x1) := fun w' r hr hR hS => (bytes_any B W1.heap.size a len cap r w' hS (by omega)).mono (by
    rintro e x1 ⟨⟨t, rfl, ht⟩, s1, g1⟩
    exact ⟨t, rfl, by omega, hR.touch hsz1 g1⟩)
  cases b
  · go_wp2_with fail
    go_region_with (first
      | (go_at_call 53; refine (QN.out 4 _ (by omega) (by omega) (by first | exact R4.out | exact R4.out.drew) (by first | exact S4.out | exact S4.out.below (Below.refl _ _).drew)).mono ?_; rintro e x1 ⟨r, rfl, hr2, s1, q1⟩; obtain ⟨c2, c3, f2, f3⟩ := q1.cells)
      | (go_at_call 54; refine (QB.out _ _ (by omega) (by first | exact q1 | exact q1.drew) (by first | exact s1 | exact s1.below (Below.refl _ _).drew)).mono ?_; rintro e x2 ⟨t, rfl, ht2, q2⟩; obtain ⟨c4, c5, f4, f5⟩ := q2.cells; obtain ⟨d0, d1, d2, d3⟩ := HK.out _ q2.gr))
    all_goals
      go_wp2_with fail
      refine bodyPost_ret (v := .tuple #[.agg #[.int .i64 n, .slice q L.length cq], .string t]) (by simp [results, Tryd.results35, go_sem, d0, d1]) rfl ?_
      exact HEnd.out _ _ _ t q2 ht2
  · go_wp2_with fail
    go_region_law (first
      | (go_simp; go_at_call 53; refine (QN.out 2 _ (by omega) (by omega) (by first | exact R4.out | exact R4.out.drew) (by first | exact S4.out | exact S4.out.below (Below.refl _ _).drew)).mono ?_; rintro e x1 ⟨r, rfl, hr2, s1, q1⟩; obtain ⟨c2, c3, f2, f3⟩ := q1.cells; have hmk := run_make_u8s (100 + r) (by omega) x1; rw [show (((100 + r : Nat)) : Int) = 100 + (r : Int) by omega] at hmk; have hzc := zconv (100 + r) x1; obtain ⟨d4, d5, d6, d7⟩ := HK.out _ q1.gr; have hmk2 := run_make_u8s (100 + r) (by omega) ((x1.setCell ⟨w.heap.size, 0, none⟩ (.int .i64 n)).setCell ⟨w.heap.size, 1, none⟩ (.slice q L.length cq)); rw [show (((100 + r : Nat)) : Int) = 100 + (r : Int) by omega, set_size, set_size] at hmk2; have hzc2 := zconv (100 + r) ((x1.setCell ⟨w.heap.size, 0, none⟩ (.int .i64 n)).setCell ⟨w.heap.size, 1, none⟩ (.slice q L.length cq)); rw [set_size, set_size] at hzc2; have hgt : w.heap.size ≠ x1.heap.size := (by have := q1.gr.size; have := HZ1.out; omega); have he0 : (((x1.setCell ⟨w.heap.size, 0, none⟩ (.int .i64 n)).setCell ⟨w.heap.size, 1, none⟩ (.slice q L.length cq)).alloc (.cells (zrow (100 + r)).toArray 5)).cell? ⟨w.heap.size, 0, none⟩ = some (.int .i64 n) := (by rw [World.cell?_alloc_old _ _ _ (by rw [set_size, set_size]; exact hgt)]; go_simp); have he1 : (((x1.setCell ⟨w.heap.size, 0, none⟩ (.int .i64 n)).setCell ⟨w.heap.size, 1, none⟩ (.slice q L.length cq)).alloc (.cells (zrow (100 + r)).toArray 5)).cell? ⟨w.heap.size, 1, none⟩ = some (.slice q L.length cq) := (by rw [World.cell?_alloc_old _ _ _ (by rw [set_size, set_size]; exact hgt)]; go_simp); have hzs := zconvS (100 + r) x1 w.heap.size (by have := q1.gr.size; have := HZ1.out; omega); have HZ : (strOfNums (List.replicate (100 + r) 0)).size ≤ 101 := (by rw [strOfNums_size, List.length_replicate]; omega); have q2 : RngS w1 W1.heap.size w2.heap.size n (.slice q L.length cq) L (x1.alloc (.cells (zrow (100 + r)).toArray 5)) := q1.below ((Below.refl _ _).alloc (Nat.le_refl _) _); obtain ⟨c4, c5, f4, f5⟩ := q2.cells; obtain ⟨d0, d1, d2, d3⟩ := HK.out _ q2.gr; have hwr : IntKind.i64.wrap (100 + (r : Int)) = 100 + (r : Int) := (by rw [IntKind.wrap_i64]; omega); generalize strOfNums (List.replicate (100 + r) 0) = zs at *))
    all_goals
      go_wp2_with fail
      refine bodyPost_ret (v := .tuple #[.agg #[.int .i64 n, .slice q L.length cq], .string zs]) (by simp [results, Tryd.results35, go_sem, d0, d1, he0, he1]) rfl ?_
      first
        | exact HEnd.out _ _ _ zs q2 HZ
        | exact HEnd2.out _ _ _ zs _ q1 HZ
end Go.Proofs.YtclpccnppmbpcaaDoor
