/-
  What DrawDiskCrash, DrawDiskRead, DrawDiskNew draw.
-/
import Derived.Test.YthiokdiodgdamabRows
import Derived.Test.YthiokdiodgdamabBytes
import Derived.Test.YthiokdiodgdamabSlA
import Derived.Test.YthiokdiodgdamabSlB
import Derived.Test.YthiokdiodgdamabOwnS
import Derived.Test.YthiokdiodgdamabOwnB
import Derived.Test.YthiokdiodgdamabSrc
import Derived.Test.YthiokdiodgdamabDraws
import Derived.Test.YthiokdiodgdamabDrawKit
import Derived.Test.YthiokdiodgdamabDskMath
import Derived.Test.YthiokdiodgdamabDskC
import Derived.Test.YthiokdiodgdamabDskT
import Derived.Test.YthiokdiodgdamabDskK
import Derived.Test.YthiokdiodgdamabLawD
import Derived.Test.YthiokdiodgdamabLawI
import Derived.Test.YthiokdiodgdamabDrawKeep
import Derived.Test.YthiokdiodgdamabDrawDsk
import Derived.Test.YthiokdiodgdamabDrawDskF
import Derived.Test.YthiokdiodgdamabDrawDskG
import Derived.Handy
import Derived.WalkSpells
import Derived.OwnWalk
import Derived.Deep.RegionWith
import Derived.Deep.RegionLaw
namespace Go.Proofs.Ythiokdiodgdamab
open Go.RowKit Go.Lib
set_option linter.unusedVariables false
set_option maxRecDepth 20000

/-- A drawn disk's bounds. -/
structure SmallD (ss : List ByteArray) (ps : List Pnd) : Prop where
  l1 : ss.length ≤ 64
  l2 : ps.length ≤ 300
  l3 : ∀ x ∈ ss, x.size ≤ 100
  l4 : ∀ q ∈ ps, q.2.size ≤ 100
theorem DrS.boxed {w1 w2 : World} {B p : Nat} {a : Option Addr} {len cap : Nat} {v1 v2 : Value} {ss : List ByteArray} {ps : List Pnd} (hs : Src 70 B p a len cap w2) (hg : w1.grownBy w2 (some p)) (hp : p < w1.heap.size) (ho : DskO w1.heap.size ss ps v1 v2 w2) :
    DrS w1 B p a len cap w2.heap.size v1 v2 ss ps (w2.alloc (.cells #[v1, v2] 26)) := by
  have hb := (Below.refl w2.heap.size w2).alloc (Nat.le_refl _) (.cells #[v1, v2] 26)
  exact ⟨hs.below hb, touch_trans hg (grownBy_none_of_below hb _), hp, hg.size, Bxs.new _ _ _, ho.below hb, own_off ho.own1 (.inr (Nat.le_refl _)), own_off ho.own2 (.inr (Nat.le_refl _))⟩

def DrawnC (w : World) (e : Ending) (w' : World) : Prop :=
  (∃ (q1 : Option Addr) (c1 : Nat) (q2 : Option Addr) (c2 : Nat) (q3 : Option Addr) (c3 : Nat) (ss : List ByteArray) (ps : List Pnd) (L : List Int), e = .returned (.tuple #[.agg #[.slice q1 ss.length c1, .slice q2 ps.length c2], .slice q3 L.length c3]) ∧ TxtAt w' q1 ss ∧ PndAt w' q2 ps ∧ IntAt w' q3 L ∧ ss.length ≤ c1 ∧ ps.length ≤ c2 ∧ L.length ≤ c3 ∧ L.length ≤ 13 ∧ SmallD ss ps) ∧ Below w.heap.size w w'
def DrawnR (w : World) (e : Ending) (w' : World) : Prop :=
  (∃ (q1 : Option Addr) (c1 : Nat) (q2 : Option Addr) (c2 : Nat) (ss : List ByteArray) (ps : List Pnd) (k : Int), e = .returned (.tuple #[.agg #[.slice q1 ss.length c1, .slice q2 ps.length c2], .int .i64 k]) ∧ TxtAt w' q1 ss ∧ PndAt w' q2 ps ∧ ss.length ≤ c1 ∧ ps.length ≤ c2 ∧ SmallD ss ps) ∧ Below w.heap.size w w'
def DrawnN (w : World) (e : Ending) (w' : World) : Prop := (∃ k : Int, e = .returned (.int .i64 k)) ∧ Below w.heap.size w w'

set_option maxHeartbeats 4000000 in
theorem drawCrash_any (B : Nat) (a : Option Addr) (len cap : Nat) (w : World) (hlen : len ≤ 1048576) (hB : B ≤ w.heap.size) (hc : CodeAt B a len w) :
    Calls Try.prog 6 #[.slice a len cap] w (DrawnC w) := by
  obtain ⟨W1, hW1⟩ : ∃ W1, W1 = w.alloc (.cells #[.slice none 0 0, .slice none 0 0] 26) := ⟨_, rfl⟩
  have HW1 : Hid (W1 = w.alloc (.cells #[.slice none 0 0, .slice none 0 0] 26)) := hW1
  have B1 : Hid (Below w.heap.size w W1) := by rw [hW1]; exact (Below.refl _ _).alloc (Nat.le_refl _) _
  have R1 : Hid (Bxs W1 w.heap.size 26 #[.slice none 0 0, .slice none 0 0]) := by rw [hW1]; exact Bxs.new _ _ _
  have z1 : W1.heap.size = w.heap.size + 1 := by rw [hW1]; simp
  have HZ1 : Hid (W1.heap.size = w.heap.size + 1) := z1
  have HC : Hid (CodeAt B a len W1) := hc.below (B1.out.mono hB)
  have hB1 : B ≤ W1.heap.size := by omega
  clear hW1 hc z1
  go_enter Try.func6, Try.ntmps6
  go_wp2_with fail
  rw [← HW1.out]
  refine (source_any B a len cap W1 hlen hB1 HC.out).mono ?_
  rintro e w1 ⟨rfl, hs1, hb1⟩
  have HB1 : Hid (Below W1.heap.size W1 w1) := hb1
  have H1 : Hid (Src 70 B W1.heap.size a len cap w1) := hs1
  clear hs1 hb1
  go_wp2_with fail
  refine (l05Disk_any B W1.heap.size a len cap w1 H1.out).mono ?_
  rintro e w2 ⟨⟨v1, v2, ss, ps, rfl, ho, l1, l2, l3, l4⟩, hs2, hg2⟩
  obtain ⟨q1, c1, rfl, m1, -⟩ := ownS_form ho.own1
  obtain ⟨q2, c2, rfl, m2, -⟩ := ownP_form ho.own2
  have HSm : Hid (SmallD ss ps) := ⟨l1, l2, l3, l4⟩
  have hpw := H1.out.lt
  have HD : Hid (DrS w1 B W1.heap.size a len cap w2.heap.size (.slice q1 ss.length c1) (.slice q2 ps.length c2) ss ps (w2.alloc (.cells #[.slice q1 ss.length c1, .slice q2 ps.length c2] 26))) := DrS.boxed hs2 hg2 hpw ho
  obtain ⟨X, hX⟩ : ∃ X, X = w2.heap.size := ⟨_, rfl⟩
  obtain ⟨W3, hW3⟩ : ∃ W3, W3 = w2.alloc (.cells #[.slice q1 ss.length c1, .slice q2 ps.length c2] 26) := ⟨_, rfl⟩
  have HW3 : Hid (W3 = w2.alloc (.cells #[.slice q1 ss.length c1, .slice q2 ps.length c2] 26)) := hW3
  rw [← hW3, ← hX] at HD
  have HXe : Hid (X = w2.heap.size) := hX
  have HRes : Hid (∀ x, w1.grownBy x (some W1.heap.size) → x.cell? ⟨w.heap.size, 0, none⟩ = some (.slice none 0 0) ∧ x.cell? ⟨w.heap.size, 1, none⟩ = some (.slice none 0 0) ∧ x.frozen? ⟨w.heap.size, 0, none⟩ = false ∧ x.frozen? ⟨w.heap.size, 1, none⟩ = false) := fun x hg => by
    have hz := HZ1.out
    have k : Bxs x w.heap.size 26 #[.slice none 0 0, .slice none 0 0] := (hg.block w.heap.size (by have := HB1.out.size; omega) (fun e => by simp at e; omega)).trans ((HB1.out.block w.heap.size (by omega)).trans R1.out)
    exact ⟨k.cell 0, k.cell 1, k.fr 0, k.fr 1⟩
  have HEnd : Hid (∀ (x : World) (vk : Value) (L : List Int) (y0 y1 : Value), DrS w1 B W1.heap.size a len cap X (.slice q1 ss.length c1) (.slice q2 ps.length c2) ss ps x → x.ownsRow w1.heap.size 2 1 vk L.length (intRow L) → L.length ≤ 13 → DrawnC w (.returned (.tuple #[.agg #[.slice q1 ss.length c1, .slice q2 ps.length c2], vk])) ((x.setCell ⟨w.heap.size, 0, none⟩ y0).setCell ⟨w.heap.size, 1, none⟩ y1)) := by
    intro x vk L y0 y1 h hk hL
    have hz := HZ1.out
    have hz1 := HB1.out.size
    obtain ⟨q3, c3, rfl, m3, -⟩ := ownI_form hk
    have o1 := (h.dsk.set2 (g := w.heap.size) (by omega) y0 y1)
    have o3 : ((x.setCell ⟨w.heap.size, 0, none⟩ y0).setCell ⟨w.heap.size, 1, none⟩ y1).ownsRow w1.heap.size 2 1 (.slice q3 L.length c3) L.length (intRow L) := ownsRow_setCell_below (ownsRow_setCell_below hk (by show w.heap.size < _; omega) _) (by show w.heap.size < _; omega) _
    obtain ⟨_, _, e1, -, t1⟩ := ownS_form o1.own1
    obtain ⟨_, _, e2, -, t2⟩ := ownP_form o1.own2
    obtain ⟨_, _, e3, -, t3⟩ := ownI_form o3
    cases e1; cases e2; cases e3
    refine ⟨⟨q1, c1, q2, c2, q3, c3, ss, ps, L, rfl, t1, t2, t3, m1, m2, m3, hL, HSm.out⟩, ?_⟩
    have b := below_touch (chainB B1.out HB1.out) h.gr (by omega)
    exact (b.setCell (Nat.le_refl _) _).setCell (Nat.le_refl _) _
  have QK : Hid (∀ x, DrS w1 B W1.heap.size a len cap X (.slice q1 ss.length c1) (.slice q2 ps.length c2) ss ps x → Calls Try.prog 30 #[.pointer (some ⟨W1.heap.size, 0, none⟩)] x fun e x1 => ∃ (q3 : Option Addr) (c3 : Nat) (L : List Int), e = .returned (.slice q3 L.length c3) ∧ x1.ownsRow w1.heap.size 2 1 (.slice q3 L.length c3) L.length (intRow L) ∧ L.length ≤ 13 ∧ DrS w1 B W1.heap.size a len cap X (.slice q1 ss.length c1) (.slice q2 ps.length c2) ss ps x1) := fun x h => (keep_any B W1.heap.size a len cap x h.src).mono (by
    rintro e x1 ⟨⟨v, L, rfl, hk, hL⟩, s1, g1⟩
    obtain ⟨q3, c3, rfl, -, -⟩ := ownI_form hk
    exact ⟨q3, c3, L, rfl, ownS_mono hk h.gr.size, hL, h.step s1 g1⟩)
  obtain ⟨k0, k1, -, -⟩ := HD.out.cells
  obtain ⟨r0, r1, f0, f1⟩ := HRes.out _ HD.out.gr
  rw [hW3, hX] at k0 k1
  rw [hW3] at r0 r1 f0 f1
  clear hW3 hX ho hs2 hg2 hpw l1 l2 l3 l4
  go_wp2_with fail
  rw [← HXe.out] at k0 k1 ⊢
  rw [← HW3.out] at k0 k1 r0 r1 f0 f1 ⊢
  go_region_with (first
    | (go_at_call 30; refine (QK.out _ (by first | exact HD.out | exact HD.out.drew)).mono ?_; rintro e x1 ⟨q3, c3, L, rfl, hk, hL, t1⟩; obtain ⟨k2, k3, -, -⟩ := t1.cells; obtain ⟨u0, u1, g0, g1⟩ := HRes.out _ t1.gr))
  all_goals
    have HE : Hid _ := fun y0 y1 => HEnd.out x1 _ L y0 y1 t1 hk hL
    clear HEnd HRes QK t1 hk
    go_wp2_with fail
    refine bodyPost_ret (v := .tuple #[.agg #[.slice q1 ss.length c1, .slice q2 ps.length c2], .slice q3 L.length c3]) (by simp [results, Try.results6, go_sem, u0, u1]) rfl ?_
    exact HE.out _ _
set_option maxHeartbeats 4000000 in
theorem drawRead_any (B : Nat) (a : Option Addr) (len cap : Nat) (w : World) (hlen : len ≤ 1048576) (hB : B ≤ w.heap.size) (hc : CodeAt B a len w) :
    Calls Try.prog 10 #[.slice a len cap] w (DrawnR w) := by
  obtain ⟨W1, hW1⟩ : ∃ W1, W1 = w.alloc (.cells #[.slice none 0 0, .slice none 0 0] 26) := ⟨_, rfl⟩
  have HW1 : Hid (W1 = w.alloc (.cells #[.slice none 0 0, .slice none 0 0] 26)) := hW1
  have B1 : Hid (Below w.heap.size w W1) := by rw [hW1]; exact (Below.refl _ _).alloc (Nat.le_refl _) _
  have R1 : Hid (Bxs W1 w.heap.size 26 #[.slice none 0 0, .slice none 0 0]) := by rw [hW1]; exact Bxs.new _ _ _
  have z1 : W1.heap.size = w.heap.size + 1 := by rw [hW1]; simp
  have HZ1 : Hid (W1.heap.size = w.heap.size + 1) := z1
  have HC : Hid (CodeAt B a len W1) := hc.below (B1.out.mono hB)
  have hB1 : B ≤ W1.heap.size := by omega
  clear hW1 hc z1
  go_enter Try.func10, Try.ntmps10
  go_wp2_with fail
  rw [← HW1.out]
  refine (source_any B a len cap W1 hlen hB1 HC.out).mono ?_
  rintro e w1 ⟨rfl, hs1, hb1⟩
  have HB1 : Hid (Below W1.heap.size W1 w1) := hb1
  have H1 : Hid (Src 70 B W1.heap.size a len cap w1) := hs1
  clear hs1 hb1
  go_wp2_with fail
  refine (l05Disk_any B W1.heap.size a len cap w1 H1.out).mono ?_
  rintro e w2 ⟨⟨v1, v2, ss, ps, rfl, ho, l1, l2, l3, l4⟩, hs2, hg2⟩
  obtain ⟨q1, c1, rfl, m1, -⟩ := ownS_form ho.own1
  obtain ⟨q2, c2, rfl, m2, -⟩ := ownP_form ho.own2
  have HSm : Hid (SmallD ss ps) := ⟨l1, l2, l3, l4⟩
  have hpw := H1.out.lt
  have HD : Hid (DrS w1 B W1.heap.size a len cap w2.heap.size (.slice q1 ss.length c1) (.slice q2 ps.length c2) ss ps (w2.alloc (.cells #[.slice q1 ss.length c1, .slice q2 ps.length c2] 26))) := DrS.boxed hs2 hg2 hpw ho
  obtain ⟨X, hX⟩ : ∃ X, X = w2.heap.size := ⟨_, rfl⟩
  obtain ⟨W3, hW3⟩ : ∃ W3, W3 = w2.alloc (.cells #[.slice q1 ss.length c1, .slice q2 ps.length c2] 26) := ⟨_, rfl⟩
  have HW3 : Hid (W3 = w2.alloc (.cells #[.slice q1 ss.length c1, .slice q2 ps.length c2] 26)) := hW3
  rw [← hW3, ← hX] at HD
  have HXe : Hid (X = w2.heap.size) := hX
  have HRes : Hid (∀ x, w1.grownBy x (some W1.heap.size) → x.cell? ⟨w.heap.size, 0, none⟩ = some (.slice none 0 0) ∧ x.cell? ⟨w.heap.size, 1, none⟩ = some (.slice none 0 0) ∧ x.frozen? ⟨w.heap.size, 0, none⟩ = false ∧ x.frozen? ⟨w.heap.size, 1, none⟩ = false) := fun x hg => by
    have hz := HZ1.out
    have k : Bxs x w.heap.size 26 #[.slice none 0 0, .slice none 0 0] := (hg.block w.heap.size (by have := HB1.out.size; omega) (fun e => by simp at e; omega)).trans ((HB1.out.block w.heap.size (by omega)).trans R1.out)
    exact ⟨k.cell 0, k.cell 1, k.fr 0, k.fr 1⟩
  have HEnd : Hid (∀ (x : World) (k : Int) (y0 y1 : Value), DrS w1 B W1.heap.size a len cap X (.slice q1 ss.length c1) (.slice q2 ps.length c2) ss ps x → DrawnR w (.returned (.tuple #[.agg #[.slice q1 ss.length c1, .slice q2 ps.length c2], .int .i64 k])) ((x.setCell ⟨w.heap.size, 0, none⟩ y0).setCell ⟨w.heap.size, 1, none⟩ y1)) := by
    intro x k y0 y1 h
    have hz := HZ1.out
    have hz1 := HB1.out.size
    have o1 := (h.dsk.set2 (g := w.heap.size) (by omega) y0 y1)
    obtain ⟨_, _, e1, -, t1⟩ := ownS_form o1.own1
    obtain ⟨_, _, e2, -, t2⟩ := ownP_form o1.own2
    cases e1; cases e2
    refine ⟨⟨q1, c1, q2, c2, ss, ps, k, rfl, t1, t2, m1, m2, HSm.out⟩, ?_⟩
    have b := below_touch (chainB B1.out HB1.out) h.gr (by omega)
    exact (b.setCell (Nat.le_refl _) _).setCell (Nat.le_refl _) _
  clear ho hs2 hg2 hpw l1 l2 l3 l4
  rw [hX, hW3] at HD
  go_wp2_with fail
  refine (one_any B W1.heap.size a len cap 10 _ HD.out.src (by omega)).mono ?_
  rintro e w5 ⟨⟨bo, rfl⟩, hs5, hg5⟩
  have HD5 : Hid (DrS w1 B W1.heap.size a len cap X (.slice q1 ss.length c1) (.slice q2 ps.length c2) ss ps w5) := by rw [hX]; exact HD.out.step hs5 hg5
  rw [← hX]
  clear HD hs5 hg5 hW3 HW3 hX HXe
  obtain ⟨k0, k1, -, -⟩ := HD5.out.cells
  obtain ⟨r0, r1, f0, f1⟩ := HRes.out _ HD5.out.gr
  cases bo
  · have QN : Hid (∀ x, DrS w1 B W1.heap.size a len cap X (.slice q1 ss.length c1) (.slice q2 ps.length c2) ss ps x → Calls Try.prog 24 #[.pointer (some ⟨W1.heap.size, 0, none⟩), .int .i64 9] x fun e x1 => ∃ r : Int, e = .returned (.int .i64 r) ∧ DrS w1 B W1.heap.size a len cap X (.slice q1 ss.length c1) (.slice q2 ps.length c2) ss ps x1) := fun x h => (n_any B W1.heap.size a len cap 9 x h.src (by omega)).mono (by
      rintro e x1 ⟨⟨r, rfl, _, _, _⟩, s1, g1⟩
      exact ⟨r, rfl, h.step s1 g1⟩)
    go_wp2_with fail
    go_region_with (first
      | (go_at_call 24; refine (QN.out _ (by first | exact HD5.out | exact HD5.out.drew)).mono ?_; rintro e x1 ⟨r9, rfl, t1⟩; obtain ⟨k2, k3, -, -⟩ := t1.cells; obtain ⟨u0, u1, g0, g1⟩ := HRes.out _ t1.gr))
    all_goals
      have HE : Hid _ := fun y0 y1 => HEnd.out x1 r9 y0 y1 t1
      clear HEnd HRes QN t1
      go_wp2_with fail
      refine bodyPost_ret (v := .tuple #[.agg #[.slice q1 ss.length c1, .slice q2 ps.length c2], .int .i64 r9]) (by simp [results, Try.results10, go_sem, u0, u1]) rfl ?_
      exact HE.out _ _
  · have QN : Hid (∀ x, DrS w1 B W1.heap.size a len cap X (.slice q1 ss.length c1) (.slice q2 ps.length c2) ss ps x → Calls Try.prog 33 #[.pointer (some ⟨W1.heap.size, 0, none⟩)] x fun e x1 => ∃ r : Int, e = .returned (.int .i64 r) ∧ DrS w1 B W1.heap.size a len cap X (.slice q1 ss.length c1) (.slice q2 ps.length c2) ss ps x1) := fun x h => (edge_any B W1.heap.size a len cap x h.src).mono (by
      rintro e x1 ⟨⟨r, rfl, _, _⟩, s1, g1⟩
      exact ⟨r, rfl, h.step s1 g1⟩)
    go_wp2_with fail
    go_region_with (first
      | (go_at_call 33; refine (QN.out _ (by first | exact HD5.out | exact HD5.out.drew)).mono ?_; rintro e x1 ⟨r9, rfl, t1⟩; obtain ⟨k2, k3, -, -⟩ := t1.cells; obtain ⟨u0, u1, g0, g1⟩ := HRes.out _ t1.gr))
    all_goals
      have HE : Hid _ := fun y0 y1 => HEnd.out x1 r9 y0 y1 t1
      clear HEnd HRes QN t1
      go_wp2_with fail
      refine bodyPost_ret (v := .tuple #[.agg #[.slice q1 ss.length c1, .slice q2 ps.length c2], .int .i64 r9]) (by simp [results, Try.results10, go_sem, u0, u1]) rfl ?_
      exact HE.out _ _

set_option maxHeartbeats 2000000 in
theorem drawNew_any (B : Nat) (a : Option Addr) (len cap : Nat) (w : World) (hlen : len ≤ 1048576) (hB : B ≤ w.heap.size) (hc : CodeAt B a len w) :
    Calls Try.prog 9 #[.slice a len cap] w (DrawnN w) := by
  have HC : Hid (CodeAt B a len w) := hc
  clear hc
  go_enter Try.func9, Try.ntmps9
  go_wp2_with fail
  refine (source_any B a len cap w hlen hB HC.out).mono ?_
  rintro e w1 ⟨rfl, hs1, hb1⟩
  have H1 : Hid (Src 70 B w.heap.size a len cap w1) := hs1
  have HB1 : Hid (Below w.heap.size w w1) := hb1
  clear hs1 hb1
  go_wp2_with fail
  refine (one_any B w.heap.size a len cap 3 _ H1.out (by omega)).mono ?_
  rintro e w2 ⟨⟨bo, rfl⟩, hs2, hg2⟩
  have H2 : Hid (Src 70 B w.heap.size a len cap w2) := hs2
  have HB2 : Hid (Below w.heap.size w w2) := below_touch HB1.out hg2 (Nat.le_refl _)
  clear hs2 hg2 H1 HB1
  cases bo
  · go_wp2_with fail
    refine (n_any B w.heap.size a len cap 20 _ H2.out (by omega)).mono ?_
    rintro e w3 ⟨⟨r, rfl, _, _, _⟩, hs3, hg3⟩
    have HE : Hid (DrawnN w (.returned (.int .i64 r)) w3) := ⟨⟨r, rfl⟩, below_touch HB2.out hg3 (Nat.le_refl _)⟩
    clear hs3 hg3
    go_wp2_with fail
    go_ret
    exact HE.out
  · go_wp2_with fail
    refine (edge_any B w.heap.size a len cap _ H2.out).mono ?_
    rintro e w3 ⟨⟨r, rfl, _, _⟩, hs3, hg3⟩
    obtain ⟨W4, hW4⟩ : ∃ W4, W4 = w3.alloc (.cells #[.int .i64 0, .int .i64 1, .int .i64 64, .int .i64 65, .int .i64 r] 2) := ⟨_, rfl⟩
    have HW4 : Hid (W4 = w3.alloc (.cells #[.int .i64 0, .int .i64 1, .int .i64 64, .int .i64 65, .int .i64 r] 2)) := hW4
    have b4 : Below w3.heap.size w3 W4 := by rw [hW4]; exact (Below.refl _ _).alloc (Nat.le_refl _) _
    have K4 : Bxs W4 w3.heap.size 2 #[.int .i64 0, .int .i64 1, .int .i64 64, .int .i64 65, .int .i64 r] := by rw [hW4]; exact Bxs.new _ _ _
    have hs4 := hs3.below b4
    have hb3 := below_touch HB2.out hg3 (Nat.le_refl _)
    have hb4 := chainB hb3 b4
    have hlt := hs3.lt
    clear hW4 hs3 hg3
    go_wp2_with fail
    rw [← HW4.out]
    refine (n_any B w.heap.size a len cap 5 W4 hs4 (by omega)).mono ?_
    rintro e w5 ⟨⟨j, rfl, j0, j1, _⟩, hs5, hg5⟩
    have j2 : j < 5 := j1 (by omega)
    obtain ⟨J, rfl⟩ := Int.eq_ofNat_of_zero_le j0
    have K5 : Bxs w5 w3.heap.size 2 #[.int .i64 0, .int .i64 1, .int .i64 64, .int .i64 65, .int .i64 r] := (hg5.block w3.heap.size K4.lt (fun e => by simp at e; omega)).trans K4
    obtain ⟨v, hv⟩ : ∃ v : Int, (#[.int .i64 0, .int .i64 1, .int .i64 64, .int .i64 65, .int .i64 r] : Array Value)[J]? = some (.int .i64 v) := by
      match J, (show J < 5 by omega) with
      | 0, _ => exact ⟨_, rfl⟩
      | 1, _ => exact ⟨_, rfl⟩
      | 2, _ => exact ⟨_, rfl⟩
      | 3, _ => exact ⟨_, rfl⟩
      | 4, _ => exact ⟨_, rfl⟩
    have kc := (K5.cell J).trans hv
    have HE : Hid (DrawnN w (.returned (.int .i64 v)) w5) := ⟨⟨v, rfl⟩, below_touch hb4 hg5 (Nat.le_refl _)⟩
    have hJ : J < 5 := by omega
    clear hs5 hg5 K5 K4 hv hb4 hb3 hs4 j1 b4
    go_wp2_with fail
    go_ret
    exact HE.out

def DrawnW (w : World) (e : Ending) (w' : World) : Prop :=
  (∃ (q1 : Option Addr) (c1 : Nat) (q2 : Option Addr) (c2 : Nat) (ss : List ByteArray) (ps : List Pnd) (k : Int) (t : ByteArray), e = .returned (.tuple #[.agg #[.slice q1 ss.length c1, .slice q2 ps.length c2], .int .i64 k, .string t]) ∧ TxtAt w' q1 ss ∧ PndAt w' q2 ps ∧ ss.length ≤ c1 ∧ ps.length ≤ c2 ∧ t.size ≤ 100 ∧ SmallD ss ps) ∧ Below w.heap.size w w'
theorem setSz (w : World) (a : Addr) (v : Value) : (w.setCell a v).heap.size = w.heap.size := by simp [World.setCell]
theorem zconvS2 (n : Nat) (w : World) (g : Nat) (hg : g ≠ w.heap.size) (x y : Value) :
    (convert 22 9 (.slice (some ⟨w.heap.size, 0, none⟩) n n)).run Try.prog (((w.alloc (.cells (zrow n).toArray 5)).setCell ⟨g, 0, none⟩ x).setCell ⟨g, 1, none⟩ y) = .ok (.string (strOfNums (List.replicate n 0))) (((w.alloc (.cells (zrow n).toArray 5)).setCell ⟨g, 0, none⟩ x).setCell ⟨g, 1, none⟩ y) :=
  run_convert_bytes_arg (P := Try.prog) _ 22 5 Try.underlying22 Try.underlying5 w.heap.size 0 n n (List.replicate n 0) (by simp) (fun i hi => by
    rw [World.cell?_setCell_other _ _ _ _ (by intro e; have h := congrArg Addr.block e; exact hg (by first | exact h | exact h.symm)), World.cell?_setCell_other _ _ _ _ (by intro e; have h := congrArg Addr.block e; exact hg (by first | exact h | exact h.symm)), World.cell?_alloc_mark]; simp [zrow, hi]) 9 Try.underlying9
set_option maxHeartbeats 4000000 in
theorem drawWrite_any (B : Nat) (a : Option Addr) (len cap : Nat) (w : World) (hlen : len ≤ 1048576) (hB : B ≤ w.heap.size) (hc : CodeAt B a len w) :
    Calls Try.prog 4 #[.slice a len cap] w (DrawnW w) := by
  obtain ⟨W1, hW1⟩ : ∃ W1, W1 = w.alloc (.cells #[.slice none 0 0, .slice none 0 0] 26) := ⟨_, rfl⟩
  have HW1 : Hid (W1 = w.alloc (.cells #[.slice none 0 0, .slice none 0 0] 26)) := hW1
  have B1 : Hid (Below w.heap.size w W1) := by rw [hW1]; exact (Below.refl _ _).alloc (Nat.le_refl _) _
  have R1 : Hid (Bxs W1 w.heap.size 26 #[.slice none 0 0, .slice none 0 0]) := by rw [hW1]; exact Bxs.new _ _ _
  have z1 : W1.heap.size = w.heap.size + 1 := by rw [hW1]; simp
  have HZ1 : Hid (W1.heap.size = w.heap.size + 1) := z1
  have HC : Hid (CodeAt B a len W1) := hc.below (B1.out.mono hB)
  have hB1 : B ≤ W1.heap.size := by omega
  clear hW1 hc z1
  go_enter Try.func4, Try.ntmps4
  go_wp2_with fail
  rw [← HW1.out]
  refine (source_any B a len cap W1 hlen hB1 HC.out).mono ?_
  rintro e w1 ⟨rfl, hs1, hb1⟩
  have HB1 : Hid (Below W1.heap.size W1 w1) := hb1
  have H1 : Hid (Src 70 B W1.heap.size a len cap w1) := hs1
  clear hs1 hb1
  go_wp2_with fail
  refine (l05Disk_any B W1.heap.size a len cap w1 H1.out).mono ?_
  rintro e w2 ⟨⟨v1, v2, ss, ps, rfl, ho, l1, l2, l3, l4⟩, hs2, hg2⟩
  obtain ⟨q1, c1, rfl, m1, -⟩ := ownS_form ho.own1
  obtain ⟨q2, c2, rfl, m2, -⟩ := ownP_form ho.own2
  have HSm : Hid (SmallD ss ps) := ⟨l1, l2, l3, l4⟩
  have hpw := H1.out.lt
  have HD : Hid (DrS w1 B W1.heap.size a len cap w2.heap.size (.slice q1 ss.length c1) (.slice q2 ps.length c2) ss ps (w2.alloc (.cells #[.slice q1 ss.length c1, .slice q2 ps.length c2] 26))) := DrS.boxed hs2 hg2 hpw ho
  obtain ⟨X, hX⟩ : ∃ X, X = w2.heap.size := ⟨_, rfl⟩
  obtain ⟨W3, hW3⟩ : ∃ W3, W3 = w2.alloc (.cells #[.slice q1 ss.length c1, .slice q2 ps.length c2] 26) := ⟨_, rfl⟩
  have HW3 : Hid (W3 = w2.alloc (.cells #[.slice q1 ss.length c1, .slice q2 ps.length c2] 26)) := hW3
  rw [← hW3, ← hX] at HD
  have HXe : Hid (X = w2.heap.size) := hX
  have HRes : Hid (∀ x, w1.grownBy x (some W1.heap.size) → x.cell? ⟨w.heap.size, 0, none⟩ = some (.slice none 0 0) ∧ x.cell? ⟨w.heap.size, 1, none⟩ = some (.slice none 0 0) ∧ x.frozen? ⟨w.heap.size, 0, none⟩ = false ∧ x.frozen? ⟨w.heap.size, 1, none⟩ = false) := fun x hg => by
    have hz := HZ1.out
    have k : Bxs x w.heap.size 26 #[.slice none 0 0, .slice none 0 0] := (hg.block w.heap.size (by have := HB1.out.size; omega) (fun e => by simp at e; omega)).trans ((HB1.out.block w.heap.size (by omega)).trans R1.out)
    exact ⟨k.cell 0, k.cell 1, k.fr 0, k.fr 1⟩
  have HEnd : Hid (∀ (x : World) (at9 : Int) (t : ByteArray) (y0 y1 : Value), DrS w1 B W1.heap.size a len cap X (.slice q1 ss.length c1) (.slice q2 ps.length c2) ss ps x → t.size ≤ 100 → DrawnW w (.returned (.tuple #[.agg #[.slice q1 ss.length c1, .slice q2 ps.length c2], .int .i64 at9, .string t])) ((x.setCell ⟨w.heap.size, 0, none⟩ y0).setCell ⟨w.heap.size, 1, none⟩ y1)) := by
    intro x at9 t y0 y1 h ht
    have hz := HZ1.out
    have hz1 := HB1.out.size
    have o1 := (h.dsk.set2 (g := w.heap.size) (by omega) y0 y1)
    obtain ⟨_, _, e1, -, t1⟩ := ownS_form o1.own1
    obtain ⟨_, _, e2, -, t2⟩ := ownP_form o1.own2
    cases e1; cases e2
    refine ⟨⟨q1, c1, q2, c2, ss, ps, at9, t, rfl, t1, t2, m1, m2, ht, HSm.out⟩, ?_⟩
    have b := below_touch (chainB B1.out HB1.out) h.gr (by omega)
    exact (b.setCell (Nat.le_refl _) _).setCell (Nat.le_refl _) _
  have HEnd2 : Hid (∀ (x : World) (at9 : Int) (t : ByteArray) (y0 y1 : Value) (o : Obj), DrS w1 B W1.heap.size a len cap X (.slice q1 ss.length c1) (.slice q2 ps.length c2) ss ps x → t.size ≤ 100 → DrawnW w (.returned (.tuple #[.agg #[.slice q1 ss.length c1, .slice q2 ps.length c2], .int .i64 at9, .string t])) (((x.setCell ⟨w.heap.size, 0, none⟩ y0).setCell ⟨w.heap.size, 1, none⟩ y1).alloc o)) := by
    intro x at9 t y0 y1 o h ht
    have hz := HZ1.out
    have hz1 := HB1.out.size
    have b0 := (Below.refl ((x.setCell ⟨w.heap.size, 0, none⟩ y0).setCell ⟨w.heap.size, 1, none⟩ y1).heap.size ((x.setCell ⟨w.heap.size, 0, none⟩ y0).setCell ⟨w.heap.size, 1, none⟩ y1)).alloc (Nat.le_refl _) o
    have o1 := (h.dsk.set2 (g := w.heap.size) (by omega) y0 y1).below b0
    obtain ⟨_, _, e1, -, t1⟩ := ownS_form o1.own1
    obtain ⟨_, _, e2, -, t2⟩ := ownP_form o1.own2
    cases e1; cases e2
    refine ⟨⟨q1, c1, q2, c2, ss, ps, at9, t, rfl, t1, t2, m1, m2, ht, HSm.out⟩, ?_⟩
    have b := below_touch (chainB B1.out HB1.out) h.gr (by omega)
    have b2 := (b.setCell (show w.heap.size ≤ (⟨w.heap.size, 0, none⟩ : Addr).block from Nat.le_refl _) y0).setCell (show w.heap.size ≤ (⟨w.heap.size, 1, none⟩ : Addr).block from Nat.le_refl _) y1
    exact b2.alloc b2.size o
  clear ho hs2 hg2 hpw l1 l2 l3 l4
  rw [hX, hW3] at HD
  go_wp2_with fail
  refine (n_any B W1.heap.size a len cap 9 _ HD.out.src (by omega)).mono ?_
  rintro e w4 ⟨⟨at9, rfl, _, _, _⟩, hs4, hg4⟩
  have HD4 : Hid (DrS w1 B W1.heap.size a len cap X (.slice q1 ss.length c1) (.slice q2 ps.length c2) ss ps w4) := by rw [hX]; exact HD.out.step hs4 hg4
  rw [← hX]
  clear HD hs4 hg4 hW3 HW3 hX HXe
  go_wp2_with fail
  refine (one_any B W1.heap.size a len cap 10 _ HD4.out.src (by omega)).mono ?_
  rintro e w5 ⟨⟨bo, rfl⟩, hs5, hg5⟩
  have HD5 : Hid (DrS w1 B W1.heap.size a len cap X (.slice q1 ss.length c1) (.slice q2 ps.length c2) ss ps w5) := HD4.out.step hs5 hg5
  clear HD4 hs5 hg5
  obtain ⟨k0, k1, -, -⟩ := HD5.out.cells
  obtain ⟨r0, r1, f0, f1⟩ := HRes.out _ HD5.out.gr
  have QN : Hid (∀ (m : Int) x, 1 < m → m ≤ 9 → DrS w1 B W1.heap.size a len cap X (.slice q1 ss.length c1) (.slice q2 ps.length c2) ss ps x → Calls Try.prog 24 #[.pointer (some ⟨W1.heap.size, 0, none⟩), .int .i64 m] x fun e x1 => ∃ R : Nat, e = .returned (.int .i64 (R : Int)) ∧ (R : Int) < m ∧ DrS w1 B W1.heap.size a len cap X (.slice q1 ss.length c1) (.slice q2 ps.length c2) ss ps x1) := fun m x h1 h9 h => (n_any B W1.heap.size a len cap m x h.src (by omega)).mono (by
    rintro e x1 ⟨⟨r, rfl, q0, q1, _⟩, s1, g1⟩
    have := q1 h1
    obtain ⟨R, rfl⟩ := Int.eq_ofNat_of_zero_le q0
    exact ⟨R, rfl, this, h.step s1 g1⟩)
  cases bo
  · have QB : Hid (∀ (r : Nat) x, (r : Int) < 5 → DrS w1 B W1.heap.size a len cap X (.slice q1 ss.length c1) (.slice q2 ps.length c2) ss ps x → Calls Try.prog 26 #[.pointer (some ⟨W1.heap.size, 0, none⟩), .int .i64 (r : Int)] x fun e x1 => ∃ t : ByteArray, e = .returned (.string t) ∧ t.size ≤ 100 ∧ DrS w1 B W1.heap.size a len cap X (.slice q1 ss.length c1) (.slice q2 ps.length c2) ss ps x1) := fun r x hr h => (bytes_any B W1.heap.size a len cap r x h.src (by omega)).mono (by
      rintro e x1 ⟨⟨t, rfl, ht⟩, s1, g1⟩
      exact ⟨t, rfl, by omega, h.step s1 g1⟩)
    go_wp2_with fail
    go_region_with (first
      | (go_at_call 24; refine (QN.out 5 _ (by omega) (by omega) (by first | exact HD5.out | exact HD5.out.drew)).mono ?_; rintro e x1 ⟨r5, rfl, hr5, t1⟩; obtain ⟨k2, k3, -, -⟩ := t1.cells; obtain ⟨u0, u1, g0, g1⟩ := HRes.out _ t1.gr)
      | (go_at_call 26; refine (QB.out _ _ hr5 (by first | exact t1 | exact t1.drew)).mono ?_; rintro e x2 ⟨t, rfl, ht, t2⟩; obtain ⟨k4, k5, -, -⟩ := t2.cells; obtain ⟨u2, u3, g2, g3⟩ := HRes.out _ t2.gr))
    all_goals
      have HE : Hid _ := fun y0 y1 => HEnd.out x2 at9 t y0 y1 t2 ht
      clear HEnd HEnd2 HRes QN QB t1 t2
      go_wp2_with fail
      refine bodyPost_ret (v := .tuple #[.agg #[.slice q1 ss.length c1, .slice q2 ps.length c2], .int .i64 at9, .string t]) (by simp [results, Try.results4, go_sem, u2, u3]) rfl ?_
      exact HE.out _ _
  · have HZ1n : Hid (w.heap.size < w1.heap.size) := by have := HZ1.out; have := HB1.out.size; show _ < _; omega
    go_wp2_with fail
    go_region_law (first
      | (go_simp; go_at_call 24; refine (QN.out 2 _ (by omega) (by omega) (by first | exact HD5.out | exact HD5.out.drew)).mono ?_; rintro e x1 ⟨r, rfl, hr2, q1'⟩; obtain ⟨k2, k3, -, -⟩ := q1'.cells; have hmk := run_make_u8s (64 + r) (by omega) x1; rw [show (((64 + r : Nat)) : Int) = 64 + (r : Int) by omega] at hmk; have hzc := zconv (64 + r) x1; obtain ⟨d4, d5, d6, d7⟩ := HRes.out _ q1'.gr; have hmk2 := run_make_u8s (64 + r) (by omega) ((x1.setCell ⟨w.heap.size, 0, none⟩ (.slice q1 ss.length c1)).setCell ⟨w.heap.size, 1, none⟩ (.slice q2 ps.length c2)); rw [show (((64 + r : Nat)) : Int) = 64 + (r : Int) by omega, setSz, setSz] at hmk2; have hzc2 := zconv (64 + r) ((x1.setCell ⟨w.heap.size, 0, none⟩ (.slice q1 ss.length c1)).setCell ⟨w.heap.size, 1, none⟩ (.slice q2 ps.length c2)); rw [setSz, setSz] at hzc2; have hgt : w.heap.size ≠ x1.heap.size := (by have := q1'.gr.size; have := HZ1n.out; omega); have he0 : (((x1.setCell ⟨w.heap.size, 0, none⟩ (.slice q1 ss.length c1)).setCell ⟨w.heap.size, 1, none⟩ (.slice q2 ps.length c2)).alloc (.cells (zrow (64 + r)).toArray 5)).cell? ⟨w.heap.size, 0, none⟩ = some (.slice q1 ss.length c1) := (by rw [World.cell?_alloc_old _ _ _ (by rw [setSz, setSz]; exact hgt)]; go_simp); have he1 : (((x1.setCell ⟨w.heap.size, 0, none⟩ (.slice q1 ss.length c1)).setCell ⟨w.heap.size, 1, none⟩ (.slice q2 ps.length c2)).alloc (.cells (zrow (64 + r)).toArray 5)).cell? ⟨w.heap.size, 1, none⟩ = some (.slice q2 ps.length c2) := (by rw [World.cell?_alloc_old _ _ _ (by rw [setSz, setSz]; exact hgt)]; go_simp); have hzs := zconvS2 (64 + r) x1 w.heap.size hgt; have HZ : (strOfNums (List.replicate (64 + r) 0)).size ≤ 100 := (by rw [strOfNums_size, List.length_replicate]; omega); have q2' := q1'.al (.cells (zrow (64 + r)).toArray 5); obtain ⟨k4, k5, -, -⟩ := q2'.cells; obtain ⟨d0, d1, d2, d3⟩ := HRes.out _ q2'.gr; have hwr : IntKind.i64.wrap (64 + (r : Int)) = 64 + (r : Int) := (by rw [IntKind.wrap_i64]; omega); generalize strOfNums (List.replicate (64 + r) 0) = t at *))
    all_goals
      go_wp2_with fail
      refine bodyPost_ret (v := .tuple #[.agg #[.slice q1 ss.length c1, .slice q2 ps.length c2], .int .i64 at9, .string t]) (by simp [results, Try.results4, go_sem, d0, d1, he0, he1]) rfl ?_
      first
        | exact HEnd.out _ _ t _ _ q2' HZ
        | exact HEnd2.out _ _ t _ _ _ q1' HZ

end Go.Proofs.Ythiokdiodgdamab
