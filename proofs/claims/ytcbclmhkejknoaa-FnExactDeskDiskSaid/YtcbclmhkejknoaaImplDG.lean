/-
  What the program's flush does to the sectors of a disk at work, and what flushed answers: 'flushB', whatever the order in which the map is gone through.
  Conditions: the disk is right: at most 64 sectors, nothing greater than 64 bytes, each place one of the disk's.
-/
import Derived.Test.YtcbclmhkejknoaaRows
import Derived.Test.YtcbclmhkejknoaaBytes
import Derived.Test.YtcbclmhkejknoaaJoined
import Derived.Test.YtcbclmhkejknoaaSlA
import Derived.Test.YtcbclmhkejknoaaSlB
import Derived.Test.YtcbclmhkejknoaaOwnS
import Derived.Test.YtcbclmhkejknoaaOwnB
import Derived.Test.YtcbclmhkejknoaaCopied
import Derived.Test.YtcbclmhkejknoaaDskMath
import Derived.Test.YtcbclmhkejknoaaDskC
import Derived.Test.YtcbclmhkejknoaaDskT
import Derived.Test.YtcbclmhkejknoaaDskF
import Derived.Test.YtcbclmhkejknoaaDskK
import Derived.Test.YtcbclmhkejknoaaLawD
import Derived.Test.YtcbclmhkejknoaaDskMap
import Derived.Test.YtcbclmhkejknoaaImplDO
import Derived.Test.YtcbclmhkejknoaaImplDF
import Derived.Handy
import Derived.WalkSpells
import Derived.OwnWalk
import Derived.Laws.OwnMore
import Derived.Maps.RangeWalk
import Derived.Deep.RegionWith
namespace Go.Proofs.Ytcbclmhkejknoaa
open Go.RowKit Go.Lib Go.Maps
set_option linter.unusedVariables false
set_option maxRecDepth 20000

/-- A flush under way: the map in block M is gone through by the iterator at r, the sectors lie in the row at b; nothing else of W1 turns. -/
structure FlW (w0 : World) (B0 : Nat) (W1 : World) (b d M r n : Nat) (ss : List ByteArray) (ps : List Pnd) (D : DataW Pnd) (left : Lit → Bool) (cnt : Nat) (L : List ByteArray) (w : World) : Prop where
  rg : w.ranges Try.prog 2 pndElem M r n D left cnt
  fl : FlR ss ps D left L
  own : w.ownsRow B0 9 1 (.slice (some ⟨b, 0, none⟩) ss.length d) ss.length (strRow L)
  bel : Below B0 w0 w
  fr : ∀ X, X < W1.heap.size → X ≠ b → X ≠ M → w.heap[X]? = W1.heap[X]?
  hb : B0 ≤ b ∧ b < W1.heap.size
  hM : B0 ≤ M ∧ M < W1.heap.size
  ne : b ≠ M
  hB : B0 ≤ W1.heap.size
  hr : r = W1.heap.size
variable {w0 W1 w w' : World} {B0 b d M r n cnt cnt' : Nat} {ss L : List ByteArray} {ps : List Pnd} {D D' : DataW Pnd} {left left' : Lit → Bool}
theorem FlW.size (h : FlW w0 B0 W1 b d M r n ss ps D left cnt L w) : r < w.heap.size := h.rg.lt
/-- The iterator has gone on. -/
theorem FlW.next (h : FlW w0 B0 W1 b d M r n ss ps D left cnt L w) (hg : w.grownBy w' (some r)) : w'.ownsRow B0 9 1 (.slice (some ⟨b, 0, none⟩) ss.length d) ss.length (strRow L) ∧ Below B0 w0 w' ∧ ∀ X, X < W1.heap.size → X ≠ b → X ≠ M → w'.heap[X]? = W1.heap[X]? := by
  have h1 := h.hb
  have h3 := h.size
  have h4 := h.hr
  have h5 := h.hB
  refine ⟨h.own.kept hg (.inr (fun e => by simp [Value.ownBlock] at e; omega)), h.bel.grown hg (by omega) (fun j hj => by cases hj; omega), fun X hX n1 n2 => ?_⟩
  rw [hg.block X (by omega) (by simp; omega)]
  exact h.fr X hX n1 n2
theorem grown_set (w : World) (b A : Nat) (v : Value) : w.grownBy (w.setCell ⟨b, A, none⟩ v) (some b) := by
  refine ⟨rfl, rfl, rfl, by simp [World.setCell], fun q hq hne => ?_⟩
  have hq' : b ≠ q := fun e => hne (by rw [e])
  simp [World.setCell, Array.getElem?_modify, hq']
/-- What is left to do of a round: the sectors' row is written, the entry is struck. -/
theorem FlW.put (h : FlW w0 B0 W1 b d M r n ss ps D left cnt L w) {A : Nat} {p1 : Int} {p2 : ByteArray} {w1 w2 w3 : World} {c2 : Nat} (hA : A < ss.length) (hl : left (.int .i64 (A : Int)) = true) (hp : ∀ zd, D.atKey (.int .i64 (A : Int)) zd = .held (p1, p2))
    (hg : w.grownBy w1 (some r)) (h12 : Below w1.heap.size w1 w2)
    (hr3 : w3.ranges Try.prog 2 pndElem M r n (D.del (.int .i64 (A : Int))) (fun z => (left z && !z.sameKey (.int .i64 (A : Int))) && !z.sameKey (.int .i64 (A : Int))) c2) (ht : (w2.setCell ⟨b, A, none⟩ (.string p2)).mapTurned w3 M) :
    FlW w0 B0 W1 b d M r n ss ps (D.del (.int .i64 (A : Int))) (fun z => left z && !z.sameKey (.int .i64 (A : Int))) c2 (L.set A p2) w3 := by
  obtain ⟨o1, b1, f1⟩ := h.next hg
  have hb := h.hb
  have hM := h.hM
  have hs := h.size
  have hr := h.hr
  have hB := h.hB
  have hs1 := hg.size
  have hs2 := h12.size
  rw [strike_twice] at hr3
  have gt := ht.grown
  have o2 := ownS_below o1 h12
  have o3 := (o2.stored A (.string p2)).1
  have e : (strRow L).set A (.string p2) = strRow (L.set A p2) := by simp [strRow, List.map_set]
  rw [e] at o3
  have hsz : (w2.setCell ⟨b, A, none⟩ (.string p2)).heap.size = w2.heap.size := by simp [World.setCell]
  refine ⟨hr3, h.fl.step hA hl hp, o3.kept gt (.inr (fun e => by simp [Value.ownBlock] at e; exact h.ne e)), ?_, fun X hX n1 n2 => ?_, hb, hM, h.ne, hB, hr⟩
  · exact ((b1.trans (h12.mono (by omega))).setCell (by exact hb.1) _).grown gt (by rw [hsz]; omega) (fun j hj => by cases hj; exact hM.1)
  · rw [gt.block X (by rw [hsz]; omega) (by simp; exact n2), show (w2.setCell ⟨b, A, none⟩ (.string p2)).heap[X]? = w2.heap[X]? by simp [World.setCell, Array.getElem?_modify, Ne.symm n1], h12.block X (by omega)]
    exact f1 X hX n1 n2

set_option maxHeartbeats 4000000 in
theorem flush_any (w0 : World) (B0 b d M n : Nat) (D : DataW Pnd) (ss : List ByteArray) (ps : List Pnd) (w : World) (own : w.ownsRow B0 9 1 (.slice (some ⟨b, 0, none⟩) ss.length d) ss.length (strRow ss)) (hO : w.ownsMap Try.prog 2 pndElem M n D) (hD : MapOf D ps) (hb : Below B0 w0 w) (hBM : B0 ≤ M) (hne : b ≠ M) (hB0 : B0 ≤ w.heap.size) (n1 : ss.length ≤ 64) (h5 : ∀ p ∈ ps, pndOk ss.length p) :
    Calls Try.prog 50 #[.agg #[.slice (some ⟨b, 0, none⟩) ss.length d, .map (some M)]] w fun e w' => e = .returned (.tuple #[]) ∧ w'.ownsRow B0 9 1 (.slice (some ⟨b, 0, none⟩) ss.length d) ss.length (strRow (flushB ss ps)) ∧ Below B0 w0 w' ∧ ∀ X, X < w.heap.size → X ≠ b → X ≠ M → w'.heap[X]? = w.heap[X]? := by
  have hM := hO.lt
  have hbb := own.lt b rfl
  obtain ⟨W1, hW1⟩ : ∃ W1, W1 = w.alloc (.cells #[.slice (some ⟨b, 0, none⟩) ss.length d, .map (some M)] 75) := ⟨_, rfl⟩
  have HW1 : Hid (W1 = w.alloc (.cells #[.slice (some ⟨b, 0, none⟩) ss.length d, .map (some M)] 75)) := hW1
  have s1 : W1.heap.size = w.heap.size + 1 := by rw [hW1]; simp
  have b1 : Below w.heap.size w W1 := by rw [hW1]; exact (Below.refl _ _).alloc (Nat.le_refl _) _
  have K1 : Bxs W1 w.heap.size 75 #[.slice (some ⟨b, 0, none⟩) ss.length d, .map (some M)] := by rw [hW1]; exact Bxs.new _ _ _
  have O1 : W1.ownsMap Try.prog 2 pndElem M n D := by rw [hW1]; exact hO.alloc _
  have c1 := K1.cell 1
  have HF0 : Hid (∀ x, x.ranges Try.prog 2 pndElem M (w.heap.size + 1) n D (has D) (Maps.size D) → W1.grownBy x none → FlW w0 B0 W1 b d M (w.heap.size + 1) n ss ps D (has D) (Maps.size D) ss x) := fun x hr hg =>
    ⟨hr, FlR.start hD, (ownS_below own b1).kept hg (.inr (by simp [Value.ownBlock])), (hb.trans (b1.mono hB0)).grown hg (by omega) (fun j hj => by cases hj), fun X hX _ _ => hg.block X hX (by simp), ⟨hbb.1, by omega⟩, ⟨hBM, by omega⟩, hne, by omega, s1.symm⟩
  have H5 : Hid (∀ p ∈ ps, pndOk ss.length p) := h5
  have HIn : Hid (∀ left L D, FlR ss ps D left L → ∀ x, left (.int .i64 x) = true → ∃ A : Nat, A < ss.length ∧ x = (A : Int)) := fun left L D hf x hx => by
    obtain ⟨p, hp, -⟩ := hf.to_ x hx
    obtain ⟨hm, rfl⟩ := lastP_at hp
    obtain ⟨⟨q1, q2⟩, -⟩ := h5 p hm
    exact ⟨p.1.toNat, by omega, by omega⟩
  have HEnd : Hid (∀ (D : DataW Pnd) (left : Lit → Bool) (cnt : Nat) (L : List ByteArray) (x : World), FlW w0 B0 W1 b d M (w.heap.size + 1) n ss ps D left cnt L x → (∀ kl, left kl = false) → x.ownsRow B0 9 1 (.slice (some ⟨b, 0, none⟩) ss.length d) ss.length (strRow (flushB ss ps)) ∧ Below B0 w0 x ∧ ∀ X, X < w.heap.size → X ≠ b → X ≠ M → x.heap[X]? = w.heap[X]?) := fun D left cnt L x h h0 => by
    have e := h.fl.done h0 h5
    subst e
    exact ⟨h.own, h.bel, fun X hX n1 n2 => (h.fr X (by omega) n1 n2).trans (b1.block X hX)⟩
  rw [HW1.out] at c1 O1 HF0
  have HK1 : Hid (Bxs W1 w.heap.size 75 #[.slice (some ⟨b, 0, none⟩) ss.length d, .map (some M)]) := K1
  clear hW1 own hO hD hb b1 h5 K1
  go_enter Try.func50, Try.ntmps50
  go_wp2_with (at_range; refine wpList_range_own _ rfl _ 73 rfl 2 53 keyedI Try.underlying73 pndElem M n D rfl O1 ?_; intro y0 hrg0 hg0 hs0)
  go_frame
  rw [show (w.alloc (.cells #[.slice (some ⟨b, 0, none⟩) ss.length d, .map (some M)] 75)).heap.size = w.heap.size + 1 by simp] at hrg0 ⊢
  have HF : Hid (FlW w0 B0 W1 b d M (w.heap.size + 1) n ss ps D (has D) (Maps.size D) ss y0) := by rw [HW1.out]; exact HF0.out y0 hrg0 hg0
  clear hrg0 hg0 hs0 HF0 O1 c1
  go_loopw [7] (fun _ wr => ∃ (left : Lit → Bool) (cnt : Nat) (D : DataW Pnd) (L : List ByteArray), Hid (FlW w0 B0 W1 b d M (w.heap.size + 1) n ss ps D left cnt L wr)) (fun _ wr => wr.rangeLeft M (w.heap.size + 1))
  case atStart => exact ⟨_, _, _, _, HF⟩
  case round =>
    clear HF
    obtain ⟨left, cnt, D, L, HF⟩ := hrel
    have hin := HIn.out left L D HF.out.fl
    have hrg := HF.out.rg
    go_wp2_with (at_next; refine wpList_next_pnd _ rfl _ rfl 2 keyedI Try.underlying2 M (w.heap.size + 1) n _ _ _ rfl hrg ss.length hin ?_ ?_)
    · intro hl0
      have HE := HEnd.out _ _ _ _ _ HF.out hl0
      clear HF hrg hin HEnd HIn
      go_wp2_with fail
      go_end0
      exact ⟨rfl, HE⟩
    · intro A x Dt w1 cnt1 hA hlx hat hrg1 hlt hg1 hs1 hen
      have hml := HF.out.rg.left_eq
      obtain ⟨p, hp, hpa⟩ := HF.out.fl.to_ _ hlx
      have hsz : Dt.size ≤ 64 := by
        have := (hpa .nil).symm.trans (hat .nil)
        cases this
        exact (H5.out _ (lastP_at hp).1).2
      obtain ⟨o1, b1, f1⟩ := HF.out.next hg1
      have hlen : L.length = ss.length := HF.out.fl.len
      have hsz1 := HF.out.size
      have hw : (Lit.int .i64 (A : Int)).wf = true := WalkArith.wf_i64 (by omega)
      have hA1 : (A : Int) < ss.length := by omega
      have hX1 : w1.heap[w.heap.size]? = some (.cells #[.slice (some ⟨b, 0, none⟩) ss.length d, .map (some M)] 75 (0, 0)) := (f1 w.heap.size (by omega) (by omega) (by omega)).trans HK1.out
      have HX : Hid (∀ y, Below w1.heap.size w1 y → y.cell? ⟨w.heap.size, 0, none⟩ = some (.slice (some ⟨b, 0, none⟩) ss.length d) ∧ (∃ t, y.cell? ⟨b, A, none⟩ = some (.string t)) ∧ y.frozen? ⟨b, A, none⟩ = false) := fun y hy => by
        have h0 := (hy.block w.heap.size (by omega)).trans hX1
        have ho := ownS_below o1 hy
        refine ⟨by simp [World.cell?, h0], ⟨L[A]'(by omega), ?_⟩, ho.frozenAt A⟩
        rw [ho.cellAt A (by omega)]
        simp [strRow, show A < L.length by omega]
      have HR : Hid (∀ y v, Below w1.heap.size w1 y → (y.setCell ⟨b, A, none⟩ v).ranges Try.prog 2 pndElem M (w.heap.size + 1) n D (fun z => left z && !z.sameKey (.int .i64 (A : Int))) cnt1 ∧ (y.setCell ⟨b, A, none⟩ v).cell? ⟨w.heap.size, 1, none⟩ = some (.map (some M))) := fun y v hy => by
        refine ⟨(hrg1.kept (grown_below hy) (by simp) (by simp)).kept (grown_set y b A v) (by simp; exact fun e => hne e.symm) (by simp; omega), ?_⟩
        have h0 : (y.setCell ⟨b, A, none⟩ v).heap[w.heap.size]? = _ := ((grown_set y b A v).block w.heap.size (by have := hy.size; omega) (by simp; omega)).trans ((hy.block w.heap.size (by omega)).trans hX1)
        simp [World.cell?, h0]
      have HPut : Hid (∀ y w3 c2, Below w1.heap.size w1 y → w3.ranges Try.prog 2 pndElem M (w.heap.size + 1) n (D.del (.int .i64 (A : Int))) (fun z => (left z && !z.sameKey (.int .i64 (A : Int))) && !z.sameKey (.int .i64 (A : Int))) c2 → (y.setCell ⟨b, A, none⟩ (.string Dt)).mapTurned w3 M → FlW w0 B0 W1 b d M (w.heap.size + 1) n ss ps (D.del (.int .i64 (A : Int))) (fun z => left z && !z.sameKey (.int .i64 (A : Int))) c2 (L.set A Dt) w3) := fun y w3 c2 hy hr ht => HF.out.put hA hlx hat hg1 hy hr ht
      obtain ⟨Y, hY⟩ : ∃ Y, Y = w1.alloc (.cells #[.int .i64 x, .string Dt] 53) := ⟨_, rfl⟩
      have HY : Hid (Y = w1.alloc (.cells #[.int .i64 x, .string Dt] 53)) := hY
      have bY : Below w1.heap.size w1 Y := by rw [hY]; exact (Below.refl _ _).alloc (Nat.le_refl _) _
      have KY : Bxs Y w1.heap.size 53 #[.int .i64 x, .string Dt] := by rw [hY]; exact Bxs.new _ _ _
      have HBY : Hid (Below w1.heap.size w1 Y) := bY
      have HJ : Hid (∀ y, Below w1.heap.size w1 y → Calls Try.prog 41 #[.slice (some ⟨y.heap.size, 0, none⟩) 1 1] (y.alloc (.cells #[.string Dt] 9)) fun e w' => e = .returned (.string Dt) ∧ Below w1.heap.size w1 w') := fun y hy => (joined_one Dt y (by omega)).mono (by
        rintro e w' ⟨rfl, h⟩
        exact ⟨rfl, chainB hy h⟩)
      have HJ2 : Hid (∀ y, Below w1.heap.size w1 y → Calls Try.prog 41 #[.slice (some ⟨y.heap.size, 0, none⟩) 1 1] (y.alloc (.cells #[.string Dt] 9)).drew fun e w' => e = .returned (.string Dt) ∧ Below w1.heap.size w1 w') := fun y hy => HJ.out y.drew hy.drew
      obtain ⟨k0, ⟨t0, k1⟩, k2⟩ := HX.out Y bY
      have k3 := KY.cell 1
      have k4 := (KY.below ((Below.refl _ _).alloc (Nat.le_refl _) (.cells #[.string Dt] 9))).cell 1
      obtain ⟨l0, ⟨t2, l1⟩, l2⟩ := HX.out _ (bY.alloc bY.size (.cells #[.string Dt] 9))
      rw [hY] at k0 k1 k2 k3
      clear hs1 hlen hY bY KY hrg hrg1 HF hg1 o1 b1 f1 hX1 hp hpa hin hlx hat
      go_wp2_with fail
      rw [← HY.out] at k0 k1 k2 k3 ⊢
      go_region_with (first
        | (go_at_call 41; first | refine (HJ.out _ (by first | exact HBY.out | exact HBY.out.drew)).mono ?_ | refine (HJ2.out _ (by first | exact HBY.out | exact HBY.out.drew)).mono ?_; rintro e y2 ⟨rfl, z2⟩; obtain ⟨j0, ⟨t1, j1⟩, j2⟩ := HX.out y2 z2))
      all_goals
        have HZ : Hid (Below w1.heap.size w1 y2) := z2
        obtain ⟨hr2, m1⟩ := HR.out y2 (.string Dt) z2
        go_wp2_with (at_delete; refine wpList_delete_ranges _ rfl _ _ 73 2 rfl 53 keyedI Try.underlying73 pndElem M (w.heap.size + 1) n _ _ _ rfl hr2 _ _ rfl (keyOf_int_mk Try.underlying2 hw) ?_; intro w3 c3 hr3 hle ht; go_frame)
        have hP := HPut.out _ _ _ z2 hr3 ht
        have hm := hP.rg.left_eq
        have HP3 : Hid (FlW w0 B0 W1 b d M (w.heap.size + 1) n ss ps (D.del (.int .i64 (A : Int))) (fun z => left z && !z.sameKey (.int .i64 (A : Int))) c3 (L.set A Dt) w3) := hP
        clear hP hr3 ht hr2
        go_roundw
        case rel => exact ⟨_, _, _, _, HP3⟩
        case measure => rw [hm, hml]; omega

set_option maxHeartbeats 4000000 in
theorem flushed_any (q1 : Option Addr) (c1 : Nat) (ss : List ByteArray) (q2 : Option Addr) (c2 : Nat) (ps : List Pnd) (w : World) (h1 : TxtAt w q1 ss) (h2 : PndAt w q2 ps) (n0 : 1 ≤ ss.length) (n1 : ss.length ≤ 64) (n2 : ps.length ≤ 1048576) (m1 : ss.length ≤ c1) (m2 : ps.length ≤ c2) (h4 : ∀ x ∈ ss, x.size ≤ 64) (h5 : ∀ p ∈ ps, pndOk ss.length p) :
    Calls Try.prog 47 #[.slice q1 ss.length c1, .slice q2 ps.length c2] w fun e w' => ∃ v1, e = .returned (.agg #[v1, .slice none 0 0]) ∧ DskO w.heap.size (flushB ss ps) [] v1 (.slice none 0 0) w' ∧ Below w.heap.size w w' := by
  obtain ⟨W1, hW1⟩ : ∃ W1, W1 = w.alloc (.cells #[.slice none 0 0, .slice none 0 0] 25) := ⟨_, rfl⟩
  have HW1 : Hid (W1 = w.alloc (.cells #[.slice none 0 0, .slice none 0 0] 25)) := hW1
  have s1 : W1.heap.size = w.heap.size + 1 := by rw [hW1]; simp
  have B1 : Below w.heap.size w W1 := by rw [hW1]; exact (Below.refl _ _).alloc (Nat.le_refl _) _
  have K1 : Bxs W1 w.heap.size 25 #[.slice none 0 0, .slice none 0 0] := by rw [hW1]; exact Bxs.new _ _ _
  have hc := copied_any q1 c1 ss W1 (h1.below B1) (by omega) m1 (fun x hx => by have := h4 x hx; omega)
  have H5 : Hid (∀ p ∈ ps, pndOk ss.length p) := h5
  have T2 : Hid (PndAt W1 q2 ps) := h2.below B1
  have HB1 : Hid (Below w.heap.size w W1) := B1
  have HS1 : Hid (W1.heap.size = w.heap.size + 1) := s1
  clear hW1 h1 h2 h4 h5 B1 s1
  go_enter Try.func47, Try.ntmps47
  go_wp2_with fail
  rw [← HW1.out]
  refine hc.mono ?_
  rintro e y1 ⟨v1, rfl, o1, b1⟩
  obtain ⟨g, d, hg, rfl⟩ : ∃ g d, W1.heap.size ≤ g ∧ v1 = .slice (some ⟨g, 0, none⟩) ss.length d := by
    rcases o1.2 with ⟨rfl, h0⟩ | ⟨g, cap, cur, rfl, h2, h3⟩
    · omega
    · exact ⟨g, cap, h2, rfl⟩
  have hg1 := (o1.lt g rfl).2
  clear hc
  go_wp2_with fail
  refine (openDisk_any (some ⟨g, 0, none⟩) ss.length d q2 c2 ps ss.length y1 (T2.out.below b1) n2 m2 (by omega) H5.out).mono ?_
  rintro e y2 ⟨M, D, rfl, hM, oM, hD, b2⟩
  obtain ⟨Y3, hY3⟩ : ∃ Y3, Y3 = y2.alloc (.cells #[.slice (some ⟨g, 0, none⟩) ss.length d, .map (some M)] 75) := ⟨_, rfl⟩
  have HY3 : Hid (Y3 = y2.alloc (.cells #[.slice (some ⟨g, 0, none⟩) ss.length d, .map (some M)] 75)) := hY3
  have s3 : Y3.heap.size = y2.heap.size + 1 := by rw [hY3]; simp
  have b3 : Below y2.heap.size y2 Y3 := by rw [hY3]; exact (Below.refl _ _).alloc (Nat.le_refl _) _
  have K3 : Bxs Y3 y2.heap.size 75 #[.slice (some ⟨g, 0, none⟩) ss.length d, .map (some M)] := by rw [hY3]; exact Bxs.new _ _ _
  have o3 := ownS_below (ownS_below o1 b2) b3
  have oM3 : Y3.ownsMap Try.prog 2 pndElem M ps.length D := by rw [hY3]; exact oM.alloc _
  have b13 := chainB (chainB b1 b2) b3
  have hM2 := oM.lt
  have z2 := b2.size
  have z1 := b1.size
  have hf := flush_any W1 W1.heap.size g d M ps.length D ss ps Y3 o3 oM3 hD b13 (by omega) (by omega) b13.size n1 H5.out
  have k0 := K3.cell 0
  have k1 := K3.cell 1
  rw [hY3] at k0 k1
  have HK1 : Hid (Bxs W1 w.heap.size 25 #[.slice none 0 0, .slice none 0 0]) := K1
  have HK3 : Hid (Bxs Y3 y2.heap.size 75 #[.slice (some ⟨g, 0, none⟩) ss.length d, .map (some M)]) := K3
  have HLT : Hid (g < y2.heap.size ∧ M < y2.heap.size ∧ y2.heap.size < Y3.heap.size) := ⟨by omega, by omega, by omega⟩
  clear hY3 b3 K3 K1 o3 oM3 oM b13 b2 hD o1 b1 s3 z1 z2 hM hM2 hg hg1
  go_wp2_with fail
  rw [← HY3.out] at k0 k1 ⊢
  refine hf.mono ?_
  rintro e y4 ⟨rfl, o4, b4, f4⟩
  obtain ⟨g1, g2, g3⟩ := HLT.out
  have s1 := HS1.out
  have R4 : Bxs y4 y2.heap.size 75 #[.slice (some ⟨g, 0, none⟩) ss.length d, .map (some M)] := (f4 y2.heap.size g3 (by omega) (by omega)).trans HK3.out
  have Q4 : Bxs y4 w.heap.size 25 #[.slice none 0 0, .slice none 0 0] := (b4.block w.heap.size (by omega)).trans HK1.out
  have i0 := R4.cell 0
  have r0 := Q4.cell 0
  have r1 := Q4.cell 1
  have u0 := Q4.fr 0
  have u1 := Q4.fr 1
  have HE : Hid (∀ x0 x1 : Value, DskO w.heap.size (flushB ss ps) [] (.slice (some ⟨g, 0, none⟩) ss.length d) (.slice none 0 0) ((y4.setCell ⟨w.heap.size, 0, none⟩ x0).setCell ⟨w.heap.size, 1, none⟩ x1) ∧ Below w.heap.size w ((y4.setCell ⟨w.heap.size, 0, none⟩ x0).setCell ⟨w.heap.size, 1, none⟩ x1)) := fun x0 x1 => by
    have h0 : DskO W1.heap.size (flushB ss ps) [] (.slice (some ⟨g, 0, none⟩) ss.length d) (.slice none 0 0) y4 := ⟨by rw [flushB_len]; exact o4, World.ownsRow_nil _ _ _ _, .inr (fun h => by cases h)⟩
    exact ⟨(h0.set2 (by omega) x0 x1).mono (by omega), below_set2 (chainB HB1.out b4) (Nat.le_refl _) _ _⟩
  clear hf o4 b4 f4 R4 Q4 g1 g2 g3 k0 k1 s1
  go_wp2_with fail
  refine bodyPost_ret (v := .agg #[.slice (some ⟨g, 0, none⟩) ss.length d, .slice none 0 0]) (by simp [results, Try.results47, go_sem, r0, r1]) rfl ?_
  exact ⟨_, rfl, HE.out _ _⟩
end Go.Proofs.Ytcbclmhkejknoaa
