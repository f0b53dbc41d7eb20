/-
  Parts of one proof, laid as one text: ImplDG, ImplFlush, ImplSt; what each says stands at its head.
-/
import Derived.Test.YtkhffoailfnepabGreatDoorRows
import Derived.Test.YtkhffoailfnepabGreatDoorBytesDigMath
import Derived.Test.YtkhffoailfnepabGreatDoorJoinedPutTextCrc
import Derived.Test.YtkhffoailfnepabGreatDoorSlASlBOwnSOwnBSrc
import Derived.Test.YtkhffoailfnepabGreatDoorPuLeImplDRImplAACopied
import Derived.Test.YtkhffoailfnepabGreatDoorDrawsDrawKitDskMath
import Derived.Test.YtkhffoailfnepabGreatDoorDskSDskCDskT
import Derived.Test.YtkhffoailfnepabGreatDoorDskFDskK
import Derived.Test.YtkhffoailfnepabGreatDoorLawDLwDskLwArLawIPutMathPutNum
import Derived.Test.YtkhffoailfnepabGreatDoorDskMapImplDOImplDF
import Derived.Handy
import Derived.WalkSpells
import Derived.OwnWalk
import Derived.Laws.OwnMore
import Derived.Maps.RangeWalk
import Derived.Deep.RegionWith
import Derived.Test.YtkhffoailfnepabGreatDoorFourSealAreaAAreaF
import Derived.Test.YtkhffoailfnepabGreatDoorDskRAppSStepAppDskA
import Derived.Test.YtkhffoailfnepabGreatDoorDskW
import Derived.Deep.RegionLaw
import Derived.Deep.RegionHeld3
/-
  What the program's flush does to the sectors of a disk at work, and what flushed answers: 'flushB', whatever the order in which the map is gone through.
  Conditions: the disk is right: at most 64 sectors, nothing greater than 64 bytes, each place one of the disk's.
-/
namespace Go.Proofs.YtkhffoailfnepabGreatDoor
open Go.RowKit Go.Lib Go.Maps
set_option linter.unusedVariables false
set_option maxRecDepth 20000

/-- A flush under way: the map in block M is gone through by the iterator at r, the sectors lie in the row at b; nothing else of W1 turns. -/
structure FlW (w0 : World) (B0 : Nat) (W1 : World) (b d M r n : Nat) (ss : List ByteArray) (ps : List Pnd) (D : DataW Pnd) (left : Lit → Bool) (cnt : Nat) (L : List ByteArray) (w : World) : Prop where
  rg : w.ranges Tryz.prog 2 pndElem M r n D left cnt
  fl : FlR ss ps D left L
  own : w.ownsRow B0 9 1 (.slice (some ⟨b, 0, none⟩) ss.length d) ss.length (strRow L)
  bel : Below B0 w0 w
  fr : ∀ X, X < W1.heap.size → X ≠ b → X ≠ M → w.heap[X]? = W1.heap[X]?
  hb : B0 ≤ b ∧ b < W1.heap.size
  hM : B0 ≤ M ∧ M < W1.heap.size
  ne : b ≠ M
  hB : B0 ≤ W1.heap.size
  hr : r = W1.heap.size
variable {w0 W1 w w' : World} {B0 b d M r n cnt cnt' : Nat} {ss L : List ByteArray} {ps : List Pnd} {D D' : DataW Pnd} {left left' : Lit → Bool}
theorem FlW.size (h : FlW w0 B0 W1 b d M r n ss ps D left cnt L w) : r < w.heap.size := h.rg.lt
/-- The iterator has gone on. -/
theorem FlW.next (h : FlW w0 B0 W1 b d M r n ss ps D left cnt L w) (hg : w.grownBy w' (some r)) : w'.ownsRow B0 9 1 (.slice (some ⟨b, 0, none⟩) ss.length d) ss.length (strRow L) ∧ Below B0 w0 w' ∧ ∀ X, X < W1.heap.size → X ≠ b → X ≠ M → w'.heap[X]? = W1.heap[X]? := by
  have h1 := h.hb
  have h3 := h.size
  have h4 := h.hr
  have h5 := h.hB
  refine ⟨h.own.kept hg (.inr (fun e => by simp [Value.ownBlock] at e; omega)), h.bel.grown hg (by omega) (fun j hj => by cases hj; omega), fun X hX n1 n2 => ?_⟩
  rw [hg.block X (by omega) (by simp; omega)]
  exact h.fr X hX n1 n2
theorem grown_set (w : World) (b A : Nat) (v : Value) : w.grownBy (w.setCell ⟨b, A, none⟩ v) (some b) := by
  refine ⟨rfl, rfl, rfl, by simp [World.setCell], fun q hq hne => ?_⟩
  have hq' : b ≠ q := fun e => hne (by rw [e])
  simp [World.setCell, Array.getElem?_modify, hq']
/-- What is left to do of a round: the sectors' row is written, the entry is struck. -/
theorem FlW.put (h : FlW w0 B0 W1 b d M r n ss ps D left cnt L w) {A : Nat} {p1 : Int} {p2 : ByteArray} {w1 w2 w3 : World} {c2 : Nat} (hA : A < ss.length) (hl : left (.int .i64 (A : Int)) = true) (hp : ∀ zd, D.atKey (.int .i64 (A : Int)) zd = .held (p1, p2))
    (hg : w.grownBy w1 (some r)) (h12 : Below w1.heap.size w1 w2)
    (hr3 : w3.ranges Tryz.prog 2 pndElem M r n (D.del (.int .i64 (A : Int))) (fun z => (left z && !z.sameKey (.int .i64 (A : Int))) && !z.sameKey (.int .i64 (A : Int))) c2) (ht : (w2.setCell ⟨b, A, none⟩ (.string p2)).mapTurned w3 M) :
    FlW w0 B0 W1 b d M r n ss ps (D.del (.int .i64 (A : Int))) (fun z => left z && !z.sameKey (.int .i64 (A : Int))) c2 (L.set A p2) w3 := by
  obtain ⟨o1, b1, f1⟩ := h.next hg
  have hb := h.hb
  have hM := h.hM
  have hs := h.size
  have hr := h.hr
  have hB := h.hB
  have hs1 := hg.size
  have hs2 := h12.size
  rw [strike_twice] at hr3
  have gt := ht.grown
  have o2 := ownS_below o1 h12
  have o3 := (o2.stored A (.string p2)).1
  have e : (strRow L).set A (.string p2) = strRow (L.set A p2) := by simp [strRow, List.map_set]
  rw [e] at o3
  have hsz : (w2.setCell ⟨b, A, none⟩ (.string p2)).heap.size = w2.heap.size := by simp [World.setCell]
  refine ⟨hr3, h.fl.step hA hl hp, o3.kept gt (.inr (fun e => by simp [Value.ownBlock] at e; exact h.ne e)), ?_, fun X hX n1 n2 => ?_, hb, hM, h.ne, hB, hr⟩
  · exact ((b1.trans (h12.mono (by omega))).setCell (by exact hb.1) _).grown gt (by rw [hsz]; omega) (fun j hj => by cases hj; exact hM.1)
  · rw [gt.block X (by rw [hsz]; omega) (by simp; exact n2), show (w2.setCell ⟨b, A, none⟩ (.string p2)).heap[X]? = w2.heap[X]? by simp [World.setCell, Array.getElem?_modify, Ne.symm n1], h12.block X (by omega)]
    exact f1 X hX n1 n2

set_option maxHeartbeats 4000000 in
theorem flush_any (w0 : World) (B0 b d M n : Nat) (D : DataW Pnd) (ss : List ByteArray) (ps : List Pnd) (w : World) (own : w.ownsRow B0 9 1 (.slice (some ⟨b, 0, none⟩) ss.length d) ss.length (strRow ss)) (hO : w.ownsMap Tryz.prog 2 pndElem M n D) (hD : MapOf D ps) (hb : Below B0 w0 w) (hBM : B0 ≤ M) (hne : b ≠ M) (hB0 : B0 ≤ w.heap.size) (n1 : ss.length ≤ 64) (h5 : ∀ p ∈ ps, pndOk ss.length p) :
    Calls Tryz.prog 73 #[.agg #[.slice (some ⟨b, 0, none⟩) ss.length d, .map (some M)]] w fun e w' => e = .returned (.tuple #[]) ∧ w'.ownsRow B0 9 1 (.slice (some ⟨b, 0, none⟩) ss.length d) ss.length (strRow (flushB ss ps)) ∧ Below B0 w0 w' ∧ ∀ X, X < w.heap.size → X ≠ b → X ≠ M → w'.heap[X]? = w.heap[X]? := by
  have hM := hO.lt
  have hbb := own.lt b rfl
  obtain ⟨W1, hW1⟩ : ∃ W1, W1 = w.alloc (.cells #[.slice (some ⟨b, 0, none⟩) ss.length d, .map (some M)] 87) := ⟨_, rfl⟩
  have HW1 : Hid (W1 = w.alloc (.cells #[.slice (some ⟨b, 0, none⟩) ss.length d, .map (some M)] 87)) := hW1
  have s1 : W1.heap.size = w.heap.size + 1 := by rw [hW1]; simp
  have b1 : Below w.heap.size w W1 := by rw [hW1]; exact (Below.refl _ _).alloc (Nat.le_refl _) _
  have K1 : Bxs W1 w.heap.size 87 #[.slice (some ⟨b, 0, none⟩) ss.length d, .map (some M)] := by rw [hW1]; exact Bxs.new _ _ _
  have O1 : W1.ownsMap Tryz.prog 2 pndElem M n D := by rw [hW1]; exact hO.alloc _
  have c1 := K1.cell 1
  have HF0 : Hid (∀ x, x.ranges Tryz.prog 2 pndElem M (w.heap.size + 1) n D (has D) (Maps.size D) → W1.grownBy x none → FlW w0 B0 W1 b d M (w.heap.size + 1) n ss ps D (has D) (Maps.size D) ss x) := fun x hr hg =>
    ⟨hr, FlR.start hD, (ownS_below own b1).kept hg (.inr (by simp [Value.ownBlock])), (hb.trans (b1.mono hB0)).grown hg (by omega) (fun j hj => by cases hj), fun X hX _ _ => hg.block X hX (by simp), ⟨hbb.1, by omega⟩, ⟨hBM, by omega⟩, hne, by omega, s1.symm⟩
  have H5 : Hid (∀ p ∈ ps, pndOk ss.length p) := h5
  have HIn : Hid (∀ left L D, FlR ss ps D left L → ∀ x, left (.int .i64 x) = true → ∃ A : Nat, A < ss.length ∧ x = (A : Int)) := fun left L D hf x hx => by
    obtain ⟨p, hp, -⟩ := hf.to_ x hx
    obtain ⟨hm, rfl⟩ := lastP_at hp
    obtain ⟨⟨q1, q2⟩, -⟩ := h5 p hm
    exact ⟨p.1.toNat, by omega, by omega⟩
  have HEnd : Hid (∀ (D : DataW Pnd) (left : Lit → Bool) (cnt : Nat) (L : List ByteArray) (x : World), FlW w0 B0 W1 b d M (w.heap.size + 1) n ss ps D left cnt L x → (∀ kl, left kl = false) → x.ownsRow B0 9 1 (.slice (some ⟨b, 0, none⟩) ss.length d) ss.length (strRow (flushB ss ps)) ∧ Below B0 w0 x ∧ ∀ X, X < w.heap.size → X ≠ b → X ≠ M → x.heap[X]? = w.heap[X]?) := fun D left cnt L x h h0 => by
    have e := h.fl.done h0 h5
    subst e
    exact ⟨h.own, h.bel, fun X hX n1 n2 => (h.fr X (by omega) n1 n2).trans (b1.block X hX)⟩
  rw [HW1.out] at c1 O1 HF0
  have HK1 : Hid (Bxs W1 w.heap.size 87 #[.slice (some ⟨b, 0, none⟩) ss.length d, .map (some M)]) := K1
  clear hW1 own hO hD hb b1 h5 K1
  go_enter Tryz.func73, Tryz.ntmps73
  go_wp2_with (at_range; refine wpList_range_own _ rfl _ 85 rfl 2 76 keyedI Tryz.underlying85 pndElem M n D rfl O1 ?_; intro y0 hrg0 hg0 hs0)
  go_frame
  rw [show (w.alloc (.cells #[.slice (some ⟨b, 0, none⟩) ss.length d, .map (some M)] 87)).heap.size = w.heap.size + 1 by simp] at hrg0 ⊢
  have HF : Hid (FlW w0 B0 W1 b d M (w.heap.size + 1) n ss ps D (has D) (Maps.size D) ss y0) := by rw [HW1.out]; exact HF0.out y0 hrg0 hg0
  clear hrg0 hg0 hs0 HF0 O1 c1
  go_loopw [7] (fun _ wr => ∃ (left : Lit → Bool) (cnt : Nat) (D : DataW Pnd) (L : List ByteArray), Hid (FlW w0 B0 W1 b d M (w.heap.size + 1) n ss ps D left cnt L wr)) (fun _ wr => wr.rangeLeft M (w.heap.size + 1))
  case atStart => exact ⟨_, _, _, _, HF⟩
  case round =>
    clear HF
    obtain ⟨left, cnt, D, L, HF⟩ := hrel
    have hin := HIn.out left L D HF.out.fl
    have hrg := HF.out.rg
    go_wp2_with (at_next; refine wpList_next_pnd _ rfl _ rfl 2 keyedI Tryz.underlying2 M (w.heap.size + 1) n _ _ _ rfl hrg ss.length hin ?_ ?_)
    · intro hl0
      have HE := HEnd.out _ _ _ _ _ HF.out hl0
      clear HF hrg hin HEnd HIn
      go_wp2_with fail
      go_end0
      exact ⟨rfl, HE⟩
    · intro A x Dt w1 cnt1 hA hlx hat hrg1 hlt hg1 hs1 hen
      have hml := HF.out.rg.left_eq
      obtain ⟨p, hp, hpa⟩ := HF.out.fl.to_ _ hlx
      have hsz : Dt.size ≤ 64 := by
        have := (hpa .nil).symm.trans (hat .nil)
        cases this
        exact (H5.out _ (lastP_at hp).1).2
      obtain ⟨o1, b1, f1⟩ := HF.out.next hg1
      have hlen : L.length = ss.length := HF.out.fl.len
      have hsz1 := HF.out.size
      have hw : (Lit.int .i64 (A : Int)).wf = true := WalkArith.wf_i64 (by omega)
      have hA1 : (A : Int) < ss.length := by omega
      have hX1 : w1.heap[w.heap.size]? = some (.cells #[.slice (some ⟨b, 0, none⟩) ss.length d, .map (some M)] 87 (0, 0)) := (f1 w.heap.size (by omega) (by omega) (by omega)).trans HK1.out
      have HX : Hid (∀ y, Below w1.heap.size w1 y → y.cell? ⟨w.heap.size, 0, none⟩ = some (.slice (some ⟨b, 0, none⟩) ss.length d) ∧ (∃ t, y.cell? ⟨b, A, none⟩ = some (.string t)) ∧ y.frozen? ⟨b, A, none⟩ = false) := fun y hy => by
        have h0 := (hy.block w.heap.size (by omega)).trans hX1
        have ho := ownS_below o1 hy
        refine ⟨by simp [World.cell?, h0], ⟨L[A]'(by omega), ?_⟩, ho.frozenAt A⟩
        rw [ho.cellAt A (by omega)]
        simp [strRow, show A < L.length by omega]
      have HR : Hid (∀ y v, Below w1.heap.size w1 y → (y.setCell ⟨b, A, none⟩ v).ranges Tryz.prog 2 pndElem M (w.heap.size + 1) n D (fun z => left z && !z.sameKey (.int .i64 (A : Int))) cnt1 ∧ (y.setCell ⟨b, A, none⟩ v).cell? ⟨w.heap.size, 1, none⟩ = some (.map (some M))) := fun y v hy => by
        refine ⟨(hrg1.kept (grown_below hy) (by simp) (by simp)).kept (grown_set y b A v) (by simp; exact fun e => hne e.symm) (by simp; omega), ?_⟩
        have h0 : (y.setCell ⟨b, A, none⟩ v).heap[w.heap.size]? = _ := ((grown_set y b A v).block w.heap.size (by have := hy.size; omega) (by simp; omega)).trans ((hy.block w.heap.size (by omega)).trans hX1)
        simp [World.cell?, h0]
      have HPut : Hid (∀ y w3 c2, Below w1.heap.size w1 y → w3.ranges Tryz.prog 2 pndElem M (w.heap.size + 1) n (D.del (.int .i64 (A : Int))) (fun z => (left z && !z.sameKey (.int .i64 (A : Int))) && !z.sameKey (.int .i64 (A : Int))) c2 → (y.setCell ⟨b, A, none⟩ (.string Dt)).mapTurned w3 M → FlW w0 B0 W1 b d M (w.heap.size + 1) n ss ps (D.del (.int .i64 (A : Int))) (fun z => left z && !z.sameKey (.int .i64 (A : Int))) c2 (L.set A Dt) w3) := fun y w3 c2 hy hr ht => HF.out.put hA hlx hat hg1 hy hr ht
      obtain ⟨Y, hY⟩ : ∃ Y, Y = w1.alloc (.cells #[.int .i64 x, .string Dt] 76) := ⟨_, rfl⟩
      have HY : Hid (Y = w1.alloc (.cells #[.int .i64 x, .string Dt] 76)) := hY
      have bY : Below w1.heap.size w1 Y := by rw [hY]; exact (Below.refl _ _).alloc (Nat.le_refl _) _
      have KY : Bxs Y w1.heap.size 76 #[.int .i64 x, .string Dt] := by rw [hY]; exact Bxs.new _ _ _
      have HBY : Hid (Below w1.heap.size w1 Y) := bY
      have HJ : Hid (∀ y, Below w1.heap.size w1 y → Calls Tryz.prog 58 #[.slice (some ⟨y.heap.size, 0, none⟩) 1 1] (y.alloc (.cells #[.string Dt] 9)) fun e w' => e = .returned (.string Dt) ∧ Below w1.heap.size w1 w') := fun y hy => (joined_one Dt y (by omega)).mono (by
        rintro e w' ⟨rfl, h⟩
        exact ⟨rfl, chainB hy h⟩)
      have HJ2 : Hid (∀ y, Below w1.heap.size w1 y → Calls Tryz.prog 58 #[.slice (some ⟨y.heap.size, 0, none⟩) 1 1] (y.alloc (.cells #[.string Dt] 9)).drew fun e w' => e = .returned (.string Dt) ∧ Below w1.heap.size w1 w') := fun y hy => HJ.out y.drew hy.drew
      obtain ⟨k0, ⟨t0, k1⟩, k2⟩ := HX.out Y bY
      have k3 := KY.cell 1
      have k4 := (KY.below ((Below.refl _ _).alloc (Nat.le_refl _) (.cells #[.string Dt] 9))).cell 1
      obtain ⟨l0, ⟨t2, l1⟩, l2⟩ := HX.out _ (bY.alloc bY.size (.cells #[.string Dt] 9))
      rw [hY] at k0 k1 k2 k3
      clear hs1 hlen hY bY KY hrg hrg1 HF hg1 o1 b1 f1 hX1 hp hpa hin hlx hat
      go_wp2_with fail
      rw [← HY.out] at k0 k1 k2 k3 ⊢
      go_region_with (first
        | (go_at_call 58; first | refine (HJ.out _ (by first | exact HBY.out | exact HBY.out.drew)).mono ?_ | refine (HJ2.out _ (by first | exact HBY.out | exact HBY.out.drew)).mono ?_; rintro e y2 ⟨rfl, z2⟩; obtain ⟨j0, ⟨t1, j1⟩, j2⟩ := HX.out y2 z2))
      all_goals
        have HZ : Hid (Below w1.heap.size w1 y2) := z2
        obtain ⟨hr2, m1⟩ := HR.out y2 (.string Dt) z2
        go_wp2_with (at_delete; refine wpList_delete_ranges _ rfl _ _ 85 2 rfl 76 keyedI Tryz.underlying85 pndElem M (w.heap.size + 1) n _ _ _ rfl hr2 _ _ rfl (keyOf_int_mk Tryz.underlying2 hw) ?_; intro w3 c3 hr3 hle ht; go_frame)
        have hP := HPut.out _ _ _ z2 hr3 ht
        have hm := hP.rg.left_eq
        have HP3 : Hid (FlW w0 B0 W1 b d M (w.heap.size + 1) n ss ps (D.del (.int .i64 (A : Int))) (fun z => left z && !z.sameKey (.int .i64 (A : Int))) c3 (L.set A Dt) w3) := hP
        clear hP hr3 ht hr2
        go_roundw
        case rel => exact ⟨_, _, _, _, HP3⟩
        case measure => rw [hm, hml]; omega

set_option maxHeartbeats 4000000 in
theorem flushed_any (q1 : Option Addr) (c1 : Nat) (ss : List ByteArray) (q2 : Option Addr) (c2 : Nat) (ps : List Pnd) (w : World) (h1 : TxtAt w q1 ss) (h2 : PndAt w q2 ps) (n0 : 1 ≤ ss.length) (n1 : ss.length ≤ 64) (n2 : ps.length ≤ 1048576) (m1 : ss.length ≤ c1) (m2 : ps.length ≤ c2) (h4 : ∀ x ∈ ss, x.size ≤ 64) (h5 : ∀ p ∈ ps, pndOk ss.length p) :
    Calls Tryz.prog 47 #[.slice q1 ss.length c1, .slice q2 ps.length c2] w fun e w' => ∃ v1, e = .returned (.agg #[v1, .slice none 0 0]) ∧ DskO w.heap.size (flushB ss ps) [] v1 (.slice none 0 0) w' ∧ Below w.heap.size w w' := by
  obtain ⟨W1, hW1⟩ : ∃ W1, W1 = w.alloc (.cells #[.slice none 0 0, .slice none 0 0] 26) := ⟨_, rfl⟩
  have HW1 : Hid (W1 = w.alloc (.cells #[.slice none 0 0, .slice none 0 0] 26)) := hW1
  have s1 : W1.heap.size = w.heap.size + 1 := by rw [hW1]; simp
  have B1 : Below w.heap.size w W1 := by rw [hW1]; exact (Below.refl _ _).alloc (Nat.le_refl _) _
  have K1 : Bxs W1 w.heap.size 26 #[.slice none 0 0, .slice none 0 0] := by rw [hW1]; exact Bxs.new _ _ _
  have hc := copied_any q1 c1 ss W1 (h1.below B1) (by omega) m1 (fun x hx => by have := h4 x hx; omega)
  have H5 : Hid (∀ p ∈ ps, pndOk ss.length p) := h5
  have T2 : Hid (PndAt W1 q2 ps) := h2.below B1
  have HB1 : Hid (Below w.heap.size w W1) := B1
  have HS1 : Hid (W1.heap.size = w.heap.size + 1) := s1
  clear hW1 h1 h2 h4 h5 B1 s1
  go_enter Tryz.func47, Tryz.ntmps47
  go_wp2_with fail
  rw [← HW1.out]
  refine hc.mono ?_
  rintro e y1 ⟨v1, rfl, o1, b1⟩
  obtain ⟨g, d, hg, rfl⟩ : ∃ g d, W1.heap.size ≤ g ∧ v1 = .slice (some ⟨g, 0, none⟩) ss.length d := by
    rcases o1.2 with ⟨rfl, h0⟩ | ⟨g, cap, cur, rfl, h2, h3⟩
    · omega
    · exact ⟨g, cap, h2, rfl⟩
  have hg1 := (o1.lt g rfl).2
  clear hc
  go_wp2_with fail
  refine (openDisk_any (some ⟨g, 0, none⟩) ss.length d q2 c2 ps ss.length y1 (T2.out.below b1) n2 m2 (by omega) H5.out).mono ?_
  rintro e y2 ⟨M, D, rfl, hM, oM, hD, b2⟩
  obtain ⟨Y3, hY3⟩ : ∃ Y3, Y3 = y2.alloc (.cells #[.slice (some ⟨g, 0, none⟩) ss.length d, .map (some M)] 87) := ⟨_, rfl⟩
  have HY3 : Hid (Y3 = y2.alloc (.cells #[.slice (some ⟨g, 0, none⟩) ss.length d, .map (some M)] 87)) := hY3
  have s3 : Y3.heap.size = y2.heap.size + 1 := by rw [hY3]; simp
  have b3 : Below y2.heap.size y2 Y3 := by rw [hY3]; exact (Below.refl _ _).alloc (Nat.le_refl _) _
  have K3 : Bxs Y3 y2.heap.size 87 #[.slice (some ⟨g, 0, none⟩) ss.length d, .map (some M)] := by rw [hY3]; exact Bxs.new _ _ _
  have o3 := ownS_below (ownS_below o1 b2) b3
  have oM3 : Y3.ownsMap Tryz.prog 2 pndElem M ps.length D := by rw [hY3]; exact oM.alloc _
  have b13 := chainB (chainB b1 b2) b3
  have hM2 := oM.lt
  have z2 := b2.size
  have z1 := b1.size
  have hf := flush_any W1 W1.heap.size g d M ps.length D ss ps Y3 o3 oM3 hD b13 (by omega) (by omega) b13.size n1 H5.out
  have k0 := K3.cell 0
  have k1 := K3.cell 1
  rw [hY3] at k0 k1
  have HK1 : Hid (Bxs W1 w.heap.size 26 #[.slice none 0 0, .slice none 0 0]) := K1
  have HK3 : Hid (Bxs Y3 y2.heap.size 87 #[.slice (some ⟨g, 0, none⟩) ss.length d, .map (some M)]) := K3
  have HLT : Hid (g < y2.heap.size ∧ M < y2.heap.size ∧ y2.heap.size < Y3.heap.size) := ⟨by omega, by omega, by omega⟩
  clear hY3 b3 K3 K1 o3 oM3 oM b13 b2 hD o1 b1 s3 z1 z2 hM hM2 hg hg1
  go_wp2_with fail
  rw [← HY3.out] at k0 k1 ⊢
  refine hf.mono ?_
  rintro e y4 ⟨rfl, o4, b4, f4⟩
  obtain ⟨g1, g2, g3⟩ := HLT.out
  have s1 := HS1.out
  have R4 : Bxs y4 y2.heap.size 87 #[.slice (some ⟨g, 0, none⟩) ss.length d, .map (some M)] := (f4 y2.heap.size g3 (by omega) (by omega)).trans HK3.out
  have Q4 : Bxs y4 w.heap.size 26 #[.slice none 0 0, .slice none 0 0] := (b4.block w.heap.size (by omega)).trans HK1.out
  have i0 := R4.cell 0
  have r0 := Q4.cell 0
  have r1 := Q4.cell 1
  have u0 := Q4.fr 0
  have u1 := Q4.fr 1
  have HE : Hid (∀ x0 x1 : Value, DskO w.heap.size (flushB ss ps) [] (.slice (some ⟨g, 0, none⟩) ss.length d) (.slice none 0 0) ((y4.setCell ⟨w.heap.size, 0, none⟩ x0).setCell ⟨w.heap.size, 1, none⟩ x1) ∧ Below w.heap.size w ((y4.setCell ⟨w.heap.size, 0, none⟩ x0).setCell ⟨w.heap.size, 1, none⟩ x1)) := fun x0 x1 => by
    have h0 : DskO W1.heap.size (flushB ss ps) [] (.slice (some ⟨g, 0, none⟩) ss.length d) (.slice none 0 0) y4 := ⟨by rw [flushB_len]; exact o4, World.ownsRow_nil _ _ _ _, .inr (fun h => by cases h)⟩
    exact ⟨(h0.set2 (by omega) x0 x1).mono (by omega), below_set2 (chainB HB1.out b4) (Nat.le_refl _) _ _⟩
  clear hf o4 b4 f4 R4 Q4 g1 g2 g3 k0 k1 s1
  go_wp2_with fail
  refine bodyPost_ret (v := .agg #[.slice (some ⟨g, 0, none⟩) ss.length d, .slice none 0 0]) (by simp [results, Tryz.results47, go_sem, r0, r1]) rfl ?_
  exact ⟨_, rfl, HE.out _ _⟩
end Go.Proofs.YtkhffoailfnepabGreatDoor
/-
  What the program's DiskFlush answers: as the specification's.
  Conditions: the cells of Sectors and Pending hold the texts and the pendings.
-/
namespace Go.Proofs.YtkhffoailfnepabGreatDoor
open Go.RowKit Go.Lib
set_option linter.unusedVariables false
set_option maxRecDepth 20000

set_option maxHeartbeats 4000000 in
theorem implDiskFlush_any (q1 : Option Addr) (c1 : Nat) (ss : List ByteArray) (q2 : Option Addr) (c2 : Nat) (ps : List Pnd) (w : World) (h1 : TxtAt w q1 ss) (h2 : PndAt w q2 ps) (n1 : ss.length ≤ 1048576) (n2 : ps.length ≤ 1048576) (m1 : ss.length ≤ c1) (m2 : ps.length ≤ c2) :
    Calls Tryz.prog 79 #[.agg #[.slice q1 ss.length c1, .slice q2 ps.length c2]] w fun e w' => ∃ v1, e = .returned (.agg #[v1, .slice none 0 0, .string ByteArray.empty, .int .i64 (flC ss ps)]) ∧ DskO w.heap.size (flS ss ps) [] v1 (.slice none 0 0) w' ∧ Below w.heap.size w w' := by
  obtain ⟨W2, hW2⟩ : ∃ W2, W2 = (w.alloc (.cells #[.slice q1 ss.length c1, .slice q2 ps.length c2] 26)).alloc (.cells #[.slice none 0 0, .slice none 0 0, .string ⟨#[]⟩, .int .i64 0] 66) := ⟨_, rfl⟩
  have HW2 : Hid (W2 = (w.alloc (.cells #[.slice q1 ss.length c1, .slice q2 ps.length c2] 26)).alloc (.cells #[.slice none 0 0, .slice none 0 0, .string ⟨#[]⟩, .int .i64 0] 66)) := hW2
  have hs1 : (w.alloc (.cells #[.slice q1 ss.length c1, .slice q2 ps.length c2] 26)).heap.size = w.heap.size + 1 := by simp
  have S2 : W2.heap.size = w.heap.size + 2 := by rw [hW2]; simp
  have R0 : W2.heap[w.heap.size]? = some (.cells #[.slice q1 ss.length c1, .slice q2 ps.length c2] 26 (0, 0)) := by rw [hW2]; exact (Below.heap_alloc _ _ _ (by rw [hs1]; omega)).trans (MapKept.heap_alloc w _).1
  have R1 : W2.heap[w.heap.size + 1]? = some (.cells #[.slice none 0 0, .slice none 0 0, .string ByteArray.empty, .int .i64 0] 66 (0, 0)) := by rw [hW2, ← hs1]; exact (MapKept.heap_alloc _ _).1
  have B2 : Hid (Below w.heap.size w W2) := by rw [hW2]; exact ((Below.refl _ _).alloc (Nat.le_refl _) _).alloc (by rw [hs1]; omega) _
  have T1 : Hid (TxtAt W2 q1 ss) := h1.below B2.out
  have T2 : Hid (PndAt W2 q2 ps) := h2.below B2.out
  have HX : Hid (∀ x, Below W2.heap.size W2 x → x.cell? ⟨w.heap.size, 0, none⟩ = some (.slice q1 ss.length c1) ∧ x.cell? ⟨w.heap.size, 1, none⟩ = some (.slice q2 ps.length c2)) := fun x hb => by
    have h0 := (hb.block w.heap.size (by omega)).trans R0
    simp [World.cell?, h0]
  have HR : Hid (∀ x, Below W2.heap.size W2 x → x.cell? ⟨w.heap.size + 1, 0, none⟩ = some (.slice none 0 0) ∧ x.cell? ⟨w.heap.size + 1, 1, none⟩ = some (.slice none 0 0) ∧ x.cell? ⟨w.heap.size + 1, 2, none⟩ = some (.string ByteArray.empty) ∧ x.cell? ⟨w.heap.size + 1, 3, none⟩ = some (.int .i64 0) ∧ x.frozen? ⟨w.heap.size + 1, 0, none⟩ = false ∧ x.frozen? ⟨w.heap.size + 1, 1, none⟩ = false ∧ x.frozen? ⟨w.heap.size + 1, 2, none⟩ = false ∧ x.frozen? ⟨w.heap.size + 1, 3, none⟩ = false) := fun x hb => by
    have h1 := (hb.block (w.heap.size + 1) (by omega)).trans R1
    simp [World.cell?, World.frozen?, h1]
  have hD := implDiskRight_any q1 c1 ss q2 c2 ps W2 T1.out T2.out n1 n2 m1 m2
  obtain ⟨t0, t1⟩ := HX.out W2 (Below.refl _ _)
  have HSz : Hid (W2.heap.size = w.heap.size + 2) := S2
  clear hW2 R0 R1 h1 h2 hs1 S2
  rw [HW2.out] at t0 t1
  cases hd : dskB ss ps with
  | false =>
    have hC : Hid (flC ss ps = 1 ∧ flS ss ps = []) := ⟨if_neg (by rw [hd]; exact Bool.false_ne_true), if_neg (by rw [hd]; exact Bool.false_ne_true)⟩
    rw [hd] at hD
    clear hd T1 T2
    go_enter Tryz.func79, Tryz.ntmps79
    go_wp2_with fail
    rw [← HW2.out]
    refine hD.mono ?_
    rintro e y1 ⟨rfl, b1⟩
    have HE : Hid (∀ x0 x1 x2 x3 : Value, Below w.heap.size w ((((y1.setCell ⟨w.heap.size + 1, 0, none⟩ x0).setCell ⟨w.heap.size + 1, 1, none⟩ x1).setCell ⟨w.heap.size + 1, 2, none⟩ x2).setCell ⟨w.heap.size + 1, 3, none⟩ x3)) := fun x0 x1 x2 x3 => below_set4 (chainB B2.out b1) (by omega) _ _ _ _
    obtain ⟨r0, r1, r2, r3, f0, f1, f2, f3⟩ := HR.out y1 b1
    clear b1 HR HX t0 t1
    go_wp2_with fail
    refine bodyPost_ret (v := .agg #[.slice none 0 0, .slice none 0 0, .string ByteArray.empty, .int .i64 1]) (by simp [results, Tryz.results79, go_sem, r0, r1, r2, r3]; rfl) rfl ?_
    rw [hC.out.1, hC.out.2]
    exact ⟨_, rfl, DskO.nil _ _, HE.out _ _ _ _⟩
  | true =>
  obtain ⟨⟨p1, p2⟩, p3, p4, p5⟩ := dskB_parts hd
  have HV : Hid (flC ss ps = 0 ∧ flS ss ps = flushB ss ps) := ⟨if_pos hd, if_pos hd⟩
  have H4 : Hid (∀ x ∈ ss, x.size ≤ 64) := p4
  have H5 : Hid (∀ p ∈ ps, pndOk ss.length p) := p5
  rw [hd] at hD
  clear hd p4 p5
  go_enter Tryz.func79, Tryz.ntmps79
  go_wp2_with fail
  rw [← HW2.out]
  refine hD.mono ?_
  rintro e y1 ⟨rfl, b1⟩
  obtain ⟨x0, x1⟩ := HX.out y1 b1
  clear t0 t1
  go_wp2_with fail
  refine (flushed_any q1 c1 ss q2 c2 ps y1 (T1.out.below b1) (T2.out.below b1) p1 p2 n2 m1 m2 H4.out H5.out).mono ?_
  rintro e y2 ⟨v1, rfl, ho, b2⟩
  have ho2 := ho.mono (show w.heap.size + 2 ≤ y1.heap.size by have := b1.size; have := HSz.out; omega)
  have b2 := chainB b1 b2
  obtain ⟨o1, d1, rfl, -, -⟩ := ownS_form ho2.own1
  have HE : Hid (∀ x0 x1 x2 x3 : Value, DskO w.heap.size (flushB ss ps) [] (.slice o1 (flushB ss ps).length d1) (.slice none 0 0) ((((y2.setCell ⟨w.heap.size + 1, 0, none⟩ x0).setCell ⟨w.heap.size + 1, 1, none⟩ x1).setCell ⟨w.heap.size + 1, 2, none⟩ x2).setCell ⟨w.heap.size + 1, 3, none⟩ x3) ∧ Below w.heap.size w ((((y2.setCell ⟨w.heap.size + 1, 0, none⟩ x0).setCell ⟨w.heap.size + 1, 1, none⟩ x1).setCell ⟨w.heap.size + 1, 2, none⟩ x2).setCell ⟨w.heap.size + 1, 3, none⟩ x3)) := fun x0 x1 x2 x3 => ⟨(ho2.set4 (by omega) x0 x1 x2 x3).mono (by omega), below_set4 (chainB B2.out b2) (by omega) _ _ _ _⟩
  obtain ⟨r0, r1, r2, r3, f0, f1, f2, f3⟩ := HR.out y2 b2
  clear b1 b2 HR HX ho ho2 x0 x1
  go_wp2_with fail
  refine bodyPost_ret (v := .agg #[.slice o1 (flushB ss ps).length d1, .slice none 0 0, .string ByteArray.empty, .int .i64 0]) (by simp [results, Tryz.results79, go_sem, r0, r1, r2, r3]; rfl) rfl ?_
  rw [HV.out.1, HV.out.2]
  exact ⟨_, rfl, HE.out _ _ _ _⟩
end Go.Proofs.YtkhffoailfnepabGreatDoor
/-
  What the program's steps of the disk answer: (areaHead).text, headSteps, (areaStep).doneTo, allDoneTo.
  Conditions: the cells hold the texts, the pendings and the steps.
-/
namespace Go.Proofs.YtkhffoailfnepabGreatDoor
open Go.RowKit Go.Lib
set_option linter.unusedVariables false
set_option maxRecDepth 20000

theorem cat_three (a b c : ByteArray) : cat [a, b, c] = a ++ b ++ c := by
  apply ByteArray.ext; apply Array.ext'
  simp [cat]
set_option maxHeartbeats 2000000 in
theorem headText_any (g s z : Int) (w : World) (g0 : -9223372036854775808 ≤ g) (g1 : g ≤ 9223372036854775807) (s0 : -9223372036854775808 ≤ s) (s1 : s ≤ 9223372036854775807) (z0 : -9223372036854775808 ≤ z) (z1 : z ≤ 9223372036854775807) :
    Calls Tryz.prog 65 #[.agg #[.int .i64 g, .int .i64 s, .int .i64 z]] w fun e w' => e = .returned (.string (headB g s z)) ∧ Below w.heap.size w w' := by
  obtain ⟨W1, hW1⟩ : ∃ W1, W1 = w.alloc (.cells #[.int .i64 g, .int .i64 s, .int .i64 z] 49) := ⟨_, rfl⟩
  have HW1 : Hid (W1 = w.alloc (.cells #[.int .i64 g, .int .i64 s, .int .i64 z] 49)) := hW1
  have B1 : Hid (Below w.heap.size w W1) := by rw [hW1]; exact (Below.refl _ _).alloc (Nat.le_refl _) _
  have K1 : Hid (Bxs W1 w.heap.size 49 #[.int .i64 g, .int .i64 s, .int .i64 z]) := by rw [hW1]; exact Bxs.new _ _ _
  have tg := putB_ten g
  have ts := putB_ten s
  have tz := putB_ten z
  have HX : Hid (∀ x, Below W1.heap.size W1 x → x.cell? ⟨w.heap.size, 0, none⟩ = some (.int .i64 g) ∧ x.cell? ⟨w.heap.size, 1, none⟩ = some (.int .i64 s) ∧ x.cell? ⟨w.heap.size, 2, none⟩ = some (.int .i64 z)) := fun x hb => ⟨(K1.out.below hb).cell 0, (K1.out.below hb).cell 1, (K1.out.below hb).cell 2⟩
  have QP : ∀ (n : Int), -9223372036854775808 ≤ n → n ≤ 9223372036854775807 → ∀ x, Below W1.heap.size W1 x → Calls Tryz.prog 82 #[.int .i64 n] x fun e x1 => e = .returned (.string (putB n)) ∧ Below W1.heap.size W1 x1 := fun n h0 h1 x hb => (implPutNum_any n x h0 h1).mono (by rintro e x1 ⟨rfl, b⟩; exact ⟨rfl, chainB hb b⟩)
  have QG : Hid (∀ x, Below W1.heap.size W1 x → Calls Tryz.prog 82 #[.int .i64 g] x fun e x1 => e = .returned (.string (putB g)) ∧ Below W1.heap.size W1 x1) := QP g g0 g1
  have QS : Hid (∀ x, Below W1.heap.size W1 x → Calls Tryz.prog 82 #[.int .i64 s] x fun e x1 => e = .returned (.string (putB s)) ∧ Below W1.heap.size W1 x1) := QP s s0 s1
  have QZ : Hid (∀ x, Below W1.heap.size W1 x → Calls Tryz.prog 82 #[.int .i64 z] x fun e x1 => e = .returned (.string (putB z)) ∧ Below W1.heap.size W1 x1) := QP z z0 z1
  have QJ : Hid (∀ x, Below W1.heap.size W1 x → Calls Tryz.prog 58 #[.slice (some ⟨x.heap.size, 0, none⟩) 3 3] (x.alloc (.cells #[.string (putB g), .string (putB s), .string (putB z)] 9)) fun e x1 => e = .returned (.string (putB g ++ putB s ++ putB z)) ∧ Below W1.heap.size W1 x1) := fun x hb => by
    have h := joined_new [putB g, putB s, putB z] x (by simp) (by rw [cat_three, ByteArray.size_append, ByteArray.size_append]; omega)
    rw [cat_three] at h
    refine h.mono ?_
    rintro e x1 ⟨rfl, b⟩
    exact ⟨rfl, chainB hb b⟩
  have QJ2 : Hid (∀ x, Below W1.heap.size W1 x → Calls Tryz.prog 58 #[.slice (some ⟨x.heap.size, 0, none⟩) 3 3] (x.alloc (.cells #[.string (putB g), .string (putB s), .string (putB z)] 9)).drew fun e x1 => e = .returned (.string (putB g ++ putB s ++ putB z)) ∧ Below W1.heap.size W1 x1) := fun x hb => QJ.out x.drew hb.drew
  have QE : Hid (∀ x, Below W1.heap.size W1 x → Calls Tryz.prog 81 #[.string (putB g ++ putB s ++ putB z)] x fun e x1 => e = .returned (.string (headB g s z)) ∧ Below W1.heap.size W1 x1) := fun x hb => (implSeal_any (putB g ++ putB s ++ putB z) x (by unfold maxLen; rw [ByteArray.size_append, ByteArray.size_append]; omega)).mono (by rintro e x1 ⟨rfl, b⟩; exact ⟨rfl, chainB hb b⟩)
  have HR : Hid (Below W1.heap.size W1 W1) := Below.refl _ _
  obtain ⟨u0, u1, u2⟩ := HX.out W1 HR.out
  have HSz : Hid (W1.heap.size = w.heap.size + 1) := by rw [hW1]; exact show _ = _ by simp
  clear QP tg ts tz K1 g0 g1 s0 s1 z0 z1
  generalize headB g s z = HT at *
  clear hW1
  go_enter Tryz.func65, Tryz.ntmps65
  go_wp2_with fail
  rw [← HW1.out]
  first
    | (go_region_held3 (fun w' => w'.cell? ⟨w.heap.size, 0, none⟩ = some (.int .i64 g) ∧ w'.cell? ⟨w.heap.size, 1, none⟩ = some (.int .i64 s) ∧ w'.cell? ⟨w.heap.size, 2, none⟩ = some (.int .i64 z)) ((refine HX.out _ ?hT; (case hT => (with_reducible repeat (first | assumption | exact HR.out | refine Below.drew ?_ | refine alB ?_ _))))) (first
      | (go_at_call 82; with_reducible refine (QG.out _ ?hB).mono ?_; (case hB => first | exact HR.out | exact HR.out.drew); rintro e x1 ⟨rfl, y1⟩)
      | (go_at_call 82; with_reducible refine (QS.out _ ?hB).mono ?_; (case hB => first | exact y1 | exact y1.drew); rintro e x2 ⟨rfl, y2⟩)
      | (go_at_call 82; with_reducible refine (QZ.out _ ?hB).mono ?_; (case hB => first | exact y2 | exact y2.drew); rintro e x3 ⟨rfl, y3⟩)
      | (go_at_call 58; (first | with_reducible refine (QJ.out _ ?hB).mono ?_ | with_reducible refine (QJ2.out _ ?hB).mono ?_); (case hB => first | exact y3 | exact y3.drew); rintro e x4 ⟨rfl, y4⟩)
      | (go_at_call 81; with_reducible refine (QE.out _ ?hB).mono ?_; (case hB => first | exact y4 | exact y4.drew); rintro e x5 ⟨rfl, y5⟩)))
    | fail
  all_goals
    have y6 := chainB B1.out y5
    go_wp2_with fail
    go_ret
    exact ⟨rfl, y6⟩
end Go.Proofs.YtkhffoailfnepabGreatDoor
