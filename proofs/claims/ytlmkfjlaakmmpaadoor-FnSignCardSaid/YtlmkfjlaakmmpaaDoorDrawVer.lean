/-
  What DrawVerify draws: a root of at most 32 bytes, a text of one byte, and a signature of few texts.
-/
import Derived.Test.YtlmkfjlaakmmpaaDoorRows
import Derived.Test.YtlmkfjlaakmmpaaDoorBytes
import Derived.Test.YtlmkfjlaakmmpaaDoorDigMath
import Derived.Test.YtlmkfjlaakmmpaaDoorSlA
import Derived.Test.YtlmkfjlaakmmpaaDoorSlBOwnS
import Derived.Test.YtlmkfjlaakmmpaaDoorSrcDrawsDrawKit
import Derived.Test.YtlmkfjlaakmmpaaDoorSome
import Derived.Test.YtlmkfjlaakmmpaaDoorSpoil
import Derived.Test.YtlmkfjlaakmmpaaDoorBox3DrawSig
import Derived.Test.YtlmkfjlaakmmpaaDoorSignMath
import Derived.Test.YtlmkfjlaakmmpaaDoorSignSSignD
import Derived.Handy
import Derived.WalkSpells
import Derived.OwnWalk
import Derived.Deep.RegionLaw
import Derived.Deep.RegionWith
namespace Go.Proofs.YtlmkfjlaakmmpaaDoor
open Go.RowKit Go.Lib
set_option linter.unusedVariables false
set_option maxRecDepth 20000

theorem TxtAt.src {T : TypeId} {B p : Nat} {a : Option Addr} {len cap : Nat} {w w' : World} {q : Option Addr} {L : List ByteArray} (h : TxtAt w q L) (hs : Src T B p a len cap w) (hg : w.grownBy w' (some p)) : TxtAt w' q L := by
  intro j hj
  obtain ⟨b, off, rfl, hlt, hc⟩ := h j hj
  have hne : b ≠ p := by
    rintro rfl
    obtain ⟨_, _, ⟨_, _, _, _, _, _, _, hr⟩, _⟩ := hs
    unfold SrcRow at hr
    simp only [World.cell?, hr] at hc
    match off + j, hc with
    | 0, hc => simp at hc
    | 1, hc => simp at hc
    | 2, hc => simp at hc
    | 3, hc => simp at hc
    | m + 4, hc => simp at hc
  exact ⟨b, off, rfl, Nat.lt_of_lt_of_le hlt hg.size, hg.cell hc (fun e => hne (by cases e; rfl))⟩
theorem Few.src {T : TypeId} {B p : Nat} {a : Option Addr} {len cap : Nat} {w w' : World} {v : Value} {L : List ByteArray} (h : Few w v L) (hs : Src T B p a len cap w) (hg : w.grownBy w' (some p)) : Few w' v L := by
  obtain ⟨q, cq, rfl, h1, h2, h3, h4⟩ := h
  exact ⟨q, cq, rfl, h1, h2.src hs hg, h3, h4⟩
theorem Few.below {w w' : World} {v : Value} {L : List ByteArray} (h : Few w v L) (hb : Below w.heap.size w w') : Few w' v L := by
  obtain ⟨q, cq, rfl, h1, h2, h3, h4⟩ := h
  exact ⟨q, cq, rfl, h1, h2.below hb, h3, h4⟩
section
variable {T : TypeId} {B : Nat} {a : Option Addr} {len cap : Nat} {W0 x x' : World} {p X : Nat} {k : Int} {v1 v2 : Value} {L1 L2 : List ByteArray}
theorem SigF.touch (h : SigF T B a len cap W0 p X k v1 v2 L1 L2 x) (hs : Src T B p a len cap x') (hg : x.grownBy x' (some p)) : SigF T B a len cap W0 p X k v1 v2 L1 L2 x' := by
  have hX := h.hX
  have hp := h.hp
  exact ⟨hs, touch_trans h.gr hg, hX, hp, h.box.grown hg (fun e => by cases e; omega), h.f1.src h.src hg, h.f2.src h.src hg⟩
theorem SigF.below (h : SigF T B a len cap W0 p X k v1 v2 L1 L2 x) (hb : Below x.heap.size x x') : SigF T B a len cap W0 p X k v1 v2 L1 L2 x' :=
  ⟨h.src.below hb, touch_below h.gr hb, h.hX, h.hp, h.box.below hb, h.f1.below hb, h.f2.below hb⟩
end
def fourT : List ByteArray := [⟨#[115, 101, 101, 100]⟩, ⟨#[115, 101, 101, 100]⟩, ⟨#[115, 101, 101, 100]⟩, ⟨#[111, 116, 104, 101, 114]⟩]
theorem fourT_seed : ∀ t ∈ fourT, seedB t = true ∧ t.size ≤ 5 := by decide
/-- Where the two texts lie, and the rest still. -/
structure PickS (T : TypeId) (B : Nat) (a : Option Addr) (len cap : Nat) (W0 : World) (p X : Nat) (k : Int) (v1 v2 : Value) (L1 L2 : List ByteArray) (g : Nat) (x : World) : Prop where
  sig : SigF T B a len cap W0 p X k v1 v2 L1 L2 x
  blk : BlkS x g twoS
  ne : g ≠ p
theorem pickS_of {T : TypeId} {B : Nat} {a : Option Addr} {len cap : Nat} {W0 x : World} {p X : Nat} {k : Int} {v1 v2 : Value} {L1 L2 : List ByteArray} (h : SigF T B a len cap W0 p X k v1 v2 L1 L2 x) : PickS T B a len cap W0 p X k v1 v2 L1 L2 x.heap.size (x.alloc (.cells (strRow twoS).toArray 9)) := by
  have := h.src.lt
  exact ⟨h.below ((Below.refl _ _).alloc (Nat.le_refl _) _), alloc_str x twoS, by omega⟩
theorem pickS_drew {T : TypeId} {B : Nat} {a : Option Addr} {len cap : Nat} {W0 x : World} {p X : Nat} {k : Int} {v1 v2 : Value} {L1 L2 : List ByteArray} (h : SigF T B a len cap W0 p X k v1 v2 L1 L2 x) : PickS T B a len cap W0 p X k v1 v2 L1 L2 x.heap.size (x.alloc (.cells (strRow twoS).toArray 9)).drew := by
  have := h.src.lt
  exact ⟨h.below ((Below.refl _ _).alloc (Nat.le_refl _) _).drew, alloc_str x twoS, by omega⟩

set_option maxHeartbeats 4000000 in
theorem drawVer_any (B : Nat) (a : Option Addr) (len cap : Nat) (w : World) (hlen : len ≤ 1048576) (hB : B ≤ w.heap.size) (hc : CodeAt B a len w) :
    Calls Tryd.prog 56 #[.slice a len cap] w fun e w' => (∃ (root text : ByteArray) (k : Int) (v1 v2 : Value) (L1 L2 : List ByteArray), e = .returned (.tuple #[.string root, .string text, .agg #[.int .i64 k, v1, v2]]) ∧ root.size ≤ 32 ∧ text.size ≤ 1 ∧ Few w' v1 L1 ∧ Few w' v2 L2 ∧ -1 ≤ k ∧ k ≤ 4) ∧ Below w.heap.size w w' := by
  have HC : Hid (CodeAt B a len w) := hc
  clear hc
  obtain ⟨W0, hW0⟩ : ∃ W0, W0 = w.alloc (.cells #[.int .i64 0, .slice none 0 0, .slice none 0 0] 62) := ⟨_, rfl⟩
  have HW0 : Hid (W0 = w.alloc (.cells #[.int .i64 0, .slice none 0 0, .slice none 0 0] 62)) := hW0
  have B0 : Hid (Below w.heap.size w W0) := by rw [hW0]; exact (Below.refl _ _).alloc (Nat.le_refl _) _
  have HZ0 : Hid (W0.heap.size = w.heap.size + 1) := by rw [hW0]; show _ = _; simp
  have X0 : Hid (B3 W0 w.heap.size 62 (.int .i64 0) (.slice none 0 0) (.slice none 0 0)) := by rw [hW0]; exact B3.new _ _ _ _ _
  have HC0 : Hid (CodeAt B a len W0) := HC.out.below (B0.out.mono hB)
  clear hW0
  go_enter Tryd.func56, Tryd.ntmps56
  go_wp2_with fail
  rw [← HW0.out]
  refine (source_any B a len cap W0 hlen (by have := HZ0.out; omega) HC0.out).mono ?_
  rintro e w1 ⟨rfl, hs1, hb1⟩
  have hp1 := hs1.lt
  have S1 : Hid (Src 117 B W0.heap.size a len cap w1) := hs1
  have B1 : Hid (Below w.heap.size w w1) := chainB B0.out hb1
  have X1 : Hid (B3 w1 w.heap.size 62 (.int .i64 0) (.slice none 0 0) (.slice none 0 0)) := X0.out.below hb1
  clear hs1 hb1 HC HC0 X0
  go_wp2_with fail
  refine (drawSig_any B W0.heap.size a len cap _ S1.out).mono ?_
  rintro e w2 ⟨⟨k, v1, v2, L1, L2, rfl, f1, f2, k0, k1⟩, hs2, hg2⟩
  obtain ⟨q1, c1, rfl, hc1, _⟩ := id f1
  obtain ⟨q2, c2, rfl, hc2, _⟩ := id f2
  obtain ⟨W3, hW3⟩ : ∃ W3, W3 = w2.alloc (.cells #[.int .i64 k, .slice q1 L1.length c1, .slice q2 L2.length c2] 62) := ⟨_, rfl⟩
  have HW3 : Hid (W3 = w2.alloc (.cells #[.int .i64 k, .slice q1 L1.length c1, .slice q2 L2.length c2] 62)) := hW3
  have S3 : Hid (SigF 117 B a len cap w1 W0.heap.size w2.heap.size k (.slice q1 L1.length c1) (.slice q2 L2.length c2) L1 L2 W3) := by
    rw [hW3]
    have ba : Below w2.heap.size w2 (w2.alloc (.cells #[.int .i64 k, .slice q1 L1.length c1, .slice q2 L2.length c2] 62)) := (Below.refl _ _).alloc (Nat.le_refl _) _
    exact ⟨hs2.below ba, touch_below hg2 ba, hg2.size, hp1, B3.new _ _ _ _ _, f1.below ba, f2.below ba⟩
  obtain ⟨W4, hW4⟩ : ∃ W4, W4 = W3.alloc (.cells (strRow fourT).toArray 9) := ⟨_, rfl⟩
  have HW4 : Hid (W4 = (w2.alloc (.cells #[.int .i64 k, .slice q1 L1.length c1, .slice q2 L2.length c2] 62)).alloc (.cells (strRow fourT).toArray 9)) := by rw [hW4, hW3]; exact rfl
  have S4 : Hid (SigF 117 B a len cap w1 W0.heap.size w2.heap.size k (.slice q1 L1.length c1) (.slice q2 L2.length c2) L1 L2 W4) := by rw [hW4]; exact S3.out.below ((Below.refl _ _).alloc (Nat.le_refl _) _)
  have K4 : Hid (BlkS W4 (w2.heap.size + 1) fourT) := by
    rw [hW4]
    have := alloc_str W3 fourT
    rwa [show W3.heap.size = w2.heap.size + 1 by rw [hW3]; simp] at this
  have hp2 := hs2.lt
  clear hW3 hW4 f1 f2 hs2 hg2 S3 S1 HW3
  rw [HW4.out] at S4 K4
  have HK : Hid (∀ x, w1.grownBy x (some W0.heap.size) → B3 x w.heap.size 62 (.int .i64 0) (.slice none 0 0) (.slice none 0 0)) := fun x hg => X1.out.grown hg (fun e => by have := HZ0.out; simp at e; omega)
  have HEnd : Hid (∀ (x : World) (R t : ByteArray), SigF 117 B a len cap w1 W0.heap.size w2.heap.size k (.slice q1 L1.length c1) (.slice q2 L2.length c2) L1 L2 x → R.size ≤ 32 → t.size ≤ 1 →
      (∃ (root text : ByteArray) (k' : Int) (v1 v2 : Value) (L1' L2' : List ByteArray), Ending.returned (.tuple #[.string R, .string t, .agg #[.int .i64 k, .slice q1 L1.length c1, .slice q2 L2.length c2]]) = .returned (.tuple #[.string root, .string text, .agg #[.int .i64 k', v1, v2]]) ∧ root.size ≤ 32 ∧ text.size ≤ 1 ∧ Few (((x.setCell ⟨w.heap.size, 0, none⟩ (.int .i64 k)).setCell ⟨w.heap.size, 1, none⟩ (.slice q1 L1.length c1)).setCell ⟨w.heap.size, 2, none⟩ (.slice q2 L2.length c2)) v1 L1' ∧ Few (((x.setCell ⟨w.heap.size, 0, none⟩ (.int .i64 k)).setCell ⟨w.heap.size, 1, none⟩ (.slice q1 L1.length c1)).setCell ⟨w.heap.size, 2, none⟩ (.slice q2 L2.length c2)) v2 L2' ∧ -1 ≤ k' ∧ k' ≤ 4) ∧
      Below w.heap.size w (((x.setCell ⟨w.heap.size, 0, none⟩ (.int .i64 k)).setCell ⟨w.heap.size, 1, none⟩ (.slice q1 L1.length c1)).setCell ⟨w.heap.size, 2, none⟩ (.slice q2 L2.length c2))) := by
    intro x R t h hR ht
    have hb := HK.out x h.gr
    have hf : ∀ v L, Few x v L → Few (((x.setCell ⟨w.heap.size, 0, none⟩ (.int .i64 k)).setCell ⟨w.heap.size, 1, none⟩ (.slice q1 L1.length c1)).setCell ⟨w.heap.size, 2, none⟩ (.slice q2 L2.length c2)) v L := fun v L hv =>
      ((hv.box hb 0 _).box (hb.set0 _) 1 _).box ((hb.set0 _).set1 _) 2 _
    have hB := below_touch B1.out h.gr (by have := HZ0.out; omega)
    exact ⟨⟨R, t, k, _, _, L1, L2, rfl, hR, ht, hf _ _ h.f1, hf _ _ h.f2, k0, k1⟩, ((hB.setCell (Nat.le_refl _) _).setCell (Nat.le_refl _) _).setCell (Nat.le_refl _) _⟩
  have QP : Hid (∀ W g, PickS 117 B a len cap w1 W0.heap.size w2.heap.size k (.slice q1 L1.length c1) (.slice q2 L2.length c2) L1 L2 g W → Calls Tryd.prog 111 #[.pointer (some ⟨W0.heap.size, 0, none⟩), .slice (some ⟨g, 0, none⟩) 2 2] W fun e x1 => ∃ t : ByteArray, e = .returned (.string t) ∧ t.size ≤ 1 ∧ SigF 117 B a len cap w1 W0.heap.size w2.heap.size k (.slice q1 L1.length c1) (.slice q2 L2.length c2) L1 L2 x1) := fun W g h => (pick_any B W0.heap.size a len cap g twoS W h.sig.src h.blk h.ne (by decide) (by decide)).mono (by
    rintro e x1 ⟨⟨t, ht, rfl⟩, s1, g1⟩
    exact ⟨t, rfl, twoS_small t ht, h.sig.touch s1 g1⟩)
  go_wp2_with fail
  refine (pick_any B W0.heap.size a len cap (w2.heap.size + 1) fourT _ S4.out.src K4.out (by omega) (by decide) (by decide)).mono ?_
  rintro e w5 ⟨⟨t, ht, rfl⟩, hs5, hg5⟩
  obtain ⟨hsd, ht5⟩ := fourT_seed t ht
  have S5 := S4.out.touch hs5 hg5
  clear S4 K4 hs5 hg5 ht HW4
  go_wp2_with fail
  refine (specKeyRoot_any t w5 (by omega)).mono ?_
  rintro e w6 ⟨rfl, b6⟩
  have hRs : (rootA t).size = 32 := by unfold rootA; rw [if_pos hsd, treeB_size]
  have S6 := S5.below b6
  generalize rootA t = R at *
  clear b6 S5 hsd
  go_wp2_with fail
  refine (one_any B W0.heap.size a len cap 12 _ S6.src (by omega)).mono ?_
  rintro e w7 ⟨⟨b, rfl⟩, hs7, hg7⟩
  have S7 : Hid (SigF 117 B a len cap w1 W0.heap.size w2.heap.size k (.slice q1 L1.length c1) (.slice q2 L2.length c2) L1 L2 w7) := S6.touch hs7 hg7
  have l0 := S7.out.box.c0
  have l1 := S7.out.box.c1
  have l2 := S7.out.box.c2
  have l3 := (S7.out.box.alloc (.cells #[.string ⟨#[97]⟩, .string ⟨#[98]⟩] 9)).c0
  have l4 := (S7.out.box.alloc (.cells #[.string ⟨#[97]⟩, .string ⟨#[98]⟩] 9)).c1
  have l5 := (S7.out.box.alloc (.cells #[.string ⟨#[97]⟩, .string ⟨#[98]⟩] 9)).c2
  clear S6 hs7 hg7
  cases b
  · have hR2 : R.size ≤ 32 := by omega
    clear hRs
    go_wp2_with fail
    go_region_law (first
      | (go_simp; go_at_call 111; refine (QP.out _ _ (by first | exact pickS_of S7.out | exact pickS_drew S7.out)).mono ?_; rintro e x1 ⟨tt, rfl, htt, s8⟩; have b0 := HK.out _ s8.gr; have x0 := s8.box.c0; have x2 := s8.box.c1; have x3 := s8.box.c2; have y0 := b0.c0; have y1 := b0.c1; have y2 := b0.c2; have z0 := b0.fr 0; have z1 := b0.fr 1; have z2 := b0.fr 2))
    all_goals
      have S8 : Hid (SigF 117 B a len cap w1 W0.heap.size w2.heap.size k (.slice q1 L1.length c1) (.slice q2 L2.length c2) L1 L2 x1) := s8
      clear s8 b0 QP S7 l0 l1 l2 l3 l4 l5
      go_wp2_with fail
      refine bodyPost_ret (v := .tuple #[.string R, .string tt, .agg #[.int .i64 k, .slice q1 L1.length c1, .slice q2 L2.length c2]]) (by simp [results, Tryd.results56, go_sem, y0, y1, y2]) rfl ?_
      exact HEnd.out x1 R tt S8.out hR2 htt
  · have hR2 : (R.extract 1 32).size ≤ 32 := by simp; omega
    go_wp2_with fail
    go_region_law (first
      | (go_simp; go_at_call 111; refine (QP.out _ _ (by first | exact pickS_of S7.out | exact pickS_drew S7.out)).mono ?_; rintro e x1 ⟨tt, rfl, htt, s8⟩; have b0 := HK.out _ s8.gr; have x0 := s8.box.c0; have x2 := s8.box.c1; have x3 := s8.box.c2; have y0 := b0.c0; have y1 := b0.c1; have y2 := b0.c2; have z0 := b0.fr 0; have z1 := b0.fr 1; have z2 := b0.fr 2))
    all_goals
      have S8 : Hid (SigF 117 B a len cap w1 W0.heap.size w2.heap.size k (.slice q1 L1.length c1) (.slice q2 L2.length c2) L1 L2 x1) := s8
      clear s8 b0 QP S7 l0 l1 l2 l3 l4 l5
      go_wp2_with fail
      refine bodyPost_ret (v := .tuple #[.string (R.extract 1 32), .string tt, .agg #[.int .i64 k, .slice q1 L1.length c1, .slice q2 L2.length c2]]) (by simp [results, Tryd.results56, go_sem, y0, y1, y2]) rfl ?_
      exact HEnd.out x1 (R.extract 1 32) tt S8.out hR2 htt
end Go.Proofs.YtlmkfjlaakmmpaaDoor
