/-
  Parts of one proof, laid as one text: Box3, DrawSig; what each says stands at its head.
-/
import Derived.Test.YtlmkfjlaakmmpaaDoorRows
import Derived.Test.YtlmkfjlaakmmpaaDoorBytes
import Derived.Test.YtlmkfjlaakmmpaaDoorDigMath
import Derived.Test.YtlmkfjlaakmmpaaDoorSlBOwnS
import Derived.Handy
import Derived.OwnWalk
import Derived.Test.YtlmkfjlaakmmpaaDoorOwnBPadI
import Derived.Test.YtlmkfjlaakmmpaaDoorDrawTreeDigest
import Derived.Test.YtlmkfjlaakmmpaaDoorSlA
import Derived.Test.YtlmkfjlaakmmpaaDoorAppS
import Derived.Test.YtlmkfjlaakmmpaaDoorSrcDrawsDrawKit
import Derived.Test.YtlmkfjlaakmmpaaDoorSome
import Derived.Test.YtlmkfjlaakmmpaaDoorSpoil
import Derived.Test.YtlmkfjlaakmmpaaDoorSignMath
import Derived.Test.YtlmkfjlaakmmpaaDoorSignGSignV
import Derived.WalkSpells
import Derived.Deep.RegionLaw
import Derived.Deep.RegionWith
/-
  A box of three cells: what is read off it, and what each step leaves of it.
-/
namespace Go.Proofs.YtlmkfjlaakmmpaaDoor
open Go.RowKit Go.Lib
set_option linter.unusedVariables false

def B3 (w : World) (b : Nat) (T : TypeId) (x y z : Value) : Prop := w.heap[b]? = some (.cells #[x, y, z] T (0, 0))
section
variable {w w' : World} {b : Nat} {T : TypeId} {x y z : Value}
theorem B3.lt (h : B3 w b T x y z) : b < w.heap.size := lt_of_block h
theorem B3.new (w : World) (T : TypeId) (x y z : Value) : B3 (w.alloc (.cells #[x, y, z] T)) w.heap.size T x y z := (MapKept.heap_alloc w _).1
theorem B3.below (h : B3 w b T x y z) (hb : Below w.heap.size w w') : B3 w' b T x y z := (hb.block _ h.lt).trans h
theorem B3.alloc (h : B3 w b T x y z) (o : Obj) : B3 (w.alloc o) b T x y z := h.below ((Below.refl _ _).alloc (Nat.le_refl _) _)
theorem B3.grown {row : Option Nat} (h : B3 w b T x y z) (hg : w.grownBy w' row) (hne : row ≠ some b) : B3 w' b T x y z := (hg.block b h.lt (fun e => hne e.symm)).trans h
theorem B3.c0 (h : B3 w b T x y z) : w.cell? ⟨b, 0, none⟩ = some x := by unfold B3 at h; simp [World.cell?, h]
theorem B3.c1 (h : B3 w b T x y z) : w.cell? ⟨b, 1, none⟩ = some y := by unfold B3 at h; simp [World.cell?, h]
theorem B3.c2 (h : B3 w b T x y z) : w.cell? ⟨b, 2, none⟩ = some z := by unfold B3 at h; simp [World.cell?, h]
theorem B3.fr (h : B3 w b T x y z) (i : Nat) : w.frozen? ⟨b, i, none⟩ = false := by unfold B3 at h; simp [World.frozen?, h]
theorem B3.set0 (h : B3 w b T x y z) (v : Value) : B3 (w.setCell ⟨b, 0, none⟩ v) b T v y z := by unfold B3 at *; rw [blk_set h]; rfl
theorem B3.set1 (h : B3 w b T x y z) (v : Value) : B3 (w.setCell ⟨b, 1, none⟩ v) b T x v z := by unfold B3 at *; rw [blk_set h]; rfl
theorem B3.set2 (h : B3 w b T x y z) (v : Value) : B3 (w.setCell ⟨b, 2, none⟩ v) b T x y v := by unfold B3 at *; rw [blk_set h]; rfl
theorem B3.other (h : B3 w b T x y z) (g i : Nat) (hne : g ≠ b) (v : Value) : B3 (w.setCell ⟨g, i, none⟩ v) b T x y z := by
  unfold B3 at *
  rw [show (w.setCell ⟨g, i, none⟩ v).heap[b]? = w.heap[b]? by simp [World.setCell, Array.getElem?_modify, hne]]; exact h
/-- It is no row of texts. -/
theorem B3.ne (h : B3 w b T x y z) (hT : T ≠ 9) {base : Nat} {v : Value} {m : Nat} {xs : List Value} (ho : w.ownsRow base 9 1 v m xs) : v.ownBlock ≠ some b := by
  intro he
  rcases ho.2 with ⟨rfl, _⟩ | ⟨g, cap, cur, rfl, _, hg, _⟩
  · cases he
  · have : g = b := by simpa [Value.ownBlock] using he
    subst this
    unfold B3 at h
    rw [h] at hg
    simp only [Option.some.injEq, Obj.cells.injEq] at hg
    exact hT hg.2.1
end
end Go.Proofs.YtlmkfjlaakmmpaaDoor
/-
  What the draw of a signature draws: a number and two rows of few texts of at most 32 bytes each. The source's block alone is written.
-/
namespace Go.Proofs.YtlmkfjlaakmmpaaDoor
open Go.RowKit Go.Lib
set_option linter.unusedVariables false
set_option maxRecDepth 20000

theorem TxtAt.box {w : World} {q : Option Addr} {L : List ByteArray} {X : Nat} {T : TypeId} {k : Int} {p1 p2 : Option Addr} {n1 c1 n2 c2 : Nat} (h : TxtAt w q L) (hb : B3 w X T (.int .i64 k) (.slice p1 n1 c1) (.slice p2 n2 c2)) (i : Nat) (v : Value) : TxtAt (w.setCell ⟨X, i, none⟩ v) q L := by
  intro j hj
  obtain ⟨b, off, rfl, hlt, hc⟩ := h j hj
  have hne : X ≠ b := by
    rintro rfl
    unfold B3 at hb
    simp only [World.cell?, hb] at hc
    match off + j, hc with
    | 0, hc => simp at hc
    | 1, hc => simp at hc
    | 2, hc => simp at hc
    | m + 3, hc => simp at hc
  refine ⟨b, off, rfl, by simpa [World.setCell] using hlt, ?_⟩
  rw [World.cell?_setCell_other _ _ _ _ (by intro e; have h := congrArg Addr.block e; exact hne (by first | exact h | exact h.symm))]; exact hc
theorem Few.box {w : World} {v : Value} {L : List ByteArray} {X : Nat} {T : TypeId} {k : Int} {p1 p2 : Option Addr} {n1 c1 n2 c2 : Nat} (h : Few w v L) (hb : B3 w X T (.int .i64 k) (.slice p1 n1 c1) (.slice p2 n2 c2)) (i : Nat) (u : Value) : Few (w.setCell ⟨X, i, none⟩ u) v L := by
  obtain ⟨q, cq, rfl, h1, h2, h3, h4⟩ := h
  exact ⟨q, cq, rfl, h1, h2.box hb i u, h3, h4⟩

/-- A drawn signature in its box at X, beside the source at p. -/
structure SigF (T : TypeId) (B : Nat) (a : Option Addr) (len cap : Nat) (W0 : World) (p X : Nat) (k : Int) (v1 v2 : Value) (L1 L2 : List ByteArray) (x : World) : Prop where
  src : Src T B p a len cap x
  gr : W0.grownBy x (some p)
  hX : W0.heap.size ≤ X
  hp : p < W0.heap.size
  box : B3 x X 62 (.int .i64 k) v1 v2
  f1 : Few x v1 L1
  f2 : Few x v2 L2
section
variable {T : TypeId} {B : Nat} {a : Option Addr} {len cap : Nat} {W0 x : World} {p X : Nat} {k : Int} {v1 v2 : Value} {L1 L2 : List ByteArray}
theorem SigF.step (h : SigF T B a len cap W0 p X k v1 v2 L1 L2 x) (i : Nat) (u : Value) : Src T B p a len cap (x.setCell ⟨X, i, none⟩ u) ∧ W0.grownBy (x.setCell ⟨X, i, none⟩ u) (some p) ∧ ∀ v L, Few x v L → Few (x.setCell ⟨X, i, none⟩ u) v L := by
  have hX := h.hX
  have hp := h.hp
  refine ⟨h.src.other (touch_set (World.grownBy.refl x (some X)) i u) (fun j e => by cases e; omega), touch_own h.gr (touch_set (World.grownBy.refl x (some X)) i u) (fun j e => by cases e; exact hX), fun v L hf => ?_⟩
  obtain ⟨q1, c1, rfl, _⟩ := h.f1
  obtain ⟨q2, c2, rfl, _⟩ := h.f2
  exact hf.box h.box i u
theorem SigF.set0 (h : SigF T B a len cap W0 p X k v1 v2 L1 L2 x) (m : Int) : SigF T B a len cap W0 p X m v1 v2 L1 L2 (x.setCell ⟨X, 0, none⟩ (.int .i64 m)) := by
  obtain ⟨s, g, f⟩ := h.step 0 (.int .i64 m)
  exact ⟨s, g, h.hX, h.hp, h.box.set0 _, f _ _ h.f1, f _ _ h.f2⟩
theorem SigF.set1 (h : SigF T B a len cap W0 p X k v1 v2 L1 L2 x) {v : Value} {L : List ByteArray} (hf : Few x v L) : SigF T B a len cap W0 p X k v v2 L L2 (x.setCell ⟨X, 1, none⟩ v) := by
  obtain ⟨s, g, f⟩ := h.step 1 v
  exact ⟨s, g, h.hX, h.hp, h.box.set1 _, f _ _ hf, f _ _ h.f2⟩
theorem SigF.set2 (h : SigF T B a len cap W0 p X k v1 v2 L1 L2 x) {v : Value} {L : List ByteArray} (hf : Few x v L) : SigF T B a len cap W0 p X k v1 v L1 L (x.setCell ⟨X, 2, none⟩ v) := by
  obtain ⟨s, g, f⟩ := h.step 2 v
  exact ⟨s, g, h.hX, h.hp, h.box.set2 _, f _ _ h.f1, f _ _ hf⟩
end

/-- The same, its rows still the call's own. -/
structure SigO (T : TypeId) (B : Nat) (a : Option Addr) (len cap : Nat) (W0 : World) (p X bs : Nat) (k : Int) (v1 v2 : Value) (L1 L2 : List ByteArray) (x : World) : Prop where
  src : Src T B p a len cap x
  gr : W0.grownBy x (some p)
  hX : W0.heap.size ≤ X
  hp : p < W0.heap.size
  hb : W0.heap.size ≤ bs
  box : B3 x X 62 (.int .i64 k) v1 v2
  o1 : x.ownsRow bs 9 1 v1 L1.length (strRow L1)
  o2 : x.ownsRow bs 9 1 v2 L2.length (strRow L2)
section
variable {T : TypeId} {B : Nat} {a : Option Addr} {len cap : Nat} {W0 x x' : World} {p X bs : Nat} {k : Int} {v1 v2 : Value} {L1 L2 : List ByteArray}
theorem SigO.touch (h : SigO T B a len cap W0 p X bs k v1 v2 L1 L2 x) (hs : Src T B p a len cap x') (hg : x.grownBy x' (some p)) : SigO T B a len cap W0 p X bs k v1 v2 L1 L2 x' := by
  have hX := h.hX
  have hp := h.hp
  have hb := h.hb
  exact ⟨hs, touch_trans h.gr hg, hX, hp, hb, h.box.grown hg (fun e => by cases e; omega), h.o1.kept hg (.inr (fun e => by have := (h.o1.lt p e).1; omega)), h.o2.kept hg (.inr (fun e => by have := (h.o2.lt p e).1; omega))⟩
theorem SigO.below (h : SigO T B a len cap W0 p X bs k v1 v2 L1 L2 x) (hb : Below x.heap.size x x') : SigO T B a len cap W0 p X bs k v1 v2 L1 L2 x' :=
  ⟨h.src.below hb, touch_below h.gr hb, h.hX, h.hp, h.hb, h.box.below hb, ownS_below h.o1 hb, ownS_below h.o2 hb⟩
theorem SigO.few (h : SigO T B a len cap W0 p X bs k v1 v2 L1 L2 x) (l1 : L1.length ≤ 65) (l2 : L2.length ≤ 65) (s1 : ∀ y ∈ L1, y.size ≤ 32) (s2 : ∀ y ∈ L2, y.size ≤ 32) : SigF T B a len cap W0 p X k v1 v2 L1 L2 x :=
  ⟨h.src, h.gr, h.hX, h.hp, h.box, own_few h.o1 l1 s1, own_few h.o2 l2 s2⟩
end
def twoS : List ByteArray := [⟨#[97]⟩, ⟨#[98]⟩]
theorem twoS_small : ∀ t ∈ twoS, t.size ≤ 1 := by decide
theorem keys_at : ∀ j : Nat, j < 4 → ∃ u : Int, (#[.int .i64 (-1), .int .i64 4, .int .i64 0, .int .i64 1] : Array Value)[j]? = some (.int .i64 u) ∧ -1 ≤ u ∧ u ≤ 4
  | 0, _ => ⟨_, rfl, by omega, by omega⟩
  | 1, _ => ⟨_, rfl, by omega, by omega⟩
  | 2, _ => ⟨_, rfl, by omega, by omega⟩
  | 3, _ => ⟨_, rfl, by omega, by omega⟩
  | j + 4, h => by omega
def seedT : ByteArray := ⟨#[115, 101, 101, 100]⟩

set_option maxHeartbeats 4000000 in
theorem drawSig_any (B p : Nat) (a : Option Addr) (len cap : Nat) (w : World) (hs : Src 117 B p a len cap w) :
    Calls Tryd.prog 110 #[.pointer (some ⟨p, 0, none⟩)] w fun e w' =>
      (∃ (k : Int) (v1 v2 : Value) (L1 L2 : List ByteArray), e = .returned (.agg #[.int .i64 k, v1, v2]) ∧ Few w' v1 L1 ∧ Few w' v2 L2 ∧ -1 ≤ k ∧ k ≤ 4) ∧ Src 117 B p a len cap w' ∧ w.grownBy w' (some p) := by
  have hp := hs.lt
  obtain ⟨W0, hW0⟩ : ∃ W0, W0 = w.alloc (.cells #[.int .i64 0, .slice none 0 0, .slice none 0 0] 62) := ⟨_, rfl⟩
  have HW0 : Hid (W0 = w.alloc (.cells #[.int .i64 0, .slice none 0 0, .slice none 0 0] 62)) := hW0
  have B0 : Hid (Below w.heap.size w W0) := by rw [hW0]; exact (Below.refl _ _).alloc (Nat.le_refl _) _
  have X0 : Hid (B3 W0 w.heap.size 62 (.int .i64 0) (.slice none 0 0) (.slice none 0 0)) := by rw [hW0]; exact B3.new _ _ _ _ _
  have hz0 : W0.heap.size = w.heap.size + 1 := by rw [hW0]; simp
  have HZ0 : Hid (W0.heap.size = w.heap.size + 1) := hz0
  have S0 : Hid (Src 117 B p a len cap W0) := hs.below B0.out
  have HK : Hid (∀ x, W0.grownBy x (some p) → B3 x w.heap.size 62 (.int .i64 0) (.slice none 0 0) (.slice none 0 0)) := fun x hg => X0.out.grown hg (fun e => by cases e; omega)
  have HEnd : Hid (∀ (x : World) (X : Nat) (k : Int) (v1 v2 : Value) (L1 L2 : List ByteArray), SigF 117 B a len cap W0 p X k v1 v2 L1 L2 x → -1 ≤ k → k ≤ 4 →
      (∃ (k' : Int) (v1' v2' : Value) (L1' L2' : List ByteArray), Ending.returned (.agg #[.int .i64 k, v1, v2]) = .returned (.agg #[.int .i64 k', v1', v2']) ∧ Few (((x.setCell ⟨w.heap.size, 0, none⟩ (.int .i64 k)).setCell ⟨w.heap.size, 1, none⟩ v1).setCell ⟨w.heap.size, 2, none⟩ v2) v1' L1' ∧ Few (((x.setCell ⟨w.heap.size, 0, none⟩ (.int .i64 k)).setCell ⟨w.heap.size, 1, none⟩ v1).setCell ⟨w.heap.size, 2, none⟩ v2) v2' L2' ∧ -1 ≤ k' ∧ k' ≤ 4) ∧
      Src 117 B p a len cap (((x.setCell ⟨w.heap.size, 0, none⟩ (.int .i64 k)).setCell ⟨w.heap.size, 1, none⟩ v1).setCell ⟨w.heap.size, 2, none⟩ v2) ∧ w.grownBy (((x.setCell ⟨w.heap.size, 0, none⟩ (.int .i64 k)).setCell ⟨w.heap.size, 1, none⟩ v1).setCell ⟨w.heap.size, 2, none⟩ v2) (some p)) := by
    intro x X k v1 v2 L1 L2 h k0 k1
    have hb := HK.out x h.gr
    obtain ⟨q1, c1, e1, _⟩ := id h.f1
    obtain ⟨q2, c2, e2, _⟩ := id h.f2
    have hf : ∀ v L, Few x v L → Few (((x.setCell ⟨w.heap.size, 0, none⟩ (.int .i64 k)).setCell ⟨w.heap.size, 1, none⟩ v1).setCell ⟨w.heap.size, 2, none⟩ v2) v L := fun v L hv => by
      subst e1
      exact ((hv.box hb 0 _).box (hb.set0 _) 1 _).box ((hb.set0 _).set1 _) 2 _
    have hg : x.grownBy (((x.setCell ⟨w.heap.size, 0, none⟩ (.int .i64 k)).setCell ⟨w.heap.size, 1, none⟩ v1).setCell ⟨w.heap.size, 2, none⟩ v2) (some w.heap.size) := touch_set (touch_set (touch_set (World.grownBy.refl x (some w.heap.size)) 0 _) 1 _) 2 _
    exact ⟨⟨k, v1, v2, L1, L2, rfl, hf _ _ h.f1, hf _ _ h.f2, k0, k1⟩, h.src.other hg (fun j e => by cases e; exact hp), touch_own (touch_trans (touch_below (World.grownBy.refl _ _) B0.out) h.gr) hg (fun j e => by cases e; exact Nat.le_refl _)⟩
  clear hs hW0 hz0
  go_enter Tryd.func110, Tryd.ntmps110
  go_wp2_with fail
  rw [← HW0.out]
  refine (n_any B p a len cap 4 _ S0.out (by omega)).mono ?_
  rintro e w1 ⟨⟨r, rfl, r0, r1, _⟩, hs1, hg1⟩
  have r2 := r1 (by omega)
  have HB4 : Hid (BlkS (w1.alloc (.cells (strRow twoS).toArray 9)) w1.heap.size twoS) := alloc_str w1 twoS
  have HS4 : Hid (Src 117 B p a len cap (w1.alloc (.cells (strRow twoS).toArray 9))) := hs1.below ((Below.refl _ _).alloc (Nat.le_refl _) _)
  have G1 : Hid (W0.grownBy w1 (some p)) := hg1
  have hp1 := hs1.lt
  clear hs1 hg1 r1 S0
  go_wp2_with fail
  refine (pick_any B p a len cap w1.heap.size twoS _ HS4.out HB4.out (by omega) (by decide) (by decide)).mono ?_
  rintro e w2 ⟨⟨t, ht, rfl⟩, hs2, hg2⟩
  have G2 : Hid (W0.grownBy w2 (some p)) := touch_trans (touch_trans G1.out (World.grownBy_alloc w1 _ (some p))) hg2
  have t1 := twoS_small t ht
  have S2 : Hid (Src 117 B p a len cap w2) := hs2
  have hok : signOk seedT r t = true := by
    unfold signOk
    rw [show seedB seedT = true by decide, decide_eq_true (show 0 ≤ r ∧ r ≤ 3 by omega), decide_eq_true (show t.size ≤ 8000 by omega)]; rfl
  have hG := specSign_any seedT r t w2 (by decide) (by omega)
  clear HB4 HS4 ht hs2 hg2 G1
  go_wp2_with fail
  refine hG.mono ?_
  rintro e w3 ⟨v1, v2, rfl, o1, o2, hne, b3⟩
  have hl1 : (sgE seedT r t).length = 6 := by unfold sgE; rw [if_pos hok, endsTo_len]
  have hk : sgK seedT r t = r := if_pos hok
  have hw1 : ∀ y ∈ sgE seedT r t, y.size = 32 := by unfold sgE; rw [if_pos hok]; exact endsTo_wide _ _ _ _
  have hw2 : ∀ y ∈ sgP seedT r t, y.size = 32 := by unfold sgP; rw [if_pos hok]; exact pathB_wide _ _
  have hl2 : (sgP seedT r t).length = 2 := by unfold sgP; rw [if_pos hok]; exact pathB_four _ (pubsB_len _) _ (by omega)
  rw [hk] at *
  generalize sgE seedT r t = L1 at *
  generalize sgP seedT r t = L2 at *
  obtain ⟨q1, c1, rfl, hc1, _⟩ := ownS_form o1
  obtain ⟨q2, c2, rfl, hc2, _⟩ := ownS_form o2
  have HL1 : Hid (L1.length = 6) := hl1
  have HL2 : Hid (L2.length = 2) := hl2
  have HW1 : Hid (∀ y ∈ L1, y.size = 32) := hw1
  have HW2 : Hid (∀ y ∈ L2, y.size = 32) := hw2
  have HNe : Hid ((Value.slice q1 L1.length c1).ownBlock = none ∨ (Value.slice q1 L1.length c1).ownBlock ≠ (Value.slice q2 L2.length c2).ownBlock) := hne
  obtain ⟨W4, hW4⟩ : ∃ W4, W4 = w3.alloc (.cells #[.int .i64 r, .slice q1 L1.length c1, .slice q2 L2.length c2] 62) := ⟨_, rfl⟩
  have HW4 : Hid (W4 = w3.alloc (.cells #[.int .i64 r, .slice q1 L1.length c1, .slice q2 L2.length c2] 62)) := hW4
  have S4 : Hid (SigO 117 B a len cap W0 p w3.heap.size w2.heap.size r (.slice q1 L1.length c1) (.slice q2 L2.length c2) L1 L2 W4) := by
    rw [hW4]
    have hz := HZ0.out
    have hg2 := G2.out.size
    have hb := b3.size
    have ba : Below w3.heap.size w3 (w3.alloc (.cells #[.int .i64 r, .slice q1 L1.length c1, .slice q2 L2.length c2] 62)) := (Below.refl _ _).alloc (Nat.le_refl _) _
    exact ⟨(S2.out.below b3).below ba, touch_below (touch_below G2.out b3) ba, by omega, by omega, hg2, B3.new _ _ _ _ _, o1.alloc _, o2.alloc _⟩
  have HFew : Hid (∀ x, SigO 117 B a len cap W0 p w3.heap.size w2.heap.size r (.slice q1 L1.length c1) (.slice q2 L2.length c2) L1 L2 x → SigF 117 B a len cap W0 p w3.heap.size r (.slice q1 L1.length c1) (.slice q2 L2.length c2) L1 L2 x) := fun x h => h.few (by rw [hl1]; omega) (by rw [hl2]; omega) (fun y hy => by rw [hw1 y hy]; omega) (fun y hy => by rw [hw2 y hy]; omega)
  have n1 : L1.length ≤ 6 := by omega
  have n2 : L2.length ≤ 2 := by omega
  clear hl1 hl2 hw1 hw2 hne hW4 o1 o2 b3 S2 G2 hok hG hk B0 X0 HW0
  go_wp2_with fail
  rw [← HW4.out]
  refine (one_any B p a len cap 4 _ S4.out.src (by omega)).mono ?_
  rintro e w5 ⟨⟨b, rfl⟩, hs5, hg5⟩
  have S5 : Hid (SigO 117 B a len cap W0 p w3.heap.size w2.heap.size r (.slice q1 L1.length c1) (.slice q2 L2.length c2) L1 L2 w5) := S4.out.touch hs5 hg5
  clear hs5 hg5 S4
  cases b
  · have F := HFew.out _ S5.out
    have b0 := HK.out _ F.gr
    have x0 := F.box.c0
    have x1 := F.box.c1
    have x2 := F.box.c2
    have y0 := b0.c0
    have y1 := b0.c1
    have y2 := b0.c2
    have z0 := b0.fr 0
    have z1 := b0.fr 1
    have z2 := b0.fr 2
    have HF5 : Hid (SigF 117 B a len cap W0 p w3.heap.size r (.slice q1 L1.length c1) (.slice q2 L2.length c2) L1 L2 w5) := F
    clear F b0
    go_wp2_with fail
    refine bodyPost_ret (v := .agg #[.int .i64 r, .slice q1 L1.length c1, .slice q2 L2.length c2]) (by simp [results, Tryd.results110, go_sem, y0, y1, y2]) rfl ?_
    exact HEnd.out w5 _ r _ _ L1 L2 HF5.out (by omega) (by omega)
  · go_wp2_with fail
    refine (n_any B p a len cap 4 _ S5.out.src (by omega)).mono ?_
    rintro e w6 ⟨⟨r', rfl, s0, s1, _⟩, hs6, hg6⟩
    have s2 := s1 (by omega)
    have S6 : Hid (SigO 117 B a len cap W0 p w3.heap.size w2.heap.size r (.slice q1 L1.length c1) (.slice q2 L2.length c2) L1 L2 w6) := S5.out.touch hs6 hg6
    clear hs6 hg6 S5 s1
    have hr : r' = 0 ∨ r' = 1 ∨ r' = 2 ∨ r' = 3 := by omega
    rcases hr with rfl | rfl | rfl | rfl
    · obtain ⟨W7, hW7⟩ : ∃ W7, W7 = w6.alloc (.cells #[.int .i64 (-1), .int .i64 4, .int .i64 0, .int .i64 1] 2) := ⟨_, rfl⟩
      have HW7 : Hid (W7 = w6.alloc (.cells #[.int .i64 (-1), .int .i64 4, .int .i64 0, .int .i64 1] 2)) := hW7
      have S7 : Hid (SigO 117 B a len cap W0 p w3.heap.size w2.heap.size r (.slice q1 L1.length c1) (.slice q2 L2.length c2) L1 L2 W7) := by rw [hW7]; exact S6.out.below ((Below.refl _ _).alloc (Nat.le_refl _) _)
      have hp6 := S6.out.src.lt
      clear hW7 S6
      go_wp2_with fail
      rw [← HW7.out]
      refine (n_any B p a len cap 4 _ S7.out.src (by omega)).mono ?_
      rintro e w8 ⟨⟨r', rfl, u0, u1, _⟩, hs8, hg8⟩
      have u2 := u1 (by omega)
      obtain ⟨j, rfl⟩ := Int.eq_ofNat_of_zero_le u0
      obtain ⟨u, hu, v0, v1⟩ := keys_at j (by omega)
      have hcell := hg8.cell_far ⟨w6.heap.size, j, none⟩ (by rw [HW7.out]; simp) (by simp; omega)
      rw [HW7.out, World.cell?_alloc_mark, hu] at hcell
      have F8 := HFew.out _ (S7.out.touch hs8 hg8)
      have k0 := F8.box.c0
      have g0 := F8.box.fr 0
      have F9 := F8.set0 u
      have b0 := HK.out _ F9.gr
      have x0 := F9.box.c0
      have x1 := F9.box.c1
      have x2 := F9.box.c2
      have y0 := b0.c0
      have y1 := b0.c1
      have y2 := b0.c2
      have z0 := b0.fr 0
      have z1 := b0.fr 1
      have z2 := b0.fr 2
      have HF9 : Hid (SigF 117 B a len cap W0 p w3.heap.size u (.slice q1 L1.length c1) (.slice q2 L2.length c2) L1 L2 (w8.setCell ⟨w3.heap.size, 0, none⟩ (.int .i64 u))) := F9
      have hj : (j : Int) < 4 := by omega
      clear F8 F9 b0 hs8 hg8 S7 u1 hu
      go_wp2_with fail
      refine bodyPost_ret (v := .agg #[.int .i64 u, .slice q1 L1.length c1, .slice q2 L2.length c2]) (by simp [results, Tryd.results110, go_sem, y0, y1, y2]) rfl ?_
      exact HEnd.out _ _ u _ _ L1 L2 HF9.out v0 v1
    · obtain ⟨_, _, hv, hcc, htx⟩ := ownS_form S6.out.o1
      cases hv
      have hG := spoilS_any B p a len cap q1 c1 L1 w6 S6.out.src htx hcc (by omega) HW1.out
      have k1 := S6.out.box.c1
      clear htx
      go_wp2_with fail
      refine hG.mono ?_
      rintro e w7 ⟨⟨v', L', rfl, hf⟩, hs7, hg7⟩
      obtain ⟨q', c', rfl, _⟩ := id hf
      have F7 := HFew.out _ (S6.out.touch hs7 hg7)
      have k2 := F7.box.c1
      have g2 := F7.box.fr 1
      have F9 := F7.set1 hf
      have b0 := HK.out _ F9.gr
      have x0 := F9.box.c0
      have x1 := F9.box.c1
      have x2 := F9.box.c2
      have y0 := b0.c0
      have y1 := b0.c1
      have y2 := b0.c2
      have z0 := b0.fr 0
      have z1 := b0.fr 1
      have z2 := b0.fr 2
      have HF9 : Hid (SigF 117 B a len cap W0 p w3.heap.size r (.slice q' L'.length c') (.slice q2 L2.length c2) L' L2 (w7.setCell ⟨w3.heap.size, 1, none⟩ (.slice q' L'.length c'))) := F9
      clear F7 F9 b0 hs7 hg7 hf hG k1 S6
      go_wp2_with fail
      refine bodyPost_ret (v := .agg #[.int .i64 r, .slice q' L'.length c', .slice q2 L2.length c2]) (by simp [results, Tryd.results110, go_sem, y0, y1, y2]) rfl ?_
      exact HEnd.out _ _ r _ _ L' L2 HF9.out (by omega) (by omega)
    · obtain ⟨_, _, hv, hcc, htx⟩ := ownS_form S6.out.o2
      cases hv
      have hG := spoilS_any B p a len cap q2 c2 L2 w6 S6.out.src htx hcc (by omega) HW2.out
      have k1 := S6.out.box.c2
      clear htx
      go_wp2_with fail
      refine hG.mono ?_
      rintro e w7 ⟨⟨v', L', rfl, hf⟩, hs7, hg7⟩
      obtain ⟨q', c', rfl, _⟩ := id hf
      have F7 := HFew.out _ (S6.out.touch hs7 hg7)
      have k2 := F7.box.c2
      have g2 := F7.box.fr 2
      have F9 := F7.set2 hf
      have b0 := HK.out _ F9.gr
      have x0 := F9.box.c0
      have x1 := F9.box.c1
      have x2 := F9.box.c2
      have y0 := b0.c0
      have y1 := b0.c1
      have y2 := b0.c2
      have z0 := b0.fr 0
      have z1 := b0.fr 1
      have z2 := b0.fr 2
      have HF9 : Hid (SigF 117 B a len cap W0 p w3.heap.size r (.slice q1 L1.length c1) (.slice q' L'.length c') L1 L' (w7.setCell ⟨w3.heap.size, 2, none⟩ (.slice q' L'.length c'))) := F9
      clear F7 F9 b0 hs7 hg7 hf hG k1 S6
      go_wp2_with fail
      refine bodyPost_ret (v := .agg #[.int .i64 r, .slice q1 L1.length c1, .slice q' L'.length c']) (by simp [results, Tryd.results110, go_sem, y0, y1, y2]) rfl ?_
      exact HEnd.out _ _ r _ _ L1 L' HF9.out (by omega) (by omega)
    · have hp6 := S6.out.hp
      have hb6 := S6.out.hb
      obtain ⟨g, rfl, hg, _⟩ := ownS_at S6.out.o1 (by rw [HL1.out]; omega)
      have hD := digestB_le ⟨#[101]⟩
      have QD : Hid (∀ w', Calls Tryd.prog 22 #[.string ⟨#[101]⟩] w' fun e x1 => e = .returned (.string (digestB ⟨#[101]⟩)) ∧ Below w'.heap.size w' x1) := fun w' => specDigest_any ⟨#[101]⟩ w' (by decide)
      generalize digestB ⟨#[101]⟩ = D at *
      have QN : Hid (∀ w', SigO 117 B a len cap W0 p w3.heap.size w2.heap.size r (.slice (some ⟨g, 0, none⟩) L1.length c1) (.slice q2 L2.length c2) L1 L2 w' → Calls Tryd.prog 65 #[.pointer (some ⟨p, 0, none⟩), .int .i64 6] w' fun e x1 => ∃ j : Nat, e = .returned (.int .i64 (j : Int)) ∧ j < L1.length ∧ SigO 117 B a len cap W0 p w3.heap.size w2.heap.size r (.slice (some ⟨g, 0, none⟩) L1.length c1) (.slice q2 L2.length c2) L1 L2 x1) := fun w' hS => (n_any B p a len cap 6 w' hS.src (by omega)).mono (by
        rintro e x1 ⟨⟨i, rfl, i0, i1, _⟩, s1, g1⟩
        obtain ⟨j, rfl⟩ := Int.eq_ofNat_of_zero_le i0
        exact ⟨j, rfl, by have := i1 (by omega); rw [HL1.out]; omega, hS.touch s1 g1⟩)
      have k1 := S6.out.box.c1
      go_wp2_with fail
      go_region_with (first
        | (go_at_call 65; refine (QN.out _ (by first | exact S6.out | exact S6.out.below (Below.refl _ _).drew)).mono ?_; rintro e x1 ⟨j, rfl, hj, s1⟩; have k2 := s1.box.c1; have i1 : (j : Int) < L1.length := (by omega))
        | (go_at_call 22; refine (QD.out _).mono ?_; rintro e x2 ⟨rfl, y2⟩; have s2 : SigO 117 B a len cap W0 p w3.heap.size w2.heap.size r (.slice (some ⟨g, 0, none⟩) L1.length c1) (.slice q2 L2.length c2) L1 L2 x2 := SigO.below (by first | exact s1 | exact s1.below (Below.refl _ _).drew) y2; have k3 := s2.box.c1; obtain ⟨g', e', _, _, ht, hf⟩ := ownS_at s2.o1 (by rw [HL1.out]; omega); cases e'; have hf := hf j; have hcl := ht.at j hj; rw [Nat.zero_add] at hcl))
      all_goals
        have F9 : SigF 117 B a len cap W0 p w3.heap.size r (.slice (some ⟨g, 0, none⟩) L1.length c1) (.slice q2 L2.length c2) (L1.set j D) L2 (x2.setCell ⟨g, j, none⟩ (.string D)) := by
          have hgX : g ≠ w3.heap.size := fun e => s2.box.ne (by decide) s2.o1 (by rw [e]; rfl)
          refine ⟨s2.src.other (touch_set (World.grownBy.refl x2 (some g)) j _) (fun i e => by cases e; omega), touch_own s2.gr (touch_set (World.grownBy.refl x2 (some g)) j _) (fun i e => by cases e; omega), s2.hX, s2.hp, s2.box.other g j hgX _, ?_, ?_⟩
          · exact ⟨_, _, by rw [List.length_set], by rw [List.length_set]; exact hc1, ht.put j hj D, by rw [List.length_set]; omega, fun x hx => by
              rcases List.mem_or_eq_of_mem_set hx with h' | h'
              · rw [HW1.out x h']; omega
              · rw [h']; exact hD⟩
          · refine own_few (ownsRow_setCell_other s2.o2 ?_ _) (by omega) (fun y hy => by rw [HW2.out y hy]; omega)
            rcases HNe.out with h | h
            · cases h
            · exact fun e => h e.symm
        have b0 := HK.out _ F9.gr
        have h0 := F9.box.c0
        have h1 := F9.box.c1
        have h2 := F9.box.c2
        have y0 := b0.c0
        have y1 := b0.c1
        have y2 := b0.c2
        have z0 := b0.fr 0
        have z1 := b0.fr 1
        have z2 := b0.fr 2
        have HF9 : Hid (SigF 117 B a len cap W0 p w3.heap.size r (.slice (some ⟨g, 0, none⟩) L1.length c1) (.slice q2 L2.length c2) (L1.set j D) L2 (x2.setCell ⟨g, j, none⟩ (.string D))) := F9
        clear F9 b0 s1 s2 ht
        go_wp2_with fail
        refine bodyPost_ret (v := .agg #[.int .i64 r, .slice (some ⟨g, 0, none⟩) L1.length c1, .slice q2 L2.length c2]) (by simp [results, Tryd.results110, go_sem, y0, y1, y2]) rfl ?_
        exact HEnd.out _ _ r _ _ (L1.set j D) L2 HF9.out (by omega) (by omega)
end Go.Proofs.YtlmkfjlaakmmpaaDoor
