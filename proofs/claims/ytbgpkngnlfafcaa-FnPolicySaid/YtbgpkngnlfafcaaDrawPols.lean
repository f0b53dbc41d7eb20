/-
  What DrawRulePut, DrawRuleDrop, DrawHold and DrawFree draw.
  Conditions: the code's bytes lie there.
-/
import Derived.Test.YtbgpkngnlfafcaaRows
import Derived.Test.YtbgpkngnlfafcaaBytes
import Derived.Test.YtbgpkngnlfafcaaSlA
import Derived.Test.YtbgpkngnlfafcaaSlB
import Derived.Test.YtbgpkngnlfafcaaOwnS
import Derived.Test.YtbgpkngnlfafcaaBxK
import Derived.Test.YtbgpkngnlfafcaaSrc
import Derived.Test.YtbgpkngnlfafcaaDraws
import Derived.Test.YtbgpkngnlfafcaaDrawKit
import Derived.Test.YtbgpkngnlfafcaaSomeDrawFldDrawRulDrawPo
import Derived.Test.YtbgpkngnlfafcaaIntK
import Derived.Test.YtbgpkngnlfafcaaRulMath
import Derived.Test.YtbgpkngnlfafcaaRulBlk
import Derived.Test.YtbgpkngnlfafcaaPolMath
import Derived.Test.YtbgpkngnlfafcaaLawI
import Derived.Test.YtbgpkngnlfafcaaRowOps
import Derived.Test.YtbgpkngnlfafcaaPolO
import Derived.Test.YtbgpkngnlfafcaaPolAns
import Derived.Test.YtbgpkngnlfafcaaDrawPol
import Derived.Handy
import Derived.WalkSpells
import Derived.OwnWalk
import Derived.Deep.RegionWith
import Derived.Deep.Cut
import Derived.Deep.CutRange
namespace Go.Proofs.Ytbgpkngnlfafcaa
open Go.RowKit Go.Lib
set_option linter.unusedVariables false
set_option maxRecDepth 20000

section
variable {w0 x x' : World} {B p : Nat} {a : Option Addr} {len cap X Y : Nat} {v1 v2 : Value} {rs : List Rul} {hs : List Int} {Yo : Option Nat} {r : Rul}
/-- A policy beside the source, and, if it was made, the box of a rule. -/
structure PoZ (w0 : World) (B p : Nat) (a : Option Addr) (len cap X : Nat) (v1 v2 : Value) (rs : List Rul) (hs : List Int) (Yo : Option Nat) (x : World) : Prop where
  po : PoS w0 B p a len cap X v1 v2 rs hs x
  y : ∀ Y, Yo = some Y → Bxs x Y 28 #[.string ⟨#[]⟩, .string ⟨#[]⟩, .int .i64 0, .int .i64 0] ∧ w0.heap.size ≤ Y ∧ some Y ≠ v1.ownBlock
theorem PoZ.of (h : PoS w0 B p a len cap X v1 v2 rs hs x) : PoZ w0 B p a len cap X v1 v2 rs hs none x := ⟨h, fun Y e => by cases e⟩
theorem PoZ.below (h : PoZ w0 B p a len cap X v1 v2 rs hs Yo x) (hb : Below x.heap.size x x') : PoZ w0 B p a len cap X v1 v2 rs hs Yo x' := ⟨h.po.below hb, fun Y e => ⟨(h.y Y e).1.below hb, (h.y Y e).2⟩⟩
theorem PoZ.drew (h : PoZ w0 B p a len cap X v1 v2 rs hs Yo x) : PoZ w0 B p a len cap X v1 v2 rs hs Yo x.drew := h.below (Below.refl _ _).drew
theorem PoZ.step (h : PoZ w0 B p a len cap X v1 v2 rs hs Yo x) (hs' : Src 68 B p a len cap x') (hg : x.grownBy x' (some p)) : PoZ w0 B p a len cap X v1 v2 rs hs Yo x' :=
  ⟨h.po.step hs' hg, fun Y e => by
    obtain ⟨h1, h2⟩ := h.y Y e
    have hp := h.po.hp
    exact ⟨(hg.block Y h1.lt (fun e => by cases e; omega)).trans h1, h2⟩⟩
theorem PoZ.al (h : PoZ w0 B p a len cap X v1 v2 rs hs none x) : PoZ w0 B p a len cap X v1 v2 rs hs (some x.heap.size) (x.alloc (.cells #[.string ⟨#[]⟩, .string ⟨#[]⟩, .int .i64 0, .int .i64 0] 28)) :=
  ⟨h.po.below ((Below.refl _ _).alloc (Nat.le_refl _) _), fun Y e => by
    cases e
    exact ⟨Bxs.new _ _ _, h.po.gr.size, fun e => by have := (h.po.pol.lt.1 _ e.symm).2; omega⟩⟩
theorem PoZ.outs (h : PoZ w0 B p a len cap X v1 v2 rs hs (some Y) x) : x.cell? ⟨Y, 0, none⟩ = some (.string ⟨#[]⟩) ∧ x.cell? ⟨Y, 1, none⟩ = some (.string ⟨#[]⟩) ∧ x.cell? ⟨Y, 2, none⟩ = some (.int .i64 0) ∧ x.cell? ⟨Y, 3, none⟩ = some (.int .i64 0) ∧ x.frozen? ⟨Y, 0, none⟩ = false ∧ x.frozen? ⟨Y, 1, none⟩ = false ∧ x.frozen? ⟨Y, 2, none⟩ = false ∧ x.frozen? ⟨Y, 3, none⟩ = false := by
  obtain ⟨k, -⟩ := h.y Y rfl
  exact ⟨k.cell 0, k.cell 1, k.cell 2, k.cell 3, k.fr 0, k.fr 1, k.fr 2, k.fr 3⟩
theorem PoZ.put (h : PoZ w0 B p a len cap X v1 v2 rs hs (some Y) x) (r : Rul) {W2 : World} (hb : Below W2.heap.size W2 x) (hz : W2.heap.size ≤ w0.heap.size) : PoS w0 B p a len cap X v1 v2 rs hs ((((x.setCell ⟨Y, 0, none⟩ (.string r.k)).setCell ⟨Y, 1, none⟩ (.string r.f)).setCell ⟨Y, 2, none⟩ (.int .i64 r.l)).setCell ⟨Y, 3, none⟩ (.int .i64 r.m)) ∧ Below W2.heap.size W2 ((((x.setCell ⟨Y, 0, none⟩ (.string r.k)).setCell ⟨Y, 1, none⟩ (.string r.f)).setCell ⟨Y, 2, none⟩ (.int .i64 r.l)).setCell ⟨Y, 3, none⟩ (.int .i64 r.m)) ∧ Bxs ((((x.setCell ⟨Y, 0, none⟩ (.string r.k)).setCell ⟨Y, 1, none⟩ (.string r.f)).setCell ⟨Y, 2, none⟩ (.int .i64 r.l)).setCell ⟨Y, 3, none⟩ (.int .i64 r.m)) Y 28 #[.string r.k, .string r.f, .int .i64 r.l, .int .i64 r.m] := by
  obtain ⟨k, hY, n1⟩ := h.y Y rfl
  have g : x.grownBy ((((x.setCell ⟨Y, 0, none⟩ (.string r.k)).setCell ⟨Y, 1, none⟩ (.string r.f)).setCell ⟨Y, 2, none⟩ (.int .i64 r.l)).setCell ⟨Y, 3, none⟩ (.int .i64 r.m)) (some Y) := touch_set (touch_set (touch_set (cell_grown x Y 0 _) 1 _) 2 _) 3 _
  have ne := box_ne k h.po.box (by decide)
  refine ⟨?_, below_set4 hb (by omega) _ _ _ _, (((k.set 0 _).set 1 _).set 2 _).set 3 _⟩
  have n2 := row_ne h.po.pol.own2 k (by decide)
  exact h.po.wrote hY g ((g.block X h.po.box.lt (fun e => by cases e; exact ne rfl)).trans h.po.box) h.po.pol n1 n2
end
theorem drew_end5 {base : Nat} {w x : World} {E : Ending} (h : (∃ (v1 v2 : Value) (rs : List Rul) (hs : List Int) (k f : ByteArray), E = .returned (.tuple #[.agg #[v1, v2], .string k, .string f]) ∧ PolO base rs hs v1 v2 x ∧ PlD 7 8 rs hs ∧ k.size ≤ 21 ∧ f.size ≤ 21) ∧ Below base w x) : (∃ (v1 v2 : Value) (rs : List Rul) (hs : List Int) (k f : ByteArray), E = .returned (.tuple #[.agg #[v1, v2], .string k, .string f]) ∧ PolO base rs hs v1 v2 x.drew ∧ PlD 7 8 rs hs ∧ k.size ≤ 21 ∧ f.size ≤ 21) ∧ Below base w x.drew := by
  obtain ⟨⟨v1, v2, rs, hs, k, f, h1, h2, h3⟩, hb⟩ := h
  exact ⟨⟨v1, v2, rs, hs, k, f, h1, h2.below (Below.refl _ _).drew, h3⟩, hb.drew⟩
theorem drew_end4 {base : Nat} {w x : World} {E : Ending} (h : (∃ (v1 v2 : Value) (rs : List Rul) (hs : List Int) (q : Int), E = .returned (.tuple #[.agg #[v1, v2], .int .i64 q]) ∧ PolO base rs hs v1 v2 x ∧ PlD 7 8 rs hs) ∧ Below base w x) : (∃ (v1 v2 : Value) (rs : List Rul) (hs : List Int) (q : Int), E = .returned (.tuple #[.agg #[v1, v2], .int .i64 q]) ∧ PolO base rs hs v1 v2 x.drew ∧ PlD 7 8 rs hs) ∧ Below base w x.drew := by
  obtain ⟨⟨v1, v2, rs, hs, q, h1, h2, h3⟩, hb⟩ := h
  exact ⟨⟨v1, v2, rs, hs, q, h1, h2.below (Below.refl _ _).drew, h3⟩, hb.drew⟩
theorem cell_far (w : World) {g b : Nat} (h : g ≠ b) (i j : Nat) (v : Value) : (w.setCell ⟨g, i, none⟩ v).cell? ⟨b, j, none⟩ = w.cell? ⟨b, j, none⟩ := by
  simp [World.setCell, World.cell?, Array.getElem?_modify, h]
theorem below_cell {B : Nat} {a w : World} (h : Below B a w) {g : Nat} (hg : B ≤ g) (i : Nat) (v : Value) : Below B a (w.setCell ⟨g, i, none⟩ v) := h.setCell hg v
set_option maxHeartbeats 4000000 in
theorem drawRulePut_any (B : Nat) (a : Option Addr) (len cap : Nat) (w : World) (hlen : len ≤ 1048576) (hB : B ≤ w.heap.size) (hc : CodeAt B a len w) :
    Calls Try.prog 4 #[.slice a len cap] w fun e w' => (∃ (v1 v2 : Value) (rs : List Rul) (hs : List Int) (r : Rul), e = .returned (.tuple #[.agg #[v1, v2], .agg #[.string r.k, .string r.f, .int .i64 r.l, .int .i64 r.m]]) ∧ PolO w.heap.size rs hs v1 v2 w' ∧ PlD 7 8 rs hs ∧ RuD r) ∧ Below w.heap.size w w' := by
  obtain ⟨W2, hW2⟩ : ∃ W2, W2 = (w.alloc (.cells #[.slice none 0 0, .slice none 0 0] 26)).alloc (.cells #[.string ⟨#[]⟩, .string ⟨#[]⟩, .int .i64 0, .int .i64 0] 28) := ⟨_, rfl⟩
  have HW2 : Hid (W2 = (w.alloc (.cells #[.slice none 0 0, .slice none 0 0] 26)).alloc (.cells #[.string ⟨#[]⟩, .string ⟨#[]⟩, .int .i64 0, .int .i64 0] 28)) := hW2
  have hs1 : (w.alloc (.cells #[.slice none 0 0, .slice none 0 0] 26)).heap.size = w.heap.size + 1 := by simp
  have b2 : Hid (Below w.heap.size w W2) := by rw [hW2]; exact ((Below.refl _ _).alloc (Nat.le_refl _) _).alloc (by rw [hs1]; omega) _
  have K0 : Bxs W2 w.heap.size 26 #[.slice none 0 0, .slice none 0 0] := by rw [hW2]; exact (Bxs.new _ _ _).alloc _
  have K1 : Bxs W2 (w.heap.size + 1) 28 #[.string ⟨#[]⟩, .string ⟨#[]⟩, .int .i64 0, .int .i64 0] := by rw [hW2, ← hs1]; exact Bxs.new _ _ _
  have hz2 : Hid (W2.heap.size = w.heap.size + 2) := by rw [hW2]; show _ = _; simp
  have HC : Hid (CodeAt B a len W2) := hc.below (b2.out.mono hB)
  have hB2 : B ≤ W2.heap.size := by have := hz2.out; omega
  clear hW2 hc
  go_enter Try.func4, Try.ntmps4
  go_wp2_with fail
  rw [← HW2.out]
  refine (source_any B a len cap W2 hlen hB2 HC.out).mono ?_
  rintro e y1 ⟨rfl, s1, bs1⟩
  have hpy := s1.lt
  have S1 : Hid (Src 68 B W2.heap.size a len cap y1) := s1
  clear s1 HC
  go_wp2_with fail
  refine (l10Policy_any B W2.heap.size a len cap y1 S1.out).mono ?_
  rintro e y2 ⟨⟨v1, v2, rs, hs, rfl, ow, ok⟩, s2, g2⟩
  have bb : Below W2.heap.size W2 y2 := below_touch bs1 g2 (Nat.le_refl _)
  obtain ⟨f1, e1, f2, e2, rfl, rfl, m1, m2⟩ := ow.form
  have hz1 := bs1.size
  have HD : Hid (PoS y1 B W2.heap.size a len cap y2.heap.size (.slice f1 rs.length e1) (.slice f2 hs.length e2) rs hs (y2.alloc (.cells #[.slice f1 rs.length e1, .slice f2 hs.length e2] 26))) := ⟨s2.below ((Below.refl _ _).alloc (Nat.le_refl _) _), touch_below g2 ((Below.refl _ _).alloc (Nat.le_refl _) _), hpy, g2.size, Bxs.new _ _ _, ow.below ((Below.refl _ _).alloc (Nat.le_refl _) _)⟩
  have HB : Hid (Below W2.heap.size W2 (y2.alloc (.cells #[.slice f1 rs.length e1, .slice f2 hs.length e2] 26))) := bb.alloc bb.size _
  have HP : Hid (PlD 7 8 rs hs) := ok
  clear s2 g2 bb ow ok bs1 S1 HW2
  go_upto_region 3 with fail
  generalize y2.alloc (.cells #[.slice f1 rs.length e1, .slice f2 hs.length e2] 26) = x2 at *
  generalize y2.heap.size = X at *
  have QR : Hid (∀ x, PoS y1 B W2.heap.size a len cap X (.slice f1 rs.length e1) (.slice f2 hs.length e2) rs hs x → Below W2.heap.size W2 x → Calls Try.prog 21 #[.pointer (some ⟨W2.heap.size, 0, none⟩)] x fun e x1 => ∃ r : Rul, e = .returned (.agg #[.string r.k, .string r.f, .int .i64 r.l, .int .i64 r.m]) ∧ RuD r ∧ PoS y1 B W2.heap.size a len cap X (.slice f1 rs.length e1) (.slice f2 hs.length e2) rs hs x1 ∧ Below W2.heap.size W2 x1) := fun x h hb => (drawnRule_any B W2.heap.size a len cap x h.src).mono (by
    rintro e x1 ⟨⟨r, rfl, hr⟩, s1, g1⟩
    exact ⟨r, rfl, hr, h.step s1 g1, below_touch hb g1 (Nat.le_refl _)⟩)
  have HX : Hid (∀ x, Below W2.heap.size W2 x → x.cell? ⟨w.heap.size, 0, none⟩ = some (.slice none 0 0) ∧ x.cell? ⟨w.heap.size, 1, none⟩ = some (.slice none 0 0) ∧ x.cell? ⟨w.heap.size + 1, 0, none⟩ = some (.string ⟨#[]⟩) ∧ x.cell? ⟨w.heap.size + 1, 1, none⟩ = some (.string ⟨#[]⟩) ∧ x.cell? ⟨w.heap.size + 1, 2, none⟩ = some (.int .i64 0) ∧ x.cell? ⟨w.heap.size + 1, 3, none⟩ = some (.int .i64 0) ∧ x.frozen? ⟨w.heap.size, 0, none⟩ = false ∧ x.frozen? ⟨w.heap.size, 1, none⟩ = false ∧ x.frozen? ⟨w.heap.size + 1, 0, none⟩ = false ∧ x.frozen? ⟨w.heap.size + 1, 1, none⟩ = false ∧ x.frozen? ⟨w.heap.size + 1, 2, none⟩ = false ∧ x.frozen? ⟨w.heap.size + 1, 3, none⟩ = false) := fun x hb => by
    have k0 := K0.below hb
    have k1 := K1.below hb
    exact ⟨k0.cell 0, k0.cell 1, k1.cell 0, k1.cell 1, k1.cell 2, k1.cell 3, k0.fr 0, k0.fr 1, k1.fr 0, k1.fr 1, k1.fr 2, k1.fr 3⟩
  obtain ⟨c0, c1, -, -⟩ := HD.out.cells
  obtain ⟨d0, d1, d2, d3, d4, d5, g0, g1, g2, g3, g4, g5⟩ := HX.out _ HB.out
  clear K0 K1
  go_region_with (first
    | (go_at_call 21; refine (QR.out _ (by first | exact HD.out | exact HD.out.drew) (by first | exact HB.out | exact HB.out.drew)).mono ?_; rintro e x3 ⟨r, rfl, hr, t3, bx3⟩; obtain ⟨a0, a1, -, -⟩ := t3.cells; obtain ⟨d6, d7, d8, d9, da, db, g6, g7, g8, g9, ga, gb⟩ := HX.out _ bx3))
  all_goals
    have hzz := hz2.out
    have HPo : Hid (PolO W2.heap.size rs hs (.slice f1 rs.length e1) (.slice f2 hs.length e2) x3) := t3.pol.lower hz1
    have HBx : Hid (Below w.heap.size w x3) := chainB b2.out bx3
    clear t3 bx3 HD HB QR HX
    go_wp2_with fail
    refine bodyPost_ret (v := .tuple #[.agg #[.slice f1 rs.length e1, .slice f2 hs.length e2], .agg #[.string r.k, .string r.f, .int .i64 r.l, .int .i64 r.m]]) (by simp [results, Try.results4, go_sem, d6, d7, d8, d9, da, db]) rfl ?_
    refine ⟨⟨_, _, rs, hs, r, rfl, PolO.lower (base := W2.heap.size) ?_ (by omega), HP.out, hr⟩, ?_⟩
    · repeat (first | with_reducible exact HPo.out | refine PolO.set ?_ (by omega) _ _)
    · repeat (first | with_reducible exact HBx.out | refine below_cell ?_ (by omega) _ _)
set_option maxHeartbeats 4000000 in
theorem drawHold_any (B : Nat) (a : Option Addr) (len cap : Nat) (w : World) (hlen : len ≤ 1048576) (hB : B ≤ w.heap.size) (hc : CodeAt B a len w) :
    Calls Try.prog 7 #[.slice a len cap] w fun e w' => (∃ (v1 v2 : Value) (rs : List Rul) (hs : List Int) (q : Int), e = .returned (.tuple #[.agg #[v1, v2], .int .i64 q]) ∧ PolO w.heap.size rs hs v1 v2 w' ∧ PlD 7 8 rs hs) ∧ Below w.heap.size w w' := by
  obtain ⟨W2, hW2⟩ : ∃ W2, W2 = w.alloc (.cells #[.slice none 0 0, .slice none 0 0] 26) := ⟨_, rfl⟩
  have HW2 : Hid (W2 = w.alloc (.cells #[.slice none 0 0, .slice none 0 0] 26)) := hW2
  have b2 : Hid (Below w.heap.size w W2) := by rw [hW2]; exact (Below.refl _ _).alloc (Nat.le_refl _) _
  have K0 : Bxs W2 w.heap.size 26 #[.slice none 0 0, .slice none 0 0] := by rw [hW2]; exact Bxs.new _ _ _
  have hz2 : Hid (W2.heap.size = w.heap.size + 1) := by rw [hW2]; show _ = _; simp
  have HX : Hid (∀ x, Below W2.heap.size W2 x → x.cell? ⟨w.heap.size, 0, none⟩ = some (.slice none 0 0) ∧ x.cell? ⟨w.heap.size, 1, none⟩ = some (.slice none 0 0) ∧ x.frozen? ⟨w.heap.size, 0, none⟩ = false ∧ x.frozen? ⟨w.heap.size, 1, none⟩ = false) := fun x hb => by
    have k0 := K0.below hb
    exact ⟨k0.cell 0, k0.cell 1, k0.fr 0, k0.fr 1⟩
  have HX2 : Hid (∀ x, Below W2.heap.size W2 x → Bxs x w.heap.size 26 #[.slice none 0 0, .slice none 0 0]) := fun x hb => K0.below hb
  have HC : Hid (CodeAt B a len W2) := hc.below (b2.out.mono hB)
  have hB2 : B ≤ W2.heap.size := by have := hz2.out; omega
  clear hW2 hc K0
  go_enter Try.func7, Try.ntmps7
  go_wp2_with fail
  rw [← HW2.out]
  refine (source_any B a len cap W2 hlen hB2 HC.out).mono ?_
  rintro e y1 ⟨rfl, s1, bs1⟩
  have hpy := s1.lt
  have S1 : Hid (Src 68 B W2.heap.size a len cap y1) := s1
  clear s1 HC
  go_wp2_with fail
  refine (l10Policy_any B W2.heap.size a len cap y1 S1.out).mono ?_
  rintro e y2 ⟨⟨v1, v2, rs, hs, rfl, ow, ok⟩, s2, g2⟩
  have bb : Below W2.heap.size W2 y2 := below_touch bs1 g2 (Nat.le_refl _)
  obtain ⟨f1, e1, f2, e2, rfl, rfl, m1, m2⟩ := ow.form
  have hz1 := bs1.size
  have HD : Hid (PoS y1 B W2.heap.size a len cap y2.heap.size (.slice f1 rs.length e1) (.slice f2 hs.length e2) rs hs (y2.alloc (.cells #[.slice f1 rs.length e1, .slice f2 hs.length e2] 26))) := ⟨s2.below ((Below.refl _ _).alloc (Nat.le_refl _) _), touch_below g2 ((Below.refl _ _).alloc (Nat.le_refl _) _), hpy, g2.size, Bxs.new _ _ _, ow.below ((Below.refl _ _).alloc (Nat.le_refl _) _)⟩
  have HB : Hid (Below W2.heap.size W2 (y2.alloc (.cells #[.slice f1 rs.length e1, .slice f2 hs.length e2] 26))) := bb.alloc bb.size _
  have HP : Hid (PlD 7 8 rs hs) := ok
  clear s2 g2 bb ow ok bs1 S1 HW2
  go_upto_region 3 with fail
  generalize y2.alloc (.cells #[.slice f1 rs.length e1, .slice f2 hs.length e2] 26) = x2 at *
  generalize y2.heap.size = X at *
  have QR : Hid (∀ x, PoS y1 B W2.heap.size a len cap X (.slice f1 rs.length e1) (.slice f2 hs.length e2) rs hs x → Below W2.heap.size W2 x → Calls Try.prog 28 #[.pointer (some ⟨W2.heap.size, 0, none⟩), .int .i64 8] x fun e x1 => ∃ q : Int, e = .returned (.int .i64 q) ∧ 0 ≤ q ∧ q ≤ 7 ∧ PoS y1 B W2.heap.size a len cap X (.slice f1 rs.length e1) (.slice f2 hs.length e2) rs hs x1 ∧ Below W2.heap.size W2 x1) := fun x h hb => (n_any B W2.heap.size a len cap 8 x h.src (by omega)).mono (by
    rintro e x1 ⟨⟨q, rfl, q0, q1, -⟩, s1, g1⟩
    exact ⟨q, rfl, q0, by have := q1 (by omega); omega, h.step s1 g1, below_touch hb g1 (Nat.le_refl _)⟩)
  obtain ⟨c0, c1, -, -⟩ := HD.out.cells
  obtain ⟨d0, d1, g0, g1⟩ := HX.out _ HB.out
  go_region_with (first
    | (go_at_call 28; refine (QR.out _ (by first | exact HD.out | exact HD.out.drew) (by first | exact HB.out | exact HB.out.drew)).mono ?_; rintro e x3 ⟨q, rfl, q0, q7, t3, bx3⟩; obtain ⟨a0, a1, -, -⟩ := t3.cells; obtain ⟨d6, d7, g6, g7⟩ := HX.out _ bx3; have hw : IntKind.i64.wrap (q - 1) = q - 1 := by rw [IntKind.wrap_i64]; omega))
  all_goals
    have hzz := hz2.out
    have HPo : Hid (PolO W2.heap.size rs hs (.slice f1 rs.length e1) (.slice f2 hs.length e2) x3) := t3.pol.lower hz1
    have HBx : Hid (Below w.heap.size w x3) := chainB b2.out bx3
    clear t3 bx3 HD HB QR HX
    go_wp2_with fail
    refine bodyPost_ret (v := .tuple #[.agg #[.slice f1 rs.length e1, .slice f2 hs.length e2], .int .i64 (q - 1)]) (by simp [results, Try.results7, go_sem, d6, d7]) rfl ?_
    refine ⟨⟨_, _, rs, hs, q - 1, rfl, PolO.lower (base := W2.heap.size) ?_ (by omega), HP.out⟩, ?_⟩
    · repeat (first | with_reducible exact HPo.out | refine PolO.set ?_ (by omega) _ _)
    · repeat (first | with_reducible exact HBx.out | refine below_cell ?_ (by omega) _ _)
set_option maxHeartbeats 8000000 in
theorem drawRuleDrop_any (B : Nat) (a : Option Addr) (len cap : Nat) (w : World) (hlen : len ≤ 1048576) (hB : B ≤ w.heap.size) (hc : CodeAt B a len w) :
    Calls Try.prog 6 #[.slice a len cap] w fun e w' => (∃ (v1 v2 : Value) (rs : List Rul) (hs : List Int) (k f : ByteArray), e = .returned (.tuple #[.agg #[v1, v2], .string k, .string f]) ∧ PolO w.heap.size rs hs v1 v2 w' ∧ PlD 7 8 rs hs ∧ k.size ≤ 21 ∧ f.size ≤ 21) ∧ Below w.heap.size w w' := by
  obtain ⟨W2, hW2⟩ : ∃ W2, W2 = w.alloc (.cells #[.slice none 0 0, .slice none 0 0] 26) := ⟨_, rfl⟩
  have HW2 : Hid (W2 = w.alloc (.cells #[.slice none 0 0, .slice none 0 0] 26)) := hW2
  have b2 : Hid (Below w.heap.size w W2) := by rw [hW2]; exact (Below.refl _ _).alloc (Nat.le_refl _) _
  have K0 : Bxs W2 w.heap.size 26 #[.slice none 0 0, .slice none 0 0] := by rw [hW2]; exact Bxs.new _ _ _
  have hz2 : Hid (W2.heap.size = w.heap.size + 1) := by rw [hW2]; show _ = _; simp
  have HX : Hid (∀ x, Below W2.heap.size W2 x → x.cell? ⟨w.heap.size, 0, none⟩ = some (.slice none 0 0) ∧ x.cell? ⟨w.heap.size, 1, none⟩ = some (.slice none 0 0) ∧ x.frozen? ⟨w.heap.size, 0, none⟩ = false ∧ x.frozen? ⟨w.heap.size, 1, none⟩ = false) := fun x hb => by
    have k0 := K0.below hb
    exact ⟨k0.cell 0, k0.cell 1, k0.fr 0, k0.fr 1⟩
  have HX2 : Hid (∀ x, Below W2.heap.size W2 x → Bxs x w.heap.size 26 #[.slice none 0 0, .slice none 0 0]) := fun x hb => K0.below hb
  have HC : Hid (CodeAt B a len W2) := hc.below (b2.out.mono hB)
  have hB2 : B ≤ W2.heap.size := by have := hz2.out; omega
  clear hW2 hc K0
  go_enter Try.func6, Try.ntmps6
  go_wp2_with fail
  rw [← HW2.out]
  refine (source_any B a len cap W2 hlen hB2 HC.out).mono ?_
  rintro e y1 ⟨rfl, s1, bs1⟩
  have hpy := s1.lt
  have S1 : Hid (Src 68 B W2.heap.size a len cap y1) := s1
  clear s1 HC
  go_wp2_with fail
  refine (l10Policy_any B W2.heap.size a len cap y1 S1.out).mono ?_
  rintro e y2 ⟨⟨v1, v2, rs, hs, rfl, ow, ok⟩, s2, g2⟩
  have bb : Below W2.heap.size W2 y2 := below_touch bs1 g2 (Nat.le_refl _)
  obtain ⟨f1, e1, f2, e2, rfl, rfl, m1, m2⟩ := ow.form
  have hz1 := bs1.size
  have HD : Hid (PoS y1 B W2.heap.size a len cap y2.heap.size (.slice f1 rs.length e1) (.slice f2 hs.length e2) rs hs (y2.alloc (.cells #[.slice f1 rs.length e1, .slice f2 hs.length e2] 26))) := ⟨s2.below ((Below.refl _ _).alloc (Nat.le_refl _) _), touch_below g2 ((Below.refl _ _).alloc (Nat.le_refl _) _), hpy, g2.size, Bxs.new _ _ _, ow.below ((Below.refl _ _).alloc (Nat.le_refl _) _)⟩
  have HB : Hid (Below W2.heap.size W2 (y2.alloc (.cells #[.slice f1 rs.length e1, .slice f2 hs.length e2] 26))) := bb.alloc bb.size _
  have HP : Hid (PlD 7 8 rs hs) := ok
  clear s2 g2 bb ow ok bs1 S1 HW2
  go_upto_region 3 with fail
  generalize y2.alloc (.cells #[.slice f1 rs.length e1, .slice f2 hs.length e2] 26) = x2 at *
  generalize y2.heap.size = X at *
  obtain ⟨c0, c1, -, -⟩ := HD.out.cells
  have HEnd : Hid (∀ (x : World) (k f : ByteArray) (u0 u1 : Value), PoS y1 B W2.heap.size a len cap X (.slice f1 rs.length e1) (.slice f2 hs.length e2) rs hs x → Below W2.heap.size W2 x → k.size ≤ 21 → f.size ≤ 21 → (∃ (v1 v2 : Value) (rs' : List Rul) (hs' : List Int) (k' f' : ByteArray), Ending.returned (.tuple #[.agg #[.slice f1 rs.length e1, .slice f2 hs.length e2], .string k, .string f]) = .returned (.tuple #[.agg #[v1, v2], .string k', .string f']) ∧ PolO w.heap.size rs' hs' v1 v2 ((x.setCell ⟨w.heap.size, 0, none⟩ u0).setCell ⟨w.heap.size, 1, none⟩ u1) ∧ PlD 7 8 rs' hs' ∧ k'.size ≤ 21 ∧ f'.size ≤ 21) ∧ Below w.heap.size w ((x.setCell ⟨w.heap.size, 0, none⟩ u0).setCell ⟨w.heap.size, 1, none⟩ u1)) := fun x k f u0 u1 h hb hk hf => by
    have hzz := hz2.out
    have ho := h.pol.lower hz1
    exact ⟨⟨_, _, rs, hs, k, f, rfl, ((ho.set (by omega) 0 u0).set (by omega) 1 u1).lower (by omega), HP.out, hk, hf⟩, below_set2 (chainB b2.out hb) (Nat.le_refl _) _ _⟩
  by_cases h0 : rs.length = 0
  · have n0 : decide (0 < rs.length) = false := decide_eq_false (by omega)
    have n0i : decide ((0 : Int) < rs.length) = false := decide_eq_false (by omega)
    obtain ⟨d0, d1, g0, g1⟩ := HX.out _ HB.out
    have HE : Hid _ := fun u0 u1 => HEnd.out x2 ⟨#[117, 115, 101, 114]⟩ ⟨#[122, 105, 112]⟩ u0 u1 HD.out HB.out (by decide) (by decide)
    clear HEnd HX HD HB h0
    go_wp2_with fail
    refine bodyPost_ret (v := .tuple #[.agg #[.slice f1 rs.length e1, .slice f2 hs.length e2], .string ⟨#[117, 115, 101, 114]⟩, .string ⟨#[122, 105, 112]⟩]) (by simp [results, Try.results6, go_sem, d0, d1]) rfl ?_
    exact HE.out _ _
  · have n0 : decide (0 < rs.length) = true := decide_eq_true (by omega)
    have n0i : decide ((0 : Int) < rs.length) = true := decide_eq_true (by omega)
    go_wp2_with fail
    refine (one_any B W2.heap.size a len cap 4 _ HD.out.src (by omega)).mono ?_
    rintro e x4 ⟨⟨b, rfl⟩, s4, g4⟩
    have HD4 : Hid (PoS y1 B W2.heap.size a len cap X (.slice f1 rs.length e1) (.slice f2 hs.length e2) rs hs x4) := HD.out.step s4 g4
    have HB4 : Hid (Below W2.heap.size W2 x4) := below_touch HB.out g4 (Nat.le_refl _)
    clear HD HB s4 g4 c0 c1
    obtain ⟨c0, c1, -, -⟩ := HD4.out.cells
    cases b
    · go_upto_region 4 with fail
      obtain ⟨bq, hbq⟩ : ∃ b, f1 = some ⟨b, 0, none⟩ := by
        rcases HD4.out.pol.own1.2 with ⟨-, h1⟩ | ⟨g, cp, cur, h1, -⟩
        · omega
        · cases h1; exact ⟨g, rfl⟩
      subst hbq
      have HQ : Hid (∀ (q : Nat) (hq : q < rs.length) y, PoS y1 B W2.heap.size a len cap X (.slice (some ⟨bq, 0, none⟩) rs.length e1) (.slice f2 hs.length e2) rs hs y → y.cell? ⟨bq, q * 4, none⟩ = some (.string rs[q].k) ∧ y.cell? ⟨bq, q * 4 + 1, none⟩ = some (.string rs[q].f) ∧ y.cell? ⟨bq, q * 4 + 2, none⟩ = some (.int .i64 rs[q].l) ∧ y.cell? ⟨bq, q * 4 + 3, none⟩ = some (.int .i64 rs[q].m)) := fun q hq y hy => by
        have := hy.pol.read.1.at q hq
        simpa using this
      have QR : Hid (∀ Yo x, PoZ y1 B W2.heap.size a len cap X (.slice (some ⟨bq, 0, none⟩) rs.length e1) (.slice f2 hs.length e2) rs hs Yo x → Below W2.heap.size W2 x → Calls Try.prog 28 #[.pointer (some ⟨W2.heap.size, 0, none⟩), .int .i64 rs.length] x fun e x1 => ∃ (q : Nat) (r : Rul), e = .returned (.int .i64 (q : Int)) ∧ q < rs.length ∧ RuD r ∧ PoZ y1 B W2.heap.size a len cap X (.slice (some ⟨bq, 0, none⟩) rs.length e1) (.slice f2 hs.length e2) rs hs Yo x1 ∧ Below W2.heap.size W2 x1 ∧ ∀ y, PoS y1 B W2.heap.size a len cap X (.slice (some ⟨bq, 0, none⟩) rs.length e1) (.slice f2 hs.length e2) rs hs y → y.cell? ⟨bq, q * 4, none⟩ = some (.string r.k) ∧ y.cell? ⟨bq, q * 4 + 1, none⟩ = some (.string r.f) ∧ y.cell? ⟨bq, q * 4 + 2, none⟩ = some (.int .i64 r.l) ∧ y.cell? ⟨bq, q * 4 + 3, none⟩ = some (.int .i64 r.m)) := fun Yo x h hb => (n_any B W2.heap.size a len cap rs.length x h.po.src (by have := HP.out.1; omega)).mono (by
        rintro e x1 ⟨⟨q, rfl, q0, q1, q2⟩, s1, g1⟩
        obtain ⟨Q, rfl⟩ := Int.eq_ofNat_of_zero_le q0
        have hQ : Q < rs.length := by
          by_cases h1 : (1 : Int) < rs.length
          · have := q1 h1; omega
          · have := q2 (by omega); omega
        exact ⟨Q, rs[Q], rfl, hQ, HP.out.2.2 _ (List.getElem_mem hQ), h.step s1 g1, below_touch hb g1 (Nat.le_refl _), fun y hy => HQ.out Q hQ y hy⟩)
      go_cut [7] from 21 to 29 (fun s7 wx => ∃ (Z : Nat) (r : Rul), s7 = .pointer (some ⟨Z, 0, none⟩) ∧ Hid (RuD r) ∧ Hid (PoS y1 B W2.heap.size a len cap X (.slice (some ⟨bq, 0, none⟩) rs.length e1) (.slice f2 hs.length e2) rs hs wx) ∧ Hid (Below W2.heap.size W2 wx) ∧ Hid (Bxs wx Z 28 #[.string r.k, .string r.f, .int .i64 r.l, .int .i64 r.m]))
      case first =>
        have T0 : Hid (PoZ y1 B W2.heap.size a len cap X (.slice (some ⟨bq, 0, none⟩) rs.length e1) (.slice f2 hs.length e2) rs hs none x4) := PoZ.of HD4.out
        have TB : Hid (Below W2.heap.size W2 x4) := HB4.out
        have hX2 : W2.heap.size ≤ x4.heap.size := HB4.out.size
        obtain ⟨p0, p1, -, -⟩ := (HD4.out.below ((Below.refl _ _).alloc (Nat.le_refl _) (.cells #[.string ⟨#[]⟩, .string ⟨#[]⟩, .int .i64 0, .int .i64 0] 28))).cells
        go_region_law (first
          | (go_simp; go_at_call 28; refine (QR.out none _ (by with_reducible exact T0.out.drew) (by with_reducible exact HB4.out.drew)).mono ?_; rintro e x5 ⟨q, r, rfl, hq, hr, t5, b5, hc5⟩; obtain ⟨a0, a1, -, -⟩ := t5.po.cells; obtain ⟨k0, k1, k2, k3⟩ := hc5 _ t5.po; obtain ⟨a4, a5, -, -⟩ := (t5.po.below ((Below.refl _ _).alloc (Nat.le_refl _) (.cells #[.string ⟨#[]⟩, .string ⟨#[]⟩, .int .i64 0, .int .i64 0] 28))).cells; obtain ⟨l0, l1, l2, l3⟩ := hc5 _ (t5.po.below ((Below.refl _ _).alloc (Nat.le_refl _) (.cells #[.string ⟨#[]⟩, .string ⟨#[]⟩, .int .i64 0, .int .i64 0] 28))); have hqi : (q : Int) < rs.length := (by omega))
          | (go_simp; go_at_call 28; refine (QR.out (some x4.heap.size) _ (by with_reducible exact (PoZ.al T0.out).drew) (by with_reducible exact (HB4.out.alloc hX2 _).drew)).mono ?_; rintro e x5 ⟨q, r, rfl, hq, hr, t5, b5, hc5⟩; obtain ⟨a0, a1, -, -⟩ := t5.po.cells; obtain ⟨k0, k1, k2, k3⟩ := hc5 _ t5.po; obtain ⟨a4, a5, -, -⟩ := (t5.po.below ((Below.refl _ _).alloc (Nat.le_refl _) (.cells #[.string ⟨#[]⟩, .string ⟨#[]⟩, .int .i64 0, .int .i64 0] 28))).cells; obtain ⟨l0, l1, l2, l3⟩ := hc5 _ (t5.po.below ((Below.refl _ _).alloc (Nat.le_refl _) (.cells #[.string ⟨#[]⟩, .string ⟨#[]⟩, .int .i64 0, .int .i64 0] 28))); have hqi : (q : Int) < rs.length := (by omega); obtain ⟨z0, z1, z2, z3, z4, z5, z6, z7⟩ := PoZ.outs t5))
        all_goals
          have hr' : Hid (RuD r) := hr
          first
            | (have HF := t5.put r b5 hz1; clear HQ QR hc5 T0 TB; go_wp2_with fail; go_meet; exact ⟨_, r, rfl, hr', HF.1, HF.2.1, HF.2.2⟩)
            | (clear HQ QR hc5 T0 TB; go_wp2_with fail; go_meet; exact ⟨_, r, rfl, hr', t5.po.below ((Below.refl _ _).alloc (Nat.le_refl _) _), b5.alloc b5.size _, Bxs.new _ _ _⟩)
      case rest =>
        clear QR HQ HD4 HB4 c0 c1
        obtain ⟨Z, r, rfl, hr, HD5, HB5, K5⟩ := hcut
        obtain ⟨w7, rfl⟩ : ∃ w7 : World, w7 = wc := ⟨_, rfl⟩
        obtain ⟨c0, c1, -, -⟩ := HD5.out.cells
        have k0 : w7.cell? ⟨Z, 0, none⟩ = some (.string r.k) := K5.out.cell 0
        have k1 : w7.cell? ⟨Z, 1, none⟩ = some (.string r.f) := K5.out.cell 1
        obtain ⟨d0, d1, g0, g1⟩ := HX.out _ HB5.out
        have q1 : Z ≠ w.heap.size := fun e => by have := box_ne K5.out (HX2.out _ HB5.out) (by decide); omega
        have q2 : w.heap.size ≠ Z := fun e => q1 e.symm
        have q3 : ∀ u, (w7.setCell ⟨w.heap.size, 0, none⟩ u).cell? ⟨Z, 0, none⟩ = some (.string r.k) := fun u => (K5.out.other w.heap.size 0 q2 u).cell 0
        have q4 : ∀ u v, ((w7.setCell ⟨w.heap.size, 0, none⟩ u).setCell ⟨w.heap.size, 1, none⟩ v).cell? ⟨Z, 1, none⟩ = some (.string r.f) := fun u v => ((K5.out.other w.heap.size 0 q2 u).other w.heap.size 1 q2 v).cell 1
        have HE : Hid _ := fun u0 u1 => HEnd.out w7 r.k r.f u0 u1 HD5.out HB5.out hr.out.1 hr.out.2
        have HE2 : Hid _ := fun u0 u1 => drew_end5 (HEnd.out w7 r.k r.f u0 u1 HD5.out HB5.out hr.out.1 hr.out.2)
        clear HEnd HX HX2 HD5 HB5 K5 hr
        go_wp2_with fail
        go_region
        all_goals
          go_wp2_with fail
          refine bodyPost_ret (v := .tuple #[.agg #[.slice (some ⟨bq, 0, none⟩) rs.length e1, .slice f2 hs.length e2], .string r.k, .string r.f]) (by simp [results, Try.results6, go_sem, d0, d1]) rfl ?_
          first | with_reducible exact HE2.out _ _ | with_reducible exact HE.out _ _
    · obtain ⟨d0, d1, g0, g1⟩ := HX.out _ HB4.out
      have HE : Hid _ := fun u0 u1 => HEnd.out x4 ⟨#[117, 115, 101, 114]⟩ ⟨#[122, 105, 112]⟩ u0 u1 HD4.out HB4.out (by decide) (by decide)
      clear HEnd HX HD4 HB4 h0
      go_wp2_with fail
      refine bodyPost_ret (v := .tuple #[.agg #[.slice f1 rs.length e1, .slice f2 hs.length e2], .string ⟨#[117, 115, 101, 114]⟩, .string ⟨#[122, 105, 112]⟩]) (by simp [results, Try.results6, go_sem, d0, d1]) rfl ?_
      exact HE.out _ _
set_option maxHeartbeats 8000000 in
theorem drawFree_any (B : Nat) (a : Option Addr) (len cap : Nat) (w : World) (hlen : len ≤ 1048576) (hB : B ≤ w.heap.size) (hc : CodeAt B a len w) :
    Calls Try.prog 9 #[.slice a len cap] w fun e w' => (∃ (v1 v2 : Value) (rs : List Rul) (hs : List Int) (q : Int), e = .returned (.tuple #[.agg #[v1, v2], .int .i64 q]) ∧ PolO w.heap.size rs hs v1 v2 w' ∧ PlD 7 8 rs hs) ∧ Below w.heap.size w w' := by
  obtain ⟨W2, hW2⟩ : ∃ W2, W2 = w.alloc (.cells #[.slice none 0 0, .slice none 0 0] 26) := ⟨_, rfl⟩
  have HW2 : Hid (W2 = w.alloc (.cells #[.slice none 0 0, .slice none 0 0] 26)) := hW2
  have b2 : Hid (Below w.heap.size w W2) := by rw [hW2]; exact (Below.refl _ _).alloc (Nat.le_refl _) _
  have K0 : Bxs W2 w.heap.size 26 #[.slice none 0 0, .slice none 0 0] := by rw [hW2]; exact Bxs.new _ _ _
  have hz2 : Hid (W2.heap.size = w.heap.size + 1) := by rw [hW2]; show _ = _; simp
  have HX : Hid (∀ x, Below W2.heap.size W2 x → x.cell? ⟨w.heap.size, 0, none⟩ = some (.slice none 0 0) ∧ x.cell? ⟨w.heap.size, 1, none⟩ = some (.slice none 0 0) ∧ x.frozen? ⟨w.heap.size, 0, none⟩ = false ∧ x.frozen? ⟨w.heap.size, 1, none⟩ = false) := fun x hb => by
    have k0 := K0.below hb
    exact ⟨k0.cell 0, k0.cell 1, k0.fr 0, k0.fr 1⟩
  have hB2 : B ≤ W2.heap.size := by have := hz2.out; omega
  have HC : Hid (CodeAt B a len W2) := hc.below (b2.out.mono hB)
  have hD := drawHold_any B a len cap W2 hlen hB2 HC.out
  clear hW2 hc K0
  go_enter Try.func9, Try.ntmps9
  go_wp2_with fail
  rw [← HW2.out]
  refine hD.mono ?_
  rintro e y1 ⟨⟨v1, v2, rs, hs, q0, rfl, ow, ok⟩, bb⟩
  obtain ⟨f1, e1, f2, e2, rfl, rfl, m1, m2⟩ := ow.form
  have hz1 := bb.size
  have HO : Hid (PolO W2.heap.size rs hs (.slice f1 rs.length e1) (.slice f2 hs.length e2) (y1.alloc (.cells #[.slice f1 rs.length e1, .slice f2 hs.length e2] 26))) := ow.below ((Below.refl _ _).alloc (Nat.le_refl _) _)
  have HK : Hid (Bxs (y1.alloc (.cells #[.slice f1 rs.length e1, .slice f2 hs.length e2] 26)) y1.heap.size 26 #[.slice f1 rs.length e1, .slice f2 hs.length e2]) := Bxs.new _ _ _
  have HB : Hid (Below W2.heap.size W2 (y1.alloc (.cells #[.slice f1 rs.length e1, .slice f2 hs.length e2] 26))) := bb.alloc bb.size _
  have HP : Hid (PlD 7 8 rs hs) := ok
  clear ow ok bb hD HW2
  go_upto_region 2 with fail
  generalize y1.alloc (.cells #[.slice f1 rs.length e1, .slice f2 hs.length e2] 26) = x2 at *
  generalize y1.heap.size = X at *
  have hB3 : B ≤ x2.heap.size := by have := HB.out.size; omega
  have hW3 : W2.heap.size ≤ x2.heap.size := HB.out.size
  have HC2 : Hid (CodeAt B a len x2) := HC.out.below (HB.out.mono hB2)
  go_wp2_with fail
  refine (source_any B a len cap x2 hlen hB3 HC2.out).mono ?_
  rintro e y3 ⟨rfl, s3, b3⟩
  have HO3 : Hid (PolO W2.heap.size rs hs (.slice f1 rs.length e1) (.slice f2 hs.length e2) y3) := HO.out.below b3
  have HK3 : Hid (Bxs y3 X 26 #[.slice f1 rs.length e1, .slice f2 hs.length e2]) := HK.out.below b3
  have HB3 : Hid (Below W2.heap.size W2 y3) := chainB HB.out b3
  have HS3 : Hid (Src 68 B x2.heap.size a len cap y3) := s3
  have lX := HK.out.lt
  have lo1 := HO.out.lt
  clear HO HK HB s3 b3 HC HC2
  have HEnd : Hid (∀ (x : World) (q : Int) (u0 u1 : Value), PolO W2.heap.size rs hs (.slice f1 rs.length e1) (.slice f2 hs.length e2) x → Below W2.heap.size W2 x → (∃ (v1 v2 : Value) (rs' : List Rul) (hs' : List Int) (q' : Int), Ending.returned (.tuple #[.agg #[.slice f1 rs.length e1, .slice f2 hs.length e2], .int .i64 q]) = .returned (.tuple #[.agg #[v1, v2], .int .i64 q']) ∧ PolO w.heap.size rs' hs' v1 v2 ((x.setCell ⟨w.heap.size, 0, none⟩ u0).setCell ⟨w.heap.size, 1, none⟩ u1) ∧ PlD 7 8 rs' hs') ∧ Below w.heap.size w ((x.setCell ⟨w.heap.size, 0, none⟩ u0).setCell ⟨w.heap.size, 1, none⟩ u1)) := fun x q u0 u1 ho hb => by
    have hzz := hz2.out
    exact ⟨⟨_, _, rs, hs, q, rfl, ((ho.set (by omega) 0 u0).set (by omega) 1 u1).lower (by omega), HP.out⟩, below_set2 (chainB b2.out hb) (Nat.le_refl _) _ _⟩
  by_cases h0 : hs.length = 0
  · have n0 : decide (0 < hs.length) = false := decide_eq_false (by omega)
    have n0i : decide ((0 : Int) < hs.length) = false := decide_eq_false (by omega)
    have c0 : y3.cell? ⟨X, 0, none⟩ = some (.slice f1 rs.length e1) := HK3.out.cell 0
    have c1 : y3.cell? ⟨X, 1, none⟩ = some (.slice f2 hs.length e2) := HK3.out.cell 1
    obtain ⟨d0, d1, g0, g1⟩ := HX.out _ HB3.out
    have HE : Hid _ := fun u0 u1 => HEnd.out y3 q0 u0 u1 HO3.out HB3.out
    clear HEnd HX HO3 HK3 HB3 HS3 h0 lo1
    go_wp2_with fail
    refine bodyPost_ret (v := .tuple #[.agg #[.slice f1 rs.length e1, .slice f2 hs.length e2], .int .i64 q0]) (by simp [results, Try.results9, go_sem, d0, d1]) rfl ?_
    exact HE.out _ _
  · have n0 : decide (0 < hs.length) = true := decide_eq_true (by omega)
    have n0i : decide ((0 : Int) < hs.length) = true := decide_eq_true (by omega)
    have c0 : y3.cell? ⟨X, 0, none⟩ = some (.slice f1 rs.length e1) := HK3.out.cell 0
    have c1 : y3.cell? ⟨X, 1, none⟩ = some (.slice f2 hs.length e2) := HK3.out.cell 1
    go_wp2_with fail
    refine (one_any B x2.heap.size a len cap 2 _ HS3.out (by omega)).mono ?_
    rintro e y4 ⟨⟨b, rfl⟩, s4, g4⟩
    have HO4 : Hid (PolO W2.heap.size rs hs (.slice f1 rs.length e1) (.slice f2 hs.length e2) y4) := HO3.out.touch g4 (fun e => by have := (lo1.1 _ e.symm).2; omega) (fun e => by have := (lo1.2 _ e.symm).2; omega)
    have HK4 : Hid (Bxs y4 X 26 #[.slice f1 rs.length e1, .slice f2 hs.length e2]) := (g4.block X HK3.out.lt (fun e => by cases e; omega)).trans HK3.out
    have HB4 : Hid (Below W2.heap.size W2 y4) := below_touch HB3.out g4 hW3
    clear HO3 HK3 HB3 HS3 s4 g4 c0 c1 lo1
    have c0 : y4.cell? ⟨X, 0, none⟩ = some (.slice f1 rs.length e1) := HK4.out.cell 0
    have c1 : y4.cell? ⟨X, 1, none⟩ = some (.slice f2 hs.length e2) := HK4.out.cell 1
    obtain ⟨d0, d1, g0, g1⟩ := HX.out _ HB4.out
    cases b
    · have HE : Hid _ := fun u0 u1 => HEnd.out y4 q0 u0 u1 HO4.out HB4.out
      clear HEnd HX HO4 HK4 HB4 h0
      go_wp2_with fail
      refine bodyPost_ret (v := .tuple #[.agg #[.slice f1 rs.length e1, .slice f2 hs.length e2], .int .i64 q0]) (by simp [results, Try.results9, go_sem, d0, d1]) rfl ?_
      exact HE.out _ _
    · obtain ⟨bq, hbq⟩ : ∃ b, f2 = some ⟨b, 0, none⟩ := by
        rcases HO4.out.own2.2 with ⟨-, h1⟩ | ⟨g, cp, cur, h1, -⟩
        · omega
        · cases h1; exact ⟨g, rfl⟩
      subst hbq
      obtain ⟨h, hk0⟩ : ∃ h : Int, y4.cell? ⟨bq, 0, none⟩ = some (.int .i64 h) := by
        have := HO4.out.read.2.at 0 (by omega)
        exact ⟨_, by simpa using this⟩
      have l0 : (0 : Int) < hs.length := by omega
      have l0n : 0 < hs.length := by omega
      have hnb : bq ≠ w.heap.size := fun e => by have := (HO4.out.lt.2 bq rfl).1; have := hz2.out; omega
      have q2 : w.heap.size ≠ bq := fun e => hnb e.symm
      have q3 : ∀ u, (y4.setCell ⟨w.heap.size, 0, none⟩ u).cell? ⟨bq, 0, none⟩ = some (.int .i64 h) := fun u => (cell_far y4 q2 0 0 u).trans hk0
      have HE : Hid _ := fun u0 u1 => HEnd.out y4 h u0 u1 HO4.out HB4.out
      have hWX : X ≠ w.heap.size := by have := hz2.out; omega
      have q5 : w.heap.size ≠ X := fun e => hWX e.symm
      have q6 : ∀ u v, ((y4.setCell ⟨w.heap.size, 0, none⟩ u).setCell ⟨w.heap.size, 1, none⟩ v).cell? ⟨X, 1, none⟩ = some (.slice (some ⟨bq, 0, none⟩) hs.length e2) := fun u v => by rw [cell_far _ q5, cell_far _ q5]; exact c1
      have HE2 : Hid _ := fun u0 u1 => drew_end4 (HEnd.out y4 h u0 u1 HO4.out HB4.out)
      clear HEnd HX HO4 HK4 HB4 h0
      go_wp2_with fail
      go_region
      all_goals
        go_wp2_with fail
        refine bodyPost_ret (v := .tuple #[.agg #[.slice f1 rs.length e1, .slice (some ⟨bq, 0, none⟩) hs.length e2], .int .i64 h]) (by simp [results, Try.results9, go_sem, d0, d1]) rfl ?_
        first | with_reducible exact HE2.out _ _ | with_reducible exact HE.out _ _
end Go.Proofs.Ytbgpkngnlfafcaa
