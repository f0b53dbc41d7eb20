/-
  Parts of one proof, laid as one text: Some, DrawFld, DrawRul, DrawPo; what each says stands at its head.
-/
import Derived.Test.YtbgpkngnlfafcaaRows
import Derived.Test.YtbgpkngnlfafcaaBytes
import Derived.Test.YtbgpkngnlfafcaaSlA
import Derived.Test.YtbgpkngnlfafcaaSlB
import Derived.Test.YtbgpkngnlfafcaaOwnS
import Derived.Test.YtbgpkngnlfafcaaAppS
import Derived.Test.YtbgpkngnlfafcaaSrc
import Derived.Test.YtbgpkngnlfafcaaDraws
import Derived.Test.YtbgpkngnlfafcaaDrawKit
import Derived.Handy
import Derived.WalkSpells
import Derived.OwnWalk
import Derived.Test.YtbgpkngnlfafcaaBxK
import Derived.Test.YtbgpkngnlfafcaaRulMath
import Derived.Test.YtbgpkngnlfafcaaRulBlk
import Derived.Deep.Cut
import Derived.Deep.CutRange
import Derived.Deep.RegionWith
import Derived.Test.YtbgpkngnlfafcaaStepApp
import Derived.Test.YtbgpkngnlfafcaaTakesL
import Derived.Test.YtbgpkngnlfafcaaIntK
import Derived.Test.YtbgpkngnlfafcaaPolMath
import Derived.Test.YtbgpkngnlfafcaaPolIdx
import Derived.Test.YtbgpkngnlfafcaaRulIdx
import Derived.Test.YtbgpkngnlfafcaaLawI
import Derived.Test.YtbgpkngnlfafcaaRowOps
import Derived.Test.YtbgpkngnlfafcaaPolO
import Derived.Test.YtbgpkngnlfafcaaPolAns
import Derived.Test.YtbgpkngnlfafcaaDelI
import Derived.Test.YtbgpkngnlfafcaaDelR
import Derived.Test.YtbgpkngnlfafcaaSpecHe
/-
  What l03Some draws: at most 30 texts of at most 101 bytes each, in a row that the call owns. The source's block alone is written.
  Conditions: the source is one ('Src').
-/
namespace Go.Proofs.Ytbgpkngnlfafcaa
open Go.RowKit Go.Lib
set_option linter.unusedVariables false
set_option maxRecDepth 20000

theorem BlkS.touch {w w' : World} {g p : Nat} {l : List ByteArray} (h : BlkS w g l) (hg : w.grownBy w' (some p)) (hne : g ≠ p) : BlkS w' g l := by
  unfold BlkS at *; rw [hg.block g (lt_of_block h) (fun e => hne (by cases e; rfl))]; exact h
theorem append_size (s t : ByteArray) : (s ++ t).size = s.size + t.size := by simp

set_option maxHeartbeats 1000000 in
theorem pick_any (B p : Nat) (a : Option Addr) (len cap : Nat) (g : Nat) (ss : List ByteArray) (w : World) (hs : Src 68 B p a len cap w) (hb : BlkS w g ss) (hne : g ≠ p) (h0 : 0 < ss.length) (hn : ss.length ≤ 1048576) :
    Calls Try.prog 43 #[.pointer (some ⟨p, 0, none⟩), .slice (some ⟨g, 0, none⟩) ss.length ss.length] w fun e w' =>
      (∃ t ∈ ss, e = .returned (.string t)) ∧ Src 68 B p a len cap w' ∧ w.grownBy w' (some p) := by
  have HS : Hid (Src 68 B p a len cap w) := hs
  have HB : Hid (BlkS w g ss) := hb
  clear hs hb
  go_enter Try.func43, Try.ntmps43
  go_wp2_with fail
  refine (n_any B p a len cap _ _ HS.out (by omega)).mono ?_
  rintro e w1 ⟨⟨r, rfl, hr0, hr1, hr2⟩, hs1, hg1⟩
  obtain ⟨k, rfl⟩ := Int.eq_ofNat_of_zero_le hr0
  have hk : k < ss.length := by
    by_cases h1 : (1 : Int) < ss.length
    · have := hr1 h1; omega
    · have := hr2 (by omega); omega
  have hc := ((HB.out.touch hg1 hne).cell k hk).1
  have HM : Hid (ss[k] ∈ ss) := List.getElem_mem hk
  have H1 : Hid (Src 68 B p a len cap w1) := hs1
  clear hs1 hr1 hr2
  generalize ss[k] = t at *
  have i1 : (k : Int) < ss.length := by omega
  go_wp2
  go_ret
  exact ⟨⟨t, HM.out, rfl⟩, H1.out, hg1⟩

theorem app_one (w : World) (base : Nat) (v : Value) (l : List ByteArray) (own : w.ownsRow base 9 1 v l.length (strRow l)) (T : ByteArray) (hl : l.length + 1 ≤ 1048576) (hbase : base ≤ w.heap.size) :
    ∃ v' w', (Builtin.append_ #[70, 70] 70 #[v, .slice (some ⟨w.heap.size, 0, none⟩) 1 1]).run Try.prog (w.alloc (.cells #[.string T] 9)) = .ok v' w' ∧ w'.ownsRow base 9 1 v' (l ++ [T]).length (strRow (l ++ [T])) ∧ (w.alloc (.cells #[.string T] 9)).grownBy w' v.ownBlock :=
  app_texts (w.alloc (.cells #[.string T] 9)) base v l (own.alloc _) (some ⟨w.heap.size, 0, none⟩) 1 [T] (alloc_str w [T]).txt hl (by simp; omega)
/-- What an append to an own row leaves of a source and of what was there. -/
theorem app_leaves {T : TypeId} {B p : Nat} {a : Option Addr} {len cap : Nat} {w0 w w' : World} {e : TypeId} {v : Value} {n : Nat} {xs : List Value} {x : Obj} (own : w.ownsRow w0.heap.size e 1 v n xs) (hs : Src T B p a len cap w) (hp : p < w0.heap.size) (hg : w0.grownBy w (some p)) (h : (w.alloc x).grownBy w' v.ownBlock) :
    Src T B p a len cap w' ∧ w0.grownBy w' (some p) := by
  have hrow : ∀ j, v.ownBlock = some j → w0.heap.size ≤ j := fun j hj => (own.lt j hj).1
  exact ⟨(hs.below ((Below.refl _ _).alloc (Nat.le_refl _) _)).other h (fun j hj => by have := hrow j hj; omega), touch_own (touch_below hg ((Below.refl _ _).alloc (Nat.le_refl _) _)) h hrow⟩

def fourS : List ByteArray := [⟨#[97]⟩, ⟨#[98]⟩, ⟨#[]⟩, ⟨#[101, 110, 116, 114, 121]⟩]
theorem fourS_small : ∀ t ∈ fourS, t.size ≤ 5 := by decide

end Go.Proofs.Ytbgpkngnlfafcaa
/-
  What l07Name, l07Salt and l07Value draw: texts of at most 21, 9 and 17 bytes. The source's block alone is written.
  Conditions: the source is one ('Src').
-/
namespace Go.Proofs.Ytbgpkngnlfafcaa
open Go.RowKit Go.Lib
set_option linter.unusedVariables false
set_option maxRecDepth 20000

def nameS3 : List ByteArray := [⟨#[]⟩, ⟨#[65]⟩, ⟨#[49, 50, 51, 52, 53, 54, 55, 56, 57, 48, 49, 50, 51, 52, 53, 54, 55, 56, 57, 48, 49]⟩]
def nameS4 : List ByteArray := [⟨#[110, 97, 109, 101]⟩, ⟨#[109, 97, 105, 108]⟩, ⟨#[97, 103, 101]⟩, ⟨#[116, 111, 119, 110]⟩]
def valS4 : List ByteArray := [⟨#[]⟩, ⟨#[97, 110, 110]⟩, ⟨#[52, 50]⟩, ⟨#[120, 32, 121]⟩]
theorem nameS3_small : ∀ t ∈ nameS3, t.size ≤ 21 := by decide
theorem nameS4_small : ∀ t ∈ nameS4, t.size ≤ 21 := by decide
theorem valS4_small : ∀ t ∈ valS4, t.size ≤ 17 := by decide

set_option maxHeartbeats 1000000 in
theorem l07Name_any (B p : Nat) (a : Option Addr) (len cap : Nat) (w : World) (hs : Src 68 B p a len cap w) :
    Calls Try.prog 44 #[.pointer (some ⟨p, 0, none⟩)] w fun e w' =>
      (∃ t : ByteArray, e = .returned (.string t) ∧ t.size ≤ 21) ∧ Src 68 B p a len cap w' ∧ w.grownBy w' (some p) := by
  have HS : Hid (Src 68 B p a len cap w) := hs
  clear hs
  go_enter Try.func44, Try.ntmps44
  go_wp2_with fail
  refine (one_any B p a len cap 25 _ HS.out (by omega)).mono ?_
  rintro e w1 ⟨⟨r, rfl⟩, hs1, hg1⟩
  have hp := hs1.lt
  cases r with
  | true =>
    have HB : Hid (BlkS (w1.alloc (.cells (strRow nameS3).toArray 9)) w1.heap.size nameS3) := alloc_str w1 nameS3
    have H1 : Hid (Src 68 B p a len cap (w1.alloc (.cells (strRow nameS3).toArray 9))) := hs1.below ((Below.refl _ _).alloc (Nat.le_refl _) _)
    clear hs1
    go_wp2_with fail
    refine (pick_any B p a len cap w1.heap.size nameS3 _ H1.out HB.out (by omega) (by decide) (by decide)).mono ?_
    rintro e w2 ⟨⟨t, ht, rfl⟩, hs2, hg2⟩
    have HG : Hid (w.grownBy w2 (some p)) := touch_trans hg1 (touch_trans (World.grownBy_alloc w1 _ (some p)) hg2)
    have HS2 : Hid (Src 68 B p a len cap w2) := hs2
    have h5 := nameS3_small t ht
    clear hs2 hg2 hg1 ht HB H1
    go_wp2_with fail
    go_ret
    exact ⟨⟨t, rfl, h5⟩, HS2.out, HG.out⟩
  | false =>
    have HB : Hid (BlkS (w1.alloc (.cells (strRow nameS4).toArray 9)) w1.heap.size nameS4) := alloc_str w1 nameS4
    have H1 : Hid (Src 68 B p a len cap (w1.alloc (.cells (strRow nameS4).toArray 9))) := hs1.below ((Below.refl _ _).alloc (Nat.le_refl _) _)
    clear hs1
    go_wp2_with fail
    refine (pick_any B p a len cap w1.heap.size nameS4 _ H1.out HB.out (by omega) (by decide) (by decide)).mono ?_
    rintro e w2 ⟨⟨t, ht, rfl⟩, hs2, hg2⟩
    have HG : Hid (w.grownBy w2 (some p)) := touch_trans hg1 (touch_trans (World.grownBy_alloc w1 _ (some p)) hg2)
    have HS2 : Hid (Src 68 B p a len cap w2) := hs2
    have h5 := nameS4_small t ht
    clear hs2 hg2 hg1 ht HB H1
    go_wp2_with fail
    go_ret
    exact ⟨⟨t, rfl, h5⟩, HS2.out, HG.out⟩

theorem salt_at : ∀ k : Nat, k < 3 → ∃ v : Nat, (#[.int .i64 0, .int .i64 8, .int .i64 9] : Array Value)[k]? = some (.int .i64 (v : Int)) ∧ v ≤ 9
  | 0, _ => ⟨0, rfl, by omega⟩
  | 1, _ => ⟨8, rfl, by omega⟩
  | 2, _ => ⟨9, rfl, by omega⟩
  | k + 3, h => by omega
end Go.Proofs.Ytbgpkngnlfafcaa
/-
  What l10Rule draws: a rule with texts of at most 21 bytes. The source's block alone is written.
  Conditions: the source is one ('Src').
-/
namespace Go.Proofs.Ytbgpkngnlfafcaa
open Go.RowKit Go.Lib
set_option linter.unusedVariables false
set_option maxRecDepth 20000

def kindS2 : List ByteArray := [⟨#[117, 115, 101, 114]⟩, ⟨#[98, 105, 108, 108]⟩]
def fieldS4 : List ByteArray := [⟨#[97, 103, 101]⟩, ⟨#[109, 97, 105, 108]⟩, ⟨#[110, 97, 109, 101]⟩, ⟨#[116, 111, 119, 110]⟩]
theorem kindS2_small : ∀ t ∈ kindS2, t.size ≤ 21 := by decide
theorem fieldS4_small : ∀ t ∈ fieldS4, t.size ≤ 21 := by decide
/-- A rule as it is drawn. -/
def RuD (r : Rul) : Prop := r.k.size ≤ 21 ∧ r.f.size ≤ 21
theorem cell_grown (x : World) (g i : Nat) (v : Value) : x.grownBy (x.setCell ⟨g, i, none⟩ v) (some g) := touch_set (World.grownBy.refl _ _) i v
section
variable {w0 x x' : World} {B p : Nat} {a : Option Addr} {len cap X : Nat} {r r' : Rul}
/-- A rule in a box beside the source. -/
structure RuS (w0 : World) (B p : Nat) (a : Option Addr) (len cap X : Nat) (r : Rul) (x : World) : Prop where
  src : Src 68 B p a len cap x
  gr : w0.grownBy x (some p)
  hp : p < w0.heap.size
  hX : w0.heap.size ≤ X
  box : Bxs x X 28 #[.string r.k, .string r.f, .int .i64 r.l, .int .i64 r.m]
theorem RuS.step (h : RuS w0 B p a len cap X r x) (hs : Src 68 B p a len cap x') (hg : x.grownBy x' (some p)) : RuS w0 B p a len cap X r x' := by
  have hp := h.hp
  have hX := h.hX
  exact ⟨hs, touch_trans h.gr hg, hp, hX, (hg.block X h.box.lt (fun e => by cases e; omega)).trans h.box⟩
theorem RuS.below (h : RuS w0 B p a len cap X r x) (hb : Below x.heap.size x x') : RuS w0 B p a len cap X r x' := ⟨h.src.below hb, touch_below h.gr hb, h.hp, h.hX, h.box.below hb⟩
theorem RuS.drew (h : RuS w0 B p a len cap X r x) : RuS w0 B p a len cap X r x.drew := h.below (Below.refl _ _).drew
theorem RuS.set (h : RuS w0 B p a len cap X r x) (i : Nat) (v : Value) (hc : (#[.string r.k, .string r.f, .int .i64 r.l, .int .i64 r.m] : Array Value).setIfInBounds i v = #[.string r'.k, .string r'.f, .int .i64 r'.l, .int .i64 r'.m]) : RuS w0 B p a len cap X r' (x.setCell ⟨X, i, none⟩ v) := by
  have hp := h.hp
  have hX := h.hX
  have hb := h.box.set i v
  rw [hc] at hb
  exact ⟨h.src.other (cell_grown x X i v) (fun j hj => by cases hj; omega), touch_own h.gr (cell_grown x X i v) (fun j hj => by cases hj; exact hX), hp, hX, hb⟩
theorem RuS.cells (h : RuS w0 B p a len cap X r x) : x.cell? ⟨X, 0, none⟩ = some (.string r.k) ∧ x.cell? ⟨X, 1, none⟩ = some (.string r.f) ∧ x.cell? ⟨X, 2, none⟩ = some (.int .i64 r.l) ∧ x.cell? ⟨X, 3, none⟩ = some (.int .i64 r.m) ∧ x.frozen? ⟨X, 0, none⟩ = false ∧ x.frozen? ⟨X, 1, none⟩ = false ∧ x.frozen? ⟨X, 2, none⟩ = false ∧ x.frozen? ⟨X, 3, none⟩ = false := ⟨h.box.cell 0, h.box.cell 1, h.box.cell 2, h.box.cell 3, h.box.fr 0, h.box.fr 1, h.box.fr 2, h.box.fr 3⟩
end

set_option maxHeartbeats 4000000 in
theorem drawnRule_any (B p : Nat) (a : Option Addr) (len cap : Nat) (w : World) (hs : Src 68 B p a len cap w) :
    Calls Try.prog 21 #[.pointer (some ⟨p, 0, none⟩)] w fun e w' =>
      (∃ r : Rul, e = .returned (.agg #[.string r.k, .string r.f, .int .i64 r.l, .int .i64 r.m]) ∧ RuD r) ∧ Src 68 B p a len cap w' ∧ w.grownBy w' (some p) := by
  have hp := hs.lt
  obtain ⟨W1, hW1⟩ : ∃ W1, W1 = w.alloc (.cells #[.string ⟨#[]⟩, .string ⟨#[]⟩, .int .i64 0, .int .i64 0] 28) := ⟨_, rfl⟩
  have HW1 : Hid (W1 = w.alloc (.cells #[.string ⟨#[]⟩, .string ⟨#[]⟩, .int .i64 0, .int .i64 0] 28)) := hW1
  have B1 : Below w.heap.size w W1 := by rw [hW1]; exact (Below.refl _ _).alloc (Nat.le_refl _) _
  have R1 : Bxs W1 w.heap.size 28 #[.string ⟨#[]⟩, .string ⟨#[]⟩, .int .i64 0, .int .i64 0] := by rw [hW1]; exact Bxs.new _ _ _
  have z1 : Hid (W1.heap.size = w.heap.size + 1) := by rw [hW1]; show _ = _; simp
  have HRes : Hid (∀ x, W1.grownBy x (some p) → x.cell? ⟨w.heap.size, 0, none⟩ = some (.string ⟨#[]⟩) ∧ x.cell? ⟨w.heap.size, 1, none⟩ = some (.string ⟨#[]⟩) ∧ x.cell? ⟨w.heap.size, 2, none⟩ = some (.int .i64 0) ∧ x.cell? ⟨w.heap.size, 3, none⟩ = some (.int .i64 0) ∧ x.frozen? ⟨w.heap.size, 0, none⟩ = false ∧ x.frozen? ⟨w.heap.size, 1, none⟩ = false ∧ x.frozen? ⟨w.heap.size, 2, none⟩ = false ∧ x.frozen? ⟨w.heap.size, 3, none⟩ = false) := fun x hg => by
    have k := (hg.block w.heap.size R1.lt (fun e => by cases e; omega)).trans R1
    exact ⟨Bxs.cell k 0, Bxs.cell k 1, Bxs.cell k 2, Bxs.cell k 3, Bxs.fr k 0, Bxs.fr k 1, Bxs.fr k 2, Bxs.fr k 3⟩
  have HEnd : Hid (∀ (x : World) (y0 y1 y2 y3 : Value), Src 68 B p a len cap x → W1.grownBy x (some p) → Src 68 B p a len cap ((((x.setCell ⟨w.heap.size, 0, none⟩ y0).setCell ⟨w.heap.size, 1, none⟩ y1).setCell ⟨w.heap.size, 2, none⟩ y2).setCell ⟨w.heap.size, 3, none⟩ y3) ∧ w.grownBy ((((x.setCell ⟨w.heap.size, 0, none⟩ y0).setCell ⟨w.heap.size, 1, none⟩ y1).setCell ⟨w.heap.size, 2, none⟩ y2).setCell ⟨w.heap.size, 3, none⟩ y3) (some p)) := by
    intro x y0 y1 y2 y3 hsr hgr
    have hg : x.grownBy ((((x.setCell ⟨w.heap.size, 0, none⟩ y0).setCell ⟨w.heap.size, 1, none⟩ y1).setCell ⟨w.heap.size, 2, none⟩ y2).setCell ⟨w.heap.size, 3, none⟩ y3) (some w.heap.size) := touch_set (touch_set (touch_set (cell_grown x _ 0 y0) 1 y1) 2 y2) 3 y3
    exact ⟨hsr.other hg (fun j hj => by cases hj; exact hp), touch_own (touch_trans (⟨B1.os, B1.tape, B1.output, B1.size, fun k hk _ => B1.block k hk⟩ : w.grownBy W1 (some p)) hgr) hg (fun j hj => by cases hj; exact Nat.le_refl _)⟩
  have hp1 : p < W1.heap.size := by have := z1.out; omega
  have hs1 := hs.below B1
  have HB1 : Hid (BlkS (W1.alloc (.cells (strRow kindS2).toArray 9)) (w.heap.size + 1) kindS2) := by
    have h := alloc_str W1 kindS2
    rw [z1.out] at h
    exact h
  have H1 : Hid (Src 68 B p a len cap (W1.alloc (.cells (strRow kindS2).toArray 9))) := hs1.below ((Below.refl _ _).alloc (Nat.le_refl _) _)
  clear hW1 hs hs1 B1 R1
  go_enter Try.func21, Try.ntmps21
  go_wp2_with fail
  rw [← HW1.out]
  refine (pick_any B p a len cap (w.heap.size + 1) kindS2 _ H1.out HB1.out (by omega) (by decide) (by decide)).mono ?_
  rintro e y1 ⟨⟨t, ht, rfl⟩, hs1, hg1⟩
  have t1 := kindS2_small t ht
  have HG1 : Hid (W1.grownBy y1 (some p)) := touch_trans (World.grownBy_alloc W1 _ (some p)) hg1
  have hz1 := hg1.size
  have HB2 : Hid (BlkS (y1.alloc (.cells (strRow fieldS4).toArray 9)) y1.heap.size fieldS4) := alloc_str y1 fieldS4
  have H2 : Hid (Src 68 B p a len cap (y1.alloc (.cells (strRow fieldS4).toArray 9))) := hs1.below ((Below.refl _ _).alloc (Nat.le_refl _) _)
  have hpy1 := hs1.lt
  clear HB1 H1 HW1 ht hs1 hg1
  go_wp2_with fail
  refine (pick_any B p a len cap y1.heap.size fieldS4 _ H2.out HB2.out (by omega) (by decide) (by decide)).mono ?_
  rintro e y2 ⟨⟨u, hu, rfl⟩, hs2, hg2⟩
  have u1 := fieldS4_small u hu
  have HG2 : Hid (W1.grownBy y2 (some p)) := touch_trans (touch_trans HG1.out (World.grownBy_alloc y1 _ (some p))) hg2
  have HS2 : Hid (Src 68 B p a len cap y2) := hs2
  clear HB2 H2 hu hs2 hg2 HG1 hz1 hpy1
  go_wp2_with fail
  refine (n_any B p a len cap 6 _ HS2.out (by omega)).mono ?_
  rintro e y3 ⟨⟨l, rfl, l0, l1, -⟩, hs3, hg3⟩
  have l2 := l1 (by omega)
  have hg30 := touch_trans HG2.out hg3
  have HD3 : Hid (RuS W1 B p a len cap y3.heap.size ⟨t, u, l, 0⟩ (y3.alloc (.cells #[.string t, .string u, .int .i64 l, .int .i64 0] 28))) := ⟨hs3.below ((Below.refl _ _).alloc (Nat.le_refl _) _), touch_below hg30 ((Below.refl _ _).alloc (Nat.le_refl _) _), hp1, hg30.size, Bxs.new _ _ _⟩
  clear HS2 HG2 l1 hs3 hg3 hg30 z1
  go_upto_region 2 with fail
  generalize y3.alloc (.cells #[.string t, .string u, .int .i64 l, .int .i64 0] 28) = x3 at *
  generalize y3.heap.size = X at *
  have QN : Hid (∀ x, RuS W1 B p a len cap X ⟨t, u, l, 0⟩ x → Calls Try.prog 28 #[.pointer (some ⟨p, 0, none⟩), .int .i64 9] x fun e x1 => ∃ q : Int, e = .returned (.int .i64 q) ∧ 0 ≤ q ∧ q ≤ 8 ∧ RuS W1 B p a len cap X ⟨t, u, l, 0⟩ x1) := fun x h => (n_any B p a len cap 9 x h.src (by omega)).mono (by
    rintro e x1 ⟨⟨q, rfl, q0, q1, -⟩, s1, g1⟩
    exact ⟨q, rfl, q0, by have := q1 (by omega); omega, h.step s1 g1⟩)
  obtain ⟨c0, c1, c2, c3, f0, f1, f2, f3⟩ := HD3.out.cells
  go_cut [3] from 13 to 18 (fun s3 wx => s3 = .pointer (some ⟨X, 0, none⟩) ∧ ∃ m : Int, Hid (RuS W1 B p a len cap X ⟨t, u, l, m⟩ wx) ∧ 0 ≤ m ∧ m ≤ 13)
  case first =>
    go_region_with (first
      | (go_at_call 28; refine (QN.out _ (by first | exact HD3.out | exact HD3.out.drew)).mono ?_; rintro e x1 ⟨q, rfl, q0, q8, t3⟩; obtain ⟨d0, d1, d2, d3, e0, e1, e2, e3⟩ := t3.cells; have hw : IntKind.i64.wrap (l + q) = l + q := by rw [IntKind.wrap_i64]; omega))
    all_goals
      have HN : Hid (RuS W1 B p a len cap X ⟨t, u, l, l + q⟩ (x1.setCell ⟨X, 3, none⟩ (.int .i64 (l + q)))) := t3.set 3 _ rfl
      clear t3 QN
      go_wp2_with fail
      go_meet
      exact ⟨rfl, l + q, HN, by omega, by omega⟩
  case rest =>
    clear c0 c1 c2 c3 f0 f1 f2 f3 QN HD3
    obtain ⟨rfl, m, HD4, m0, m1⟩ := hcut
    go_wp2_with fail
    refine (one_any B p a len cap 15 _ HD4.out.src (by omega)).mono ?_
    rintro e y5 ⟨⟨b, rfl⟩, hs5, hg5⟩
    have HD5 : Hid (RuS W1 B p a len cap X ⟨t, u, l, m⟩ y5) := HD4.out.step hs5 hg5
    clear HD4 hs5 hg5
    cases b
    · obtain ⟨c0, c1, c2, c3, f0, f1, f2, f3⟩ := HD5.out.cells
      obtain ⟨r0, r1, r2, r3, g0, g1, g2, g3⟩ := HRes.out _ HD5.out.gr
      have HE : Hid _ := fun y0 y1 y2 y3 => HEnd.out y5 y0 y1 y2 y3 HD5.out.src HD5.out.gr
      clear HRes HEnd HD5
      go_wp2_with fail
      refine bodyPost_ret (v := .agg #[.string t, .string u, .int .i64 l, .int .i64 m]) (by simp [results, Try.results21, go_sem, r0, r1, r2, r3]) rfl ?_
      exact ⟨⟨⟨t, u, l, m⟩, rfl, t1, u1⟩, HE.out _ _ _ _⟩
    · go_wp2_with fail
      refine (n_any B p a len cap 3 _ HD5.out.src (by omega)).mono ?_
      rintro e y6 ⟨⟨q, rfl, q0, q1, -⟩, hs6, hg6⟩
      have q2 := q1 (by omega)
      have HD6 : Hid (RuS W1 B p a len cap X ⟨t, u, l, m⟩ y6) := HD5.out.step hs6 hg6
      clear HD5 hs6 hg6 q1
      have hq : q = 0 ∨ q = 1 ∨ q = 2 := by omega
      rcases hq with rfl | rfl | rfl
      · go_wp2_with fail
        refine (l07Name_any B p a len cap _ HD6.out.src).mono ?_
        rintro e y7 ⟨⟨s, rfl, s1⟩, hs7, hg7⟩
        have D7 := HD6.out.step hs7 hg7
        obtain ⟨c0, c1, c2, c3, f0, f1, f2, f3⟩ := D7.cells
        have D8 : RuS W1 B p a len cap X ⟨s, u, l, m⟩ (y7.setCell ⟨X, 0, none⟩ (.string s)) := D7.set 0 _ rfl
        obtain ⟨r0, r1, r2, r3, g0, g1, g2, g3⟩ := HRes.out _ D8.gr
        have HE : Hid _ := fun y0 y1 y2 y3 => HEnd.out _ y0 y1 y2 y3 D8.src D8.gr
        clear HRes HEnd D8 D7 HD6 hs7 hg7
        go_wp2_with fail
        refine bodyPost_ret (v := .agg #[.string s, .string u, .int .i64 l, .int .i64 m]) (by simp [results, Try.results21, go_sem, r0, r1, r2, r3]) rfl ?_
        exact ⟨⟨⟨s, u, l, m⟩, rfl, s1, u1⟩, HE.out _ _ _ _⟩
      · go_wp2_with fail
        refine (edge_any B p a len cap _ HD6.out.src).mono ?_
        rintro e y7 ⟨⟨s, rfl, s1⟩, hs7, hg7⟩
        have D7 := HD6.out.step hs7 hg7
        obtain ⟨c0, c1, c2, c3, f0, f1, f2, f3⟩ := D7.cells
        have D8 : RuS W1 B p a len cap X ⟨t, u, l, s⟩ (y7.setCell ⟨X, 3, none⟩ (.int .i64 s)) := D7.set 3 _ rfl
        obtain ⟨r0, r1, r2, r3, g0, g1, g2, g3⟩ := HRes.out _ D8.gr
        have HE : Hid _ := fun y0 y1 y2 y3 => HEnd.out _ y0 y1 y2 y3 D8.src D8.gr
        clear HRes HEnd D8 D7 HD6 hs7 hg7 s1
        go_wp2_with fail
        refine bodyPost_ret (v := .agg #[.string t, .string u, .int .i64 l, .int .i64 s]) (by simp [results, Try.results21, go_sem, r0, r1, r2, r3]) rfl ?_
        exact ⟨⟨⟨t, u, l, s⟩, rfl, t1, u1⟩, HE.out _ _ _ _⟩
      · obtain ⟨c0, c1, c2, c3, f0, f1, f2, f3⟩ := HD6.out.cells
        have D8 : RuS W1 B p a len cap X ⟨t, u, m + 1, m⟩ (y6.setCell ⟨X, 2, none⟩ (.int .i64 (m + 1))) := HD6.out.set 2 _ rfl
        obtain ⟨r0, r1, r2, r3, g0, g1, g2, g3⟩ := HRes.out _ D8.gr
        have HE : Hid _ := fun y0 y1 y2 y3 => HEnd.out _ y0 y1 y2 y3 D8.src D8.gr
        clear HRes HEnd D8 HD6
        go_wp2_with fail
        refine bodyPost_ret (v := .agg #[.string t, .string u, .int .i64 (m + 1), .int .i64 m]) (by simp [results, Try.results21, go_sem, r0, r1, r2, r3]) rfl ?_
        exact ⟨⟨⟨t, u, m + 1, m⟩, rfl, t1, u1⟩, HE.out _ _ _ _⟩
end Go.Proofs.Ytbgpkngnlfafcaa
/-
  A policy in a box beside the source; the box of what RulePut and Hold answer.
-/
namespace Go.Proofs.Ytbgpkngnlfafcaa
open Go.RowKit Go.Lib
set_option linter.unusedVariables false

theorem row_ne {w : World} {base g : Nat} {e T : TypeId} {s : Nat} {v : Value} {n : Nat} {xs : List Value} {cs : Array Value} (h : w.ownsRow base e s v n xs) (hb : Bxs w g T cs) (hne : T ≠ e) : some g ≠ v.ownBlock := fun he => by
  rcases h.2 with ⟨rfl, _⟩ | ⟨g', cap, cur, rfl, _, hg', _⟩
  · cases he
  · have : g = g' := by simpa [Value.ownBlock] using he
    subst this
    unfold Bxs at hb
    rw [hb] at hg'
    injection hg' with h1
    injection h1 with h2 h3
    exact hne h3
theorem box_ne {w : World} {X Y : Nat} {T U : TypeId} {cs ds : Array Value} (h : Bxs w X T cs) (k : Bxs w Y U ds) (hne : T ≠ U) : X ≠ Y := fun e => by
  subst e
  unfold Bxs at h k
  rw [h] at k
  injection k with h1
  injection h1 with h2 h3
  exact hne h3
theorem own_ad {w : World} {base : Nat} {e : TypeId} {s n c : Nat} {p : Option Addr} {xs : List Value} (h : w.ownsRow base e s (.slice p n c) n xs) : AdOk p n c := by
  rcases h.2 with ⟨h0, h1⟩ | ⟨g, cap, cur, h1, -⟩
  · cases h0; exact .inl ⟨rfl, h1, rfl⟩
  · cases h1; exact .inr ⟨_, _, rfl⟩
theorem PolO.touch {base : Nat} {rs : List Rul} {hs : List Int} {v1 v2 : Value} {w w' : World} {g : Nat} (h : PolO base rs hs v1 v2 w) (hg : w.grownBy w' (some g)) (n1 : some g ≠ v1.ownBlock) (n2 : some g ≠ v2.ownBlock) : PolO base rs hs v1 v2 w' :=
  ⟨h.own1.kept hg (.inr (fun e => n1 e.symm)), h.own2.kept hg (.inr (fun e => n2 e.symm)), h.ne⟩
/-- A policy as it is drawn: of few rules and numbers, its texts small. -/
def PlD (n m : Nat) (rs : List Rul) (hs : List Int) : Prop := rs.length ≤ n ∧ hs.length ≤ m ∧ ∀ r ∈ rs, RuD r
theorem PlD.le {n m : Nat} {rs : List Rul} {hs : List Int} (h : PlD n m rs hs) : RulsLe rs := fun r hr => by
  have := h.2.2 r hr
  unfold RuD at this
  unfold maxLen
  omega
theorem PlD.nil : PlD 6 7 [] [] := ⟨by simp, by simp, fun r hr => by cases hr⟩
theorem rp_drawn {rs : List Rul} {hs : List Int} {R : Rul} (h : rpC rs hs R = 0) : PlD 6 7 (rpR rs hs R) (rpH rs hs R) := by
  have e1 : rpR rs hs R = if rpB rs R = true then rs.set (rpT rs R) R else rs.take (rpT rs R) ++ [R] ++ rs.drop (rpT rs R) := by unfold rpR; rw [if_pos h]
  have e2 : rpH rs hs R = hs := by unfold rpH; rw [if_pos h]
  unfold rpC at h
  split at h
  · rename_i hp
    obtain ⟨p1, -, -, p4, p5⟩ := polB_parts hp.1
    have hR := ruB_le hp.2
    have hk : rpT rs R ≤ rs.length := tw_le _ _
    rw [e1, e2]
    by_cases hb : rpB rs R = true
    · rw [if_pos hb]
      refine ⟨by simpa using p1, by omega, fun r hr => ?_⟩
      rcases List.mem_or_eq_of_mem_set hr with g | rfl
      · have := p5 r g; exact ⟨by omega, by omega⟩
      · exact ⟨by omega, by omega⟩
    · rw [if_neg hb] at h ⊢
      have hne : rs.length ≠ 6 := fun e => by rw [if_pos e] at h; omega
      refine ⟨by simp; omega, by omega, fun r hr => ?_⟩
      rcases List.mem_append.1 hr with g | g
      · rcases List.mem_append.1 g with g | g
        · have := p5 r (List.mem_of_mem_take g); exact ⟨by omega, by omega⟩
        · rw [List.mem_singleton.1 g]; exact ⟨by omega, by omega⟩
      · have := p5 r (List.mem_of_mem_drop g); exact ⟨by omega, by omega⟩
  · omega
theorem ho_drawn {rs : List Rul} {hs : List Int} {r : Int} (h : hoC rs hs r = 0) : PlD 6 7 (hoR rs hs r) (hoH rs hs r) := by
  have e1 : hoR rs hs r = rs := by unfold hoR; rw [if_pos h]
  have e2 : hoH rs hs r = hs.take (hoT hs r) ++ [r] ++ hs.drop (hoT hs r) := by unfold hoH; rw [if_pos h]
  unfold hoC at h
  split at h
  · rename_i hp
    obtain ⟨p1, -, -, p4, p5⟩ := polB_parts hp.1
    have hk : hoT hs r ≤ hs.length := tw_le _ _
    rw [e1, e2]
    exact ⟨p1, by simp; omega, fun r hr => by have := p5 r hr; exact ⟨by omega, by omega⟩⟩
  · omega
section
variable {w0 x x' : World} {B p : Nat} {a : Option Addr} {len cap X Y : Nat} {v1 v2 u1 u2 : Value} {rs rs' : List Rul} {hs hs' : List Int} {Yo : Option Nat} {c : Int}
/-- A policy in a box at X, beside the source at p. -/
structure PoS (w0 : World) (B p : Nat) (a : Option Addr) (len cap X : Nat) (v1 v2 : Value) (rs : List Rul) (hs : List Int) (x : World) : Prop where
  src : Src 68 B p a len cap x
  gr : w0.grownBy x (some p)
  hp : p < w0.heap.size
  hX : w0.heap.size ≤ X
  box : Bxs x X 26 #[v1, v2]
  pol : PolO w0.heap.size rs hs v1 v2 x
theorem PoS.below (h : PoS w0 B p a len cap X v1 v2 rs hs x) (hb : Below x.heap.size x x') : PoS w0 B p a len cap X v1 v2 rs hs x' := ⟨h.src.below hb, touch_below h.gr hb, h.hp, h.hX, h.box.below hb, h.pol.below hb⟩
theorem PoS.drew (h : PoS w0 B p a len cap X v1 v2 rs hs x) : PoS w0 B p a len cap X v1 v2 rs hs x.drew := h.below (Below.refl _ _).drew
theorem PoS.step (h : PoS w0 B p a len cap X v1 v2 rs hs x) (hs' : Src 68 B p a len cap x') (hg : x.grownBy x' (some p)) : PoS w0 B p a len cap X v1 v2 rs hs x' := by
  have hp := h.hp
  have hX := h.hX
  exact ⟨hs', touch_trans h.gr hg, hp, hX, (hg.block X h.box.lt (fun e => by cases e; omega)).trans h.box, h.pol.touch hg (fun e => by have := (h.pol.lt.1 p e.symm).1; omega) (fun e => by have := (h.pol.lt.2 p e.symm).1; omega)⟩
theorem PoS.cells (h : PoS w0 B p a len cap X v1 v2 rs hs x) : x.cell? ⟨X, 0, none⟩ = some v1 ∧ x.cell? ⟨X, 1, none⟩ = some v2 ∧ x.frozen? ⟨X, 0, none⟩ = false ∧ x.frozen? ⟨X, 1, none⟩ = false := ⟨h.box.cell 0, h.box.cell 1, h.box.fr 0, h.box.fr 1⟩
/-- A box that is written leaves the source, and all rows. -/
theorem PoS.wrote (h : PoS w0 B p a len cap X v1 v2 rs hs x) (hY : w0.heap.size ≤ Y) (g : x.grownBy x' (some Y)) (hb : Bxs x' X 26 #[u1, u2]) (ho : PolO w0.heap.size rs' hs' u1 u2 x) (n1 : some Y ≠ u1.ownBlock) (n2 : some Y ≠ u2.ownBlock) : PoS w0 B p a len cap X u1 u2 rs' hs' x' := by
  have hp := h.hp
  exact ⟨h.src.other g (fun j hj => by cases hj; omega), touch_own h.gr g (fun j hj => by cases hj; exact hY), hp, h.hX, hb, ho.touch g n1 n2⟩
theorem PoS.put (h : PoS w0 B p a len cap X v1 v2 rs hs x) (ho : PolO w0.heap.size rs' hs' u1 u2 x) : PoS w0 B p a len cap X u1 u2 rs' hs' ((x.setCell ⟨X, 0, none⟩ u1).setCell ⟨X, 1, none⟩ u2) :=
  h.wrote h.hX (touch_set (cell_grown x X 0 u1) 1 u2) ((h.box.set 0 u1).set 1 u2) ho (row_ne ho.own1 h.box (by decide)) (row_ne ho.own2 h.box (by decide))
/-- The numbers grow by one. -/
theorem PoS.appH (h : PoS w0 B p a len cap X v1 v2 rs hs x) (r : Int) (hl : hs.length + 1 ≤ 1048576) :
    ∃ q d y, (Builtin.append_ #[24, 24] 24 #[v2, .slice (some ⟨x.heap.size, 0, none⟩) 1 1]).run Try.prog (x.alloc (.cells #[.int .i64 r] 2)) = .ok (.slice q (hs.length + 1) d) y ∧
      PoS w0 B p a len cap X v1 (.slice q (hs.length + 1) d) rs (hs ++ [r]) (y.setCell ⟨X, 1, none⟩ (.slice q (hs.length + 1) d)) ∧ y.cell? ⟨X, 1, none⟩ = some v2 ∧ y.frozen? ⟨X, 1, none⟩ = false := by
  have hsz := h.gr.size
  have H := h.below ((Below.refl _ _).alloc (Nat.le_refl _) (.cells #[.int .i64 r] 2))
  obtain ⟨i, E⟩ := elI
  have hc : CelAt (x.alloc (.cells #[.int .i64 r] 2)) (some ⟨x.heap.size, 0, none⟩) (intRow [r]) := fun j hj => ⟨x.heap.size, 0, rfl, by simp, by
    have hj0 : j = 0 := by simp [intRow] at hj; omega
    subst hj0
    rw [Nat.zero_add, (Bxs.new x 2 #[.int .i64 r]).cell 0]; simp [intRow]⟩
  obtain ⟨v', y, h1, h2, h3, h4⟩ := app_cel E 24 _ w0.heap.size v2 hs.length (intRow hs) H.pol.own2 (some ⟨x.heap.size, 0, none⟩) 1 1 (intRow [r]) hc (by simp [intRow]) (oneI _) (by omega) (by unfold maxLen; omega) (by have := H.gr.size; omega)
  obtain ⟨q, d, rfl, -⟩ := own_form h2
  have e1 : (hs ++ [r]).length = hs.length + 1 := by simp
  have h2' : y.ownsRow w0.heap.size 2 1 (.slice q (hs.length + 1) d) (hs ++ [r]).length (intRow (hs ++ [r])) := by rw [e1, intRow_app]; exact h2
  have hrow : ∀ j, v2.ownBlock = some j → w0.heap.size ≤ j := fun j hj => (H.pol.lt.2 j hj).1
  have n1 := row_ne H.pol.own2 H.box (by decide)
  have hp := h.hp
  have kb : Bxs y X 26 #[v1, v2] := H.box.grown h3 n1
  have sy : Src 68 B p a len cap y := H.src.other h3 (fun j hj => by have := hrow j hj; omega)
  have gy : w0.grownBy y (some p) := touch_own H.gr h3 hrow
  have ho : PolO w0.heap.size rs (hs ++ [r]) v1 (.slice q (hs.length + 1) d) y := H.pol.new2 h3 h2' h4
  have g := cell_grown y X 1 (.slice q (hs.length + 1) d)
  have hX := h.hX
  exact ⟨q, d, y, h1, ⟨sy.other g (fun j hj => by cases hj; omega), touch_own gy g (fun j hj => by cases hj; exact hX), hp, hX, kb.set 1 _, ho.touch g (row_ne ho.own1 kb (by decide)) (row_ne ho.own2 kb (by decide))⟩, kb.cell 1, kb.fr 1⟩
/-- The rules grow by one. -/
theorem PoS.appR (h : PoS w0 B p a len cap X v1 v2 rs hs x) (r : Rul) (hl : rs.length + 1 ≤ 1048576) :
    ∃ q d y, (Builtin.append_ #[23, 23] 23 #[v1, .slice (some ⟨x.heap.size, 0, none⟩) 1 1]).run Try.prog (x.alloc (.cells #[.string r.k, .string r.f, .int .i64 r.l, .int .i64 r.m] 28)) = .ok (.slice q (rs.length + 1) d) y ∧
      PoS w0 B p a len cap X (.slice q (rs.length + 1) d) v2 (rs ++ [r]) hs (y.setCell ⟨X, 0, none⟩ (.slice q (rs.length + 1) d)) ∧ y.cell? ⟨X, 0, none⟩ = some v1 ∧ y.frozen? ⟨X, 0, none⟩ = false := by
  have hsz := h.gr.size
  have H := h.below ((Below.refl _ _).alloc (Nat.le_refl _) (.cells #[.string r.k, .string r.f, .int .i64 r.l, .int .i64 r.m] 28))
  obtain ⟨i, E⟩ := elR
  have hc : CelAt (x.alloc (.cells #[.string r.k, .string r.f, .int .i64 r.l, .int .i64 r.m] 28)) (some ⟨x.heap.size, 0, none⟩) (rulRow [r]) := fun j hj => ⟨x.heap.size, 0, rfl, by simp, by rw [Nat.zero_add, (Bxs.new x 28 #[.string r.k, .string r.f, .int .i64 r.l, .int .i64 r.m]).cell j]; simp [rulRow, rulCells]⟩
  obtain ⟨v', y, h1, h2, h3, h4⟩ := app_cel E 23 _ w0.heap.size v1 rs.length (rulRow rs) H.pol.own1 (some ⟨x.heap.size, 0, none⟩) 1 1 (rulRow [r]) hc (by simp [rulRow, rulCells]) (oneR _) (by omega) (by unfold maxLen; omega) (by have := H.gr.size; omega)
  obtain ⟨q, d, rfl, -⟩ := own_form h2
  have e1 : (rs ++ [r]).length = rs.length + 1 := by simp
  have h2' : y.ownsRow w0.heap.size 28 4 (.slice q (rs.length + 1) d) (rs ++ [r]).length (rulRow (rs ++ [r])) := by rw [e1, rulRow_append]; exact h2
  have hrow : ∀ j, v1.ownBlock = some j → w0.heap.size ≤ j := fun j hj => (H.pol.lt.1 j hj).1
  have n1 := row_ne H.pol.own1 H.box (by decide)
  have hp := h.hp
  have kb : Bxs y X 26 #[v1, v2] := H.box.grown h3 n1
  have sy : Src 68 B p a len cap y := H.src.other h3 (fun j hj => by have := hrow j hj; omega)
  have gy : w0.grownBy y (some p) := touch_own H.gr h3 hrow
  have ho : PolO w0.heap.size (rs ++ [r]) hs (.slice q (rs.length + 1) d) v2 y := H.pol.new1 h3 h2' h4
  have g := cell_grown y X 0 (.slice q (rs.length + 1) d)
  have hX := h.hX
  exact ⟨q, d, y, h1, ⟨sy.other g (fun j hj => by cases hj; omega), touch_own gy g (fun j hj => by cases hj; exact hX), hp, hX, kb.set 0 _, ho.touch g (row_ne ho.own1 kb (by decide)) (row_ne ho.own2 kb (by decide))⟩, kb.cell 0, kb.fr 0⟩
/-- .. and, if it was made, the box of what will be answered. -/
structure PoA (w0 : World) (B p : Nat) (a : Option Addr) (len cap X : Nat) (v1 v2 : Value) (rs : List Rul) (hs : List Int) (Yo : Option Nat) (x : World) : Prop where
  po : PoS w0 B p a len cap X v1 v2 rs hs x
  y : ∀ Y, Yo = some Y → Bxs x Y 32 #[.slice none 0 0, .slice none 0 0, .int .i64 0] ∧ w0.heap.size ≤ Y
theorem PoA.of (h : PoS w0 B p a len cap X v1 v2 rs hs x) : PoA w0 B p a len cap X v1 v2 rs hs none x := ⟨h, fun Y e => by cases e⟩
theorem PoA.below (h : PoA w0 B p a len cap X v1 v2 rs hs Yo x) (hb : Below x.heap.size x x') : PoA w0 B p a len cap X v1 v2 rs hs Yo x' := ⟨h.po.below hb, fun Y e => ⟨(h.y Y e).1.below hb, (h.y Y e).2⟩⟩
theorem PoA.drew (h : PoA w0 B p a len cap X v1 v2 rs hs Yo x) : PoA w0 B p a len cap X v1 v2 rs hs Yo x.drew := h.below (Below.refl _ _).drew
theorem PoA.step (h : PoA w0 B p a len cap X v1 v2 rs hs Yo x) (hs' : Src 68 B p a len cap x') (hg : x.grownBy x' (some p)) : PoA w0 B p a len cap X v1 v2 rs hs Yo x' :=
  ⟨h.po.step hs' hg, fun Y e => by
    obtain ⟨h1, h2⟩ := h.y Y e
    have hp := h.po.hp
    exact ⟨(hg.block Y h1.lt (fun e => by cases e; omega)).trans h1, h2⟩⟩
theorem PoA.al (h : PoA w0 B p a len cap X v1 v2 rs hs none x) : PoA w0 B p a len cap X v1 v2 rs hs (some x.heap.size) (x.alloc (.cells #[.slice none 0 0, .slice none 0 0, .int .i64 0] 32)) :=
  ⟨h.po.below ((Below.refl _ _).alloc (Nat.le_refl _) _), fun Y e => by
    cases e
    exact ⟨Bxs.new _ _ _, h.po.gr.size⟩⟩
theorem PoA.alA (h : PoA w0 B p a len cap X v1 v2 rs hs Yo x) (o : Obj) : PoA w0 B p a len cap X v1 v2 rs hs Yo (x.alloc o) := h.below ((Below.refl _ _).alloc (Nat.le_refl _) o)
theorem PoS.set3 (h : PoS w0 B p a len cap X v1 v2 rs hs x) {cs : Array Value} (k : Bxs x Y 32 cs) (hY : w0.heap.size ≤ Y) (u0 u1 u2 : Value) : PoS w0 B p a len cap X v1 v2 rs hs (((x.setCell ⟨Y, 0, none⟩ u0).setCell ⟨Y, 1, none⟩ u1).setCell ⟨Y, 2, none⟩ u2) := by
  have g : x.grownBy (((x.setCell ⟨Y, 0, none⟩ u0).setCell ⟨Y, 1, none⟩ u1).setCell ⟨Y, 2, none⟩ u2) (some Y) := touch_set (touch_set (cell_grown x Y 0 u0) 1 u1) 2 u2
  have ne := box_ne k h.box (by decide)
  exact h.wrote hY g ((g.block X h.box.lt (fun e => by cases e; exact ne rfl)).trans h.box) h.pol (row_ne h.pol.own1 k (by decide)) (row_ne h.pol.own2 k (by decide))
theorem PoA.set3 (h : PoA w0 B p a len cap X v1 v2 rs hs (some Y) x) (u0 u1 u2 : Value) : PoS w0 B p a len cap X v1 v2 rs hs (((x.setCell ⟨Y, 0, none⟩ u0).setCell ⟨Y, 1, none⟩ u1).setCell ⟨Y, 2, none⟩ u2) := h.po.set3 (h.y Y rfl).1 (h.y Y rfl).2 u0 u1 u2
theorem PoA.cells3 (h : PoA w0 B p a len cap X v1 v2 rs hs (some Y) x) (u0 u1 u2 : Value) : (((x.setCell ⟨Y, 0, none⟩ u0).setCell ⟨Y, 1, none⟩ u1).setCell ⟨Y, 2, none⟩ u2).cell? ⟨X, 0, none⟩ = some v1 ∧ (((x.setCell ⟨Y, 0, none⟩ u0).setCell ⟨Y, 1, none⟩ u1).setCell ⟨Y, 2, none⟩ u2).cell? ⟨X, 1, none⟩ = some v2 := ⟨(h.set3 u0 u1 u2).cells.1, (h.set3 u0 u1 u2).cells.2.1⟩
theorem PoA.cells (h : PoA w0 B p a len cap X v1 v2 rs hs Yo x) : x.cell? ⟨X, 0, none⟩ = some v1 ∧ x.cell? ⟨X, 1, none⟩ = some v2 := ⟨h.po.cells.1, h.po.cells.2.1⟩
theorem PoA.outs (h : PoA w0 B p a len cap X v1 v2 rs hs (some Y) x) : x.cell? ⟨Y, 0, none⟩ = some (.slice none 0 0) ∧ x.cell? ⟨Y, 1, none⟩ = some (.slice none 0 0) ∧ x.cell? ⟨Y, 2, none⟩ = some (.int .i64 0) ∧ x.frozen? ⟨Y, 0, none⟩ = false ∧ x.frozen? ⟨Y, 1, none⟩ = false ∧ x.frozen? ⟨Y, 2, none⟩ = false := by
  obtain ⟨k, -⟩ := h.y Y rfl
  exact ⟨k.cell 0, k.cell 1, k.cell 2, k.fr 0, k.fr 1, k.fr 2⟩
/-- What RulePut or Hold answered: rows of their own. -/
def PoU (w0 : World) (u1 u2 : Value) (c : Int) (x : World) : Prop := ∃ us uh, PolO w0.heap.size us uh u1 u2 x ∧ (c = 0 → PlD 6 7 us uh)
/-- .. in its box at Y. -/
structure PoV (w0 : World) (Y : Nat) (x : World) : Prop where
  ex : ∃ u1 u2 c, Bxs x Y 32 #[u1, u2, .int .i64 c] ∧ PoU w0 u1 u2 c x
  hY : w0.heap.size ≤ Y
theorem PoU.below (h : PoU w0 u1 u2 c x) (hb : Below x.heap.size x x') : PoU w0 u1 u2 c x' := by
  obtain ⟨us, uh, h1, h2⟩ := h
  exact ⟨us, uh, h1.below hb, h2⟩
theorem PoV.below (h : PoV w0 Y x) (hb : Below x.heap.size x x') : PoV w0 Y x' := by
  obtain ⟨u1, u2, c, k, o⟩ := h.ex
  exact ⟨⟨u1, u2, c, k.below hb, o.below hb⟩, h.hY⟩
theorem PoV.drew (h : PoV w0 Y x) : PoV w0 Y x.drew := h.below (Below.refl _ _).drew
theorem PoV.touch (h : PoV w0 Y x) (hg : x.grownBy x' (some p)) (hp : p < w0.heap.size) : PoV w0 Y x' := by
  obtain ⟨u1, u2, c, k, us, uh, o, h2⟩ := h.ex
  have hY := h.hY
  exact ⟨⟨u1, u2, c, (hg.block Y k.lt (fun e => by cases e; omega)).trans k, us, uh, o.touch hg (fun e => by have := (o.lt.1 p e.symm).1; omega) (fun e => by have := (o.lt.2 p e.symm).1; omega), h2⟩, hY⟩
theorem PoV.new (h : PoA w0 B p a len cap X v1 v2 rs hs none x) (ho : PoU w0 u1 u2 c x) : PoV w0 x.heap.size (x.alloc (.cells #[u1, u2, .int .i64 c] 32)) :=
  ⟨⟨u1, u2, c, Bxs.new _ _ _, ho.below ((Below.refl _ _).alloc (Nat.le_refl _) _)⟩, h.po.gr.size⟩
theorem PoV.put {cs : Array Value} (k : Bxs x Y 32 #[cs[0]!, cs[1]!, cs[2]!]) (hY : w0.heap.size ≤ Y) (ho : PoU w0 u1 u2 c x) : PoV w0 Y (((x.setCell ⟨Y, 0, none⟩ u1).setCell ⟨Y, 1, none⟩ u2).setCell ⟨Y, 2, none⟩ (.int .i64 c)) := by
  have g : x.grownBy (((x.setCell ⟨Y, 0, none⟩ u1).setCell ⟨Y, 1, none⟩ u2).setCell ⟨Y, 2, none⟩ (.int .i64 c)) (some Y) := touch_set (touch_set (cell_grown x Y 0 u1) 1 u2) 2 _
  obtain ⟨us, uh, o, h2⟩ := ho
  exact ⟨⟨u1, u2, c, ((k.set 0 u1).set 1 u2).set 2 _, us, uh, o.touch g (row_ne o.own1 k (by decide)) (row_ne o.own2 k (by decide)), h2⟩, hY⟩
theorem PoV.ofT (h : PoA w0 B p a len cap X v1 v2 rs hs (some Y) x) (ho : PoU w0 u1 u2 c x) : PoV w0 Y (((x.setCell ⟨Y, 0, none⟩ u1).setCell ⟨Y, 1, none⟩ u2).setCell ⟨Y, 2, none⟩ (.int .i64 c)) := PoV.put (cs := #[.slice none 0 0, .slice none 0 0, .int .i64 0]) (h.y Y rfl).1 (h.y Y rfl).2 ho
theorem PoV.outs (h : PoV w0 Y x) : ∃ (u1 u2 : Value) (c : Int), x.cell? ⟨Y, 0, none⟩ = some u1 ∧ x.cell? ⟨Y, 1, none⟩ = some u2 ∧ x.cell? ⟨Y, 2, none⟩ = some (.int .i64 c) ∧ x.frozen? ⟨Y, 0, none⟩ = false ∧ x.frozen? ⟨Y, 1, none⟩ = false ∧ x.frozen? ⟨Y, 2, none⟩ = false := by
  obtain ⟨u1, u2, c, k, -⟩ := h.ex
  exact ⟨u1, u2, c, k.cell 0, k.cell 1, k.cell 2, k.fr 0, k.fr 1, k.fr 2⟩
theorem PoS.putV (h : PoS w0 B p a len cap X v1 v2 rs hs x) (k : PoV w0 Y x) (ho : PoU w0 u1 u2 c x) : PoS w0 B p a len cap X v1 v2 rs hs (((x.setCell ⟨Y, 0, none⟩ u1).setCell ⟨Y, 1, none⟩ u2).setCell ⟨Y, 2, none⟩ (.int .i64 c)) ∧ PoV w0 Y (((x.setCell ⟨Y, 0, none⟩ u1).setCell ⟨Y, 1, none⟩ u2).setCell ⟨Y, 2, none⟩ (.int .i64 c)) := by
  obtain ⟨b1, b2, c0, kb, -⟩ := k.ex
  exact ⟨h.set3 kb k.hY _ _ _, PoV.put (cs := #[b1, b2, .int .i64 c0]) kb k.hY ho⟩
end
end Go.Proofs.Ytbgpkngnlfafcaa
