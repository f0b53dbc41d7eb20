/-
  Parts of one proof, laid as one text: LawI, LawOG, LawIm, LawPo; what each says stands at its head.
-/
import Derived.Test.YtpijadhfdpihkaaGreatDoorRows
import Derived.Test.YtpijadhfdpihkaaGreatDoorBytesDigMath
import Derived.Test.YtpijadhfdpihkaaGreatDoorSlASlBBxKOwnS
import Derived.Test.YtpijadhfdpihkaaGreatDoorRwBlkBlNotRulMathIntKPolMathTakes
import Derived.Handy
import Derived.WalkSpells
import Derived.OwnWalk
import Derived.Deep.QuietTactic
import Derived.BigQuiet
import Derived.Test.YtpijadhfdpihkaaGreatDoorAppSRulBlkLawRl
/-
  What the laws' own helpers answer for slices of numbers: toInt64S (a copy in new memory), eqInt64S (of two that are alike), markInt64S.
  Conditions: the slices' cells hold the numbers.
-/
namespace Go.Proofs.YtpijadhfdpihkaaGreatDoor
open Go.RowKit Go.Lib
set_option linter.unusedVariables false
set_option maxRecDepth 20000

theorem belowDi {B : Nat} {a w : World} (h : Below B a w) (n : Nat) : Below B a (w.drewN n) := ⟨h.os, h.tape, h.output, h.size, h.block⟩
def intRow (ks : List Int) : List Value := ks.map (Value.int .i64)
/-- A block that holds these numbers and no more. -/
def BlkI (w : World) (g : Nat) (ks : List Int) : Prop := w.heap[g]? = some (.cells (intRow ks).toArray 2 (0, 0))
theorem BlkI.lt {w : World} {g : Nat} {ks : List Int} (h : BlkI w g ks) : g < w.heap.size := lt_of_block h
theorem BlkI.below {w w' : World} {g : Nat} {ks : List Int} (h : BlkI w g ks) {B : Nat} (hb : Below B w w') (hg : g < B) : BlkI w' g ks := (hb.block g hg).trans h
theorem BlkI.cell {w : World} {g : Nat} {ks : List Int} (h : BlkI w g ks) (i : Nat) (hi : i < ks.length) : w.cell? ⟨g, i, none⟩ = some (.int .i64 ks[i]) ∧ w.frozen? ⟨g, i, none⟩ = false := by
  unfold BlkI at h
  constructor
  · simp [World.cell?, h, intRow, hi]
  · simp [World.frozen?, h]
theorem BlkI.int {w : World} {g : Nat} {ks : List Int} (h : BlkI w g ks) : IntAt w (some ⟨g, 0, none⟩) ks := fun i hi => ⟨g, 0, rfl, h.lt, by rw [Nat.zero_add]; exact (h.cell i hi).1⟩
theorem BlkI.set {w : World} {g : Nat} {ks : List Int} (h : BlkI w g ks) (k : Nat) (s : Int) : BlkI (w.setCell ⟨g, k, none⟩ (.int .i64 s)) g (ks.set k s) := by
  unfold BlkI at h ⊢
  simp [World.setCell, Array.getElem?_modify, h, intRow, List.map_set]
def cutI (ks : List Int) (k : Nat) : List Int := ks.take k ++ List.replicate (ks.length - k) 0
theorem cutI_len (ks : List Int) (k : Nat) (h : k ≤ ks.length) : (cutI ks k).length = ks.length := by simp [cutI]; omega
theorem cutI_set (ks : List Int) (k : Nat) (h : k < ks.length) : (cutI ks k).set k ks[k] = cutI ks (k + 1) := by
  unfold cutI
  rw [show ks.length - k = (ks.length - (k + 1)) + 1 by omega, List.replicate_succ]
  have hl : (ks.take k).length = k := by simp; omega
  rw [List.set_append_right _ _ (by omega), hl, Nat.sub_self, List.set_cons_zero, List.take_succ_eq_append_getElem h, List.append_assoc]; rfl
theorem infoI64k : (Tryz.prog.info? 2).map (fun i => (i.zero, i.size, i.bytes)) = some (some (.int .i64 0), 1, 8) := by kernel_rfl
theorem made_i64 (n : Nat) : madeCells #[.int .i64 0] n = (intRow (List.replicate n 0)).toArray := by
  unfold madeCells intRow
  apply Array.ext
  · simp
  · intro i h1 h2; simp [Nat.mod_one]
theorem run_make_i64 (n : Nat) (hn : n ≤ 1048576) (w : World) :
    (Instr.makeSlice 27 (.int .i64 (n : Int)) (.int .i64 (n : Int))).run Tryz.prog w = .ok (.slice (some ⟨w.heap.size, 0, none⟩) n n) (w.alloc (.cells (intRow (List.replicate n 0)).toArray 2)) := by
  obtain ⟨i0, hi, hz0, hz1, hz2⟩ := info_parts infoI64k
  have := run_make (P := Tryz.prog) w 27 2 i0 _ Tryz.underlying27 hi hz0 .i64 .i64 (n : Int) (n : Int) (by omega) (by omega) (by rw [hz2]; omega) (by omega)
  rw [this, hz1]
  simp only [Int.toNat_natCast, Nat.mul_one]
  rw [← made_i64]; rfl

set_option maxHeartbeats 1000000 in
theorem toI_any (p : Option Addr) (cap : Nat) (ks : List Int) (w : World) (hp : IntAt w p ks) (hn : ks.length ≤ 1048576) (hcap : ks.length ≤ cap) :
    Calls Tryz.prog 33 #[.slice p ks.length cap] w fun e w' => e = .returned (.slice (some ⟨w.heap.size, 0, none⟩) ks.length ks.length) ∧ BlkI w' w.heap.size ks ∧ Below w.heap.size w w' := by
  have HP : Hid (IntAt w p ks) := hp
  clear hp
  obtain ⟨W1, hW1⟩ : ∃ W1, W1 = w.alloc (.cells (intRow (List.replicate ks.length 0)).toArray 2) := ⟨_, rfl⟩
  have hmk := run_make_i64 ks.length hn w
  rw [← hW1] at hmk
  have H0 : Hid (BlkI W1 w.heap.size (cutI ks 0)) := by
    have : BlkI W1 w.heap.size (List.replicate ks.length 0) := by rw [hW1]; exact (MapKept.heap_alloc w _).1
    show BlkI _ _ _
    unfold cutI; simpa using this
  have B0 : Hid (Below w.heap.size w W1) := by rw [hW1]; exact (Below.refl _ _).alloc (Nat.le_refl _) _
  clear hW1
  go_enter Tryz.func33, Tryz.ntmps33
  go_wp2_with fail
  go_loopw [4] (fun i wr => ∃ k : Nat, k ≤ ks.length ∧ i = .int .i64 k ∧ Hid (BlkI wr w.heap.size (cutI ks k)) ∧ Hid (Below w.heap.size w wr)) (fun i _ => ks.length - (intOf i).toNat)
  case atStart => exact ⟨0, Nat.zero_le _, rfl, H0, B0⟩
  case round =>
    clear H0 hmk B0
    obtain ⟨k, hk, rfl, hrow, hnx⟩ := hrel
    by_cases hlt : k < ks.length
    · obtain ⟨b, off, rfl, hb, hck⟩ := HP.out k hlt
      have hc1 : wr.cell? ⟨b, off + k, none⟩ = some (.int .i64 ks[k]) := (hnx.out.cell (p := ⟨b, off + k, none⟩) hb).trans hck
      obtain ⟨hc2, hf2⟩ := hrow.out.cell k (by rw [cutI_len _ _ (by omega)]; exact hlt)
      have HR : Hid (BlkI (wr.setCell ⟨w.heap.size, k, none⟩ (.int .i64 ks[k])) w.heap.size (cutI ks (k + 1))) := by
        show BlkI _ _ _
        rw [← cutI_set ks k hlt]; exact hrow.out.set k _
      have HB : Hid (Below w.heap.size w (wr.setCell ⟨w.heap.size, k, none⟩ (.int .i64 ks[k]))) := hnx.out.setCell (Nat.le_refl _) _
      have i1 : (k : Int) < ks.length := by omega
      clear hck
      generalize ks[k] = q at *
      generalize (cutI ks k)[k]'_ = q2 at *
      go_wp2_with fail
      go_roundw
      case rel => exact ⟨k + 1, by omega, by go_num, HR, HB⟩
      case measure => simp [intOf]; omega
    · have hkk : k = ks.length := by omega
      subst hkk
      have HR : Hid (BlkI wr w.heap.size ks) := by
        have := hrow.out; unfold cutI at this; show BlkI _ _ _; simpa using this
      go_wp2_with fail
      go_ret
      exact ⟨rfl, HR.out, hnx.out⟩

set_option maxHeartbeats 1000000 in
theorem eqI_any (p q : Option Addr) (cap cap2 : Nat) (ks : List Int) (w : World) (hp : IntAt w p ks) (hq : IntAt w q ks) (hn : ks.length ≤ 1048576) (hcap : ks.length ≤ cap) (hcap2 : ks.length ≤ cap2) :
    Calls Tryz.prog 41 #[.slice p ks.length cap, .slice q ks.length cap2] w fun e w' => e = .returned (.bool true) ∧ Below w.heap.size w w' := by
  have HP : Hid (IntAt w p ks) := hp
  have HQ : Hid (IntAt w q ks) := hq
  clear hp hq
  go_enter Tryz.func41, Tryz.ntmps41
  go_wp2_with fail
  go_loopw [5] (fun i wr => ∃ k : Nat, k ≤ ks.length ∧ i = .int .i64 k ∧ Hid (Below w.heap.size w wr)) (fun i _ => ks.length - (intOf i).toNat)
  case atStart => exact ⟨0, Nat.zero_le _, rfl, Below.refl _ _⟩
  case round =>
    obtain ⟨k, hk, rfl, HB⟩ := hrel
    by_cases hlt : k < ks.length
    · obtain ⟨b, off, rfl, hb, hc1⟩ := (HP.out.below HB.out) k hlt
      obtain ⟨b2, off2, rfl, hb2, hd1⟩ := (HQ.out.below HB.out) k hlt
      have j5 : (k : Int) < ks.length := by omega
      generalize ks[k] = K at *
      go_wp2_with fail
      go_quiet (fail)
      go_wp2_with fail
      go_roundw
      case rel => exact ⟨k + 1, by omega, by go_num, belowDi HB.out _⟩
      case measure => simp [intOf]; omega
    · go_wp2_with fail
      go_ret
      exact ⟨rfl, HB.out⟩

end Go.Proofs.YtpijadhfdpihkaaGreatDoor
/-
  A row of its own that is written cell by cell, while nothing else that was there changes.
-/
namespace Go.Proofs.YtpijadhfdpihkaaGreatDoor
open Go.RowKit Go.Lib
set_option linter.unusedVariables false

/-- The row of block g, n elements of z cells, holds xs, and is the call's own; but for it all that lay in w is as it was. -/
def OG (w : World) (base : Nat) (T : TypeId) (z g n cap : Nat) (wr : World) (xs : List Value) : Prop :=
  wr.ownsRow base T z (.slice (some ⟨g, 0, none⟩) n cap) n xs ∧ w.grownBy wr (some g)
theorem OG.below {w : World} {base : Nat} {T : TypeId} {z g n cap : Nat} {wr : World} {xs : List Value} (h : OG w base T z g n cap wr xs) {y : World} (hb : Below wr.heap.size wr y) : OG w base T z g n cap y xs := by
  obtain ⟨h1, a⟩ := h
  exact ⟨ownS_below h1 hb, hb.os.trans a.os, hb.tape.trans a.tape, hb.output.trans a.output, Nat.le_trans a.size hb.size, fun q hq hne => (hb.block q (Nat.lt_of_lt_of_le hq a.size)).trans (a.block q hq hne)⟩
theorem OG.set {w : World} {base : Nat} {T : TypeId} {z g n cap : Nat} {wr : World} {xs : List Value} (h : OG w base T z g n cap wr xs) (j : Nat) (v : Value) : OG w base T z g n cap (wr.setCell ⟨g, j, none⟩ v) (xs.set j v) := by
  obtain ⟨h1, a⟩ := h
  refine ⟨(h1.stored j v).1, a.os, a.tape, a.output, ?_, ?_⟩
  · simpa [World.setCell] using a.size
  · intro q hq hne
    have hqg : g ≠ q := fun e => hne (by rw [e])
    rw [show (wr.setCell ⟨g, j, none⟩ v).heap[q]? = wr.heap[q]? by simp [World.setCell, Array.getElem?_modify, hqg]]
    exact a.block q hq hne
theorem OG.cell {w : World} {base : Nat} {T : TypeId} {z g n cap : Nat} {wr : World} {xs : List Value} (h : OG w base T z g n cap wr xs) (j : Nat) (hj : j < n * z) : ∃ x, wr.cell? ⟨g, j, none⟩ = some x ∧ wr.frozen? ⟨g, j, none⟩ = false := by
  have hl : xs.length = n * z := h.1.1
  exact ⟨xs[j]'(by omega), by rw [h.1.cellAt j hj, List.getElem?_eq_getElem (by omega)], h.1.frozenAt j⟩
theorem OG.start {w : World} {base : Nat} {T : TypeId} {z g n cap : Nat} {xs : List Value} (h : w.ownsRow base T z (.slice (some ⟨g, 0, none⟩) n cap) n xs) : OG w base T z g n cap w xs := ⟨h, World.grownBy.refl _ _⟩
end Go.Proofs.YtpijadhfdpihkaaGreatDoor
/-
  What the laws' own helpers do that mark numbers: markInt64S, heldInt64S; szInt64S.
-/
namespace Go.Proofs.YtpijadhfdpihkaaGreatDoor
open Go.RowKit Go.Lib
set_option linter.unusedVariables false
set_option maxRecDepth 20000

theorem szI_any (l0 : Int) (l00 : 0 ≤ l0) (l01 : l0 ≤ 1048576) (p : Option Addr) (cap : Nat) (ks : List Int) (w : World) (hn : ks.length ≤ 9223372036854775807) :
    Calls Tryz.prog 22 #[.slice p ks.length cap, .int .i64 l0] w fun e w' => (∃ r : Int, e = .returned (.int .i64 r) ∧ (r = -1 ∨ (0 ≤ r ∧ r ≤ l0 ∧ ks.length ≤ 1048576))) ∧ w' = w := by
  by_cases hl : (ks.length : Int) ≤ l0
  · go_enter Tryz.func22, Tryz.ntmps22
    go_wp2_with fail
    go_ret
    exact ⟨⟨_, rfl, .inr ⟨by omega, by omega, by omega⟩⟩, rfl⟩
  · go_enter Tryz.func22, Tryz.ntmps22
    go_wp2_with fail
    go_ret
    exact ⟨⟨_, rfl, .inl rfl⟩, rfl⟩
def miN (s n : Nat) : List Int := (List.range n).map (fun j => ((s + j : Nat) : Int))
def miT (s : Nat) (l : List Int) (k : Nat) : List Int := miN s k ++ l.drop k
theorem miN_len (s n : Nat) : (miN s n).length = n := by simp [miN]
theorem miT_len (s : Nat) (l : List Int) (k : Nat) (h : k ≤ l.length) : (miT s l k).length = l.length := by simp [miT, miN]; omega
theorem miT_set (s : Nat) (l : List Int) (k : Nat) (h : k < l.length) : (miT s l k).set k ((k : Int) + s) = miT s l (k + 1) := by
  unfold miT miN
  have hl : ((List.range k).map (fun j => ((s + j : Nat) : Int))).length = k := by simp
  rw [List.set_append_right _ _ (by omega), hl, Nat.sub_self, List.drop_eq_getElem_cons h, List.set_cons_zero, List.range_succ, List.map_append, List.append_assoc]
  show _ = _ ++ (((s + k : Nat) : Int) :: l.drop (k + 1))
  rw [show ((s + k : Nat) : Int) = (k : Int) + s by omega]
theorem miT_all (s : Nat) (l : List Int) : miT s l l.length = miN s l.length := by unfold miT; simp
theorem intRow_set (l : List Int) (k : Nat) (x : Int) : (intRow l).set k (.int .i64 x) = intRow (l.set k x) := by simp [intRow, List.map_set]
end Go.Proofs.YtpijadhfdpihkaaGreatDoor
/-
  What the laws' own helpers answer for policies: szPolicy, toPolicy, eqPolicy, eqPolicyOut (of two that are alike).
  Conditions: the slices' cells hold the rules and the numbers.
-/
namespace Go.Proofs.YtpijadhfdpihkaaGreatDoor
open Go.RowKit Go.Lib
set_option linter.unusedVariables false
set_option maxRecDepth 20000

theorem BlkU.setOther {w : World} {g : Nat} {l : List Rul} (h : BlkU w g l) (g' k : Nat) (hne : g' ≠ g) (v : Value) : BlkU (w.setCell ⟨g', k, none⟩ v) g l := Bxs.other h g' k hne v
theorem BlkI.setOther {w : World} {g : Nat} {ks : List Int} (h : BlkI w g ks) (g' k : Nat) (hne : g' ≠ g) (v : Value) : BlkI (w.setCell ⟨g', k, none⟩ v) g ks := Bxs.other h g' k hne v
set_option maxHeartbeats 1000000 in
theorem szPolicy_any (l0 : Int) (l00 : 0 ≤ l0) (l01 : l0 ≤ 1048576) (p1 p2 : Option Addr) (c1 c2 : Nat) (ss : List Rul) (ps : List Int) (w : World) (h1 : RulAt w p1 ss) (n1 : ss.length ≤ 9223372036854775807) (n2 : ps.length ≤ 9223372036854775807) (m1 : ss.length ≤ c1) (s1 : RulsBig ss) :
    Calls Tryz.prog 10 #[.agg #[.slice p1 ss.length c1, .slice p2 ps.length c2], .int .i64 l0] w fun e w' => (∃ r : Int, e = .returned (.int .i64 r) ∧ (r = -1 ∨ (0 ≤ r ∧ r ≤ l0 ∧ ss.length ≤ 1048576 ∧ ps.length ≤ 1048576))) ∧ Below w.heap.size w w' := by
  obtain ⟨W1, hW1⟩ : ∃ W1, W1 = w.alloc (.cells #[.slice p1 ss.length c1, .slice p2 ps.length c2] 29) := ⟨_, rfl⟩
  have HW1 : Hid (W1 = w.alloc (.cells #[.slice p1 ss.length c1, .slice p2 ps.length c2] 29)) := hW1
  have B1 : Hid (Below w.heap.size w W1) := by rw [hW1]; exact (Below.refl _ _).alloc (Nat.le_refl _) _
  have X1 : Hid (Bxs W1 w.heap.size 29 #[.slice p1 ss.length c1, .slice p2 ps.length c2]) := by rw [hW1]; exact Bxs.new _ _ _
  have H1 := szU_any l0 l00 l01 p1 c1 ss W1 (h1.below B1.out) n1 m1 s1
  clear hW1 h1 s1
  go_enter Tryz.func10, Tryz.ntmps10
  go_wp2_with fail
  rw [← HW1.out]
  refine H1.mono ?_
  rintro e w1 ⟨⟨r, rfl, hr⟩, b1⟩
  have t1 : w1.cell? ⟨w.heap.size, 1, none⟩ = some (.slice p2 ps.length c2) := (X1.out.below b1).cell 1
  have b1 := chainB B1.out b1
  rcases hr with rfl | ⟨r0, r1, r2⟩
  · go_wp2_with fail
    go_ret
    exact ⟨⟨_, rfl, .inl rfl⟩, b1⟩
  · have H3 := szI_any r r0 (by omega) p2 c2 ps w1 n2
    have dr : decide (r < 0) = false := decide_eq_false (by omega)
    go_wp2_with fail
    refine H3.mono ?_
    rintro e w2 ⟨⟨r', rfl, hr'⟩, rfl⟩
    rcases hr' with rfl | ⟨r4, r5, r6⟩
    · go_wp2_with fail
      go_ret
      exact ⟨⟨_, rfl, .inl rfl⟩, b1⟩
    · have dr : decide (r' < 0) = false := decide_eq_false (by omega)
      go_wp2_with fail
      go_ret
      exact ⟨⟨_, rfl, .inr ⟨r4, by omega, r2, r6⟩⟩, b1⟩

set_option maxHeartbeats 2000000 in
theorem toPolicy_any (p1 p2 : Option Addr) (c1 c2 : Nat) (ss : List Rul) (ps : List Int) (w : World) (h1 : RulAt w p1 ss) (h2 : IntAt w p2 ps) (n1 : ss.length ≤ 1048576) (n2 : ps.length ≤ 1048576) (m1 : ss.length ≤ c1) (m2 : ps.length ≤ c2) :
    Calls Tryz.prog 14 #[.agg #[.slice p1 ss.length c1, .slice p2 ps.length c2]] w fun e w' => ∃ g1 g2, w.heap.size ≤ g1 ∧ g1 < g2 ∧ e = .returned (.agg #[.slice (some ⟨g1, 0, none⟩) ss.length ss.length, .slice (some ⟨g2, 0, none⟩) ps.length ps.length]) ∧ BlkU w' g1 ss ∧ BlkI w' g2 ps ∧ Below w.heap.size w w' := by
  obtain ⟨W1, hW1⟩ : ∃ W1, W1 = w.alloc (.cells #[.slice p1 ss.length c1, .slice p2 ps.length c2] 29) := ⟨_, rfl⟩
  obtain ⟨W2, hW2⟩ : ∃ W2, W2 = W1.alloc (.cells #[.slice none 0 0, .slice none 0 0] 39) := ⟨_, rfl⟩
  obtain ⟨W3, hW3⟩ : ∃ W3, W3 = W2.alloc (.cells #[.slice none 0 0, .slice none 0 0] 39) := ⟨_, rfl⟩
  have z1 : W1.heap.size = w.heap.size + 1 := by rw [hW1]; simp
  have z2 : W2.heap.size = w.heap.size + 1 + 1 := by rw [hW2]; simp [z1]
  have z3 : W3.heap.size = w.heap.size + 3 := by rw [hW3]; simp [z2]
  have b1 : Below w.heap.size w W1 := by rw [hW1]; exact (Below.refl _ _).alloc (Nat.le_refl _) _
  have b2 : Below w.heap.size w W2 := by rw [hW2]; exact alB b1 _
  have B0 : Hid (Below w.heap.size w W3) := by rw [hW3]; exact alB b2 _
  have XA : Hid (Bxs W3 w.heap.size 29 #[.slice p1 ss.length c1, .slice p2 ps.length c2]) := by rw [hW3, hW2, hW1]; exact ((Bxs.new _ _ _).alloc _).alloc _
  have XR : Hid (Bxs W3 (w.heap.size + 1) 39 #[.slice none 0 0, .slice none 0 0]) := by rw [hW3]; refine Bxs.alloc ?_ _; rw [hW2, ← z1]; exact Bxs.new _ _ _
  have XO : Hid (Bxs W3 (w.heap.size + 1 + 1) 39 #[.slice none 0 0, .slice none 0 0]) := by rw [hW3, ← z2]; exact Bxs.new _ _ _
  have HW3 : Hid (W3 = ((w.alloc (.cells #[.slice p1 ss.length c1, .slice p2 ps.length c2] 29)).alloc (.cells #[.slice none 0 0, .slice none 0 0] 39)).alloc (.cells #[.slice none 0 0, .slice none 0 0] 39)) := by rw [hW3, hW2, hW1]; exact rfl
  have HC := toU_any p1 c1 ss W3 (h1.below B0.out) n1 m1
  have HT2 : Hid (IntAt w p2 ps) := h2
  have HZ3 : Hid (W3.heap.size = w.heap.size + 3) := z3
  clear hW1 hW2 hW3 z1 z2 z3 b1 b2 h1 h2
  go_enter Tryz.func14, Tryz.ntmps14
  go_wp2_with fail
  rw [← HW3.out]
  refine HC.mono ?_
  rintro e w4 ⟨rfl, hB4, b4⟩
  rw [HZ3.out] at hB4 ⊢
  have hz4 := b4.size
  have xo := XO.out.below b4
  have o0 : w4.cell? ⟨w.heap.size + 1 + 1, 0, none⟩ = some (.slice none 0 0) := xo.cell 0
  have fo := xo.fr 0
  obtain ⟨W5, hW5⟩ : ∃ W5, W5 = w4.setCell ⟨w.heap.size + 1 + 1, 0, none⟩ (.slice (some ⟨w.heap.size + 3, 0, none⟩) ss.length ss.length) := ⟨_, rfl⟩
  have HW5 : Hid (W5 = w4.setCell ⟨w.heap.size + 1 + 1, 0, none⟩ (.slice (some ⟨w.heap.size + 3, 0, none⟩) ss.length ss.length)) := hW5
  have z5 : W5.heap.size = w4.heap.size := by rw [hW5]; simp [World.setCell]
  have bb5 := (chainB B0.out b4).setCell (p := ⟨w.heap.size + 1 + 1, 0, none⟩) (by show w.heap.size ≤ w.heap.size + 1 + 1; omega) (.slice (some ⟨w.heap.size + 3, 0, none⟩) ss.length ss.length)
  rw [← hW5] at bb5
  have HB5 : Hid (Below w.heap.size w W5) := bb5
  have XA5 : Hid (Bxs W5 w.heap.size 29 #[.slice p1 ss.length c1, .slice p2 ps.length c2]) := by rw [hW5]; exact (XA.out.below b4).other _ _ (by omega) _
  have XR5 : Hid (Bxs W5 (w.heap.size + 1) 39 #[.slice none 0 0, .slice none 0 0]) := by rw [hW5]; exact (XR.out.below b4).other _ _ (by omega) _
  have XO5 : Hid (Bxs W5 (w.heap.size + 1 + 1) 39 #[.slice (some ⟨w.heap.size + 3, 0, none⟩) ss.length ss.length, .slice none 0 0]) := by rw [hW5]; exact xo.set 0 _
  have HK5 : Hid (BlkU W5 (w.heap.size + 3) ss) := by rw [hW5]; exact hB4.setOther _ _ (by omega) _
  have HC2 := toI_any p2 c2 ps W5 (HT2.out.below HB5.out) n2 m2
  rw [z5] at HC2
  have a1 : W5.cell? ⟨w.heap.size, 1, none⟩ = some (.slice p2 ps.length c2) := XA5.out.cell 1
  rw [hW5] at a1
  have hlt : w.heap.size + 3 < w4.heap.size := Bxs.lt hB4
  clear hW5 bb5 hB4 b4 xo XA XR XO HT2 HC
  go_wp2_with fail
  rw [← HW5.out]
  refine HC2.mono ?_
  rintro e w6 ⟨rfl, hB6, b6⟩
  have b6 : Below W5.heap.size W5 w6 := by rw [z5]; exact b6
  have xo := XO5.out.below b6
  have xr := XR5.out.below b6
  have g0 : w6.cell? ⟨w.heap.size + 1 + 1, 0, none⟩ = some (.slice (some ⟨w.heap.size + 3, 0, none⟩) ss.length ss.length) := xo.cell 0
  have g1 : w6.cell? ⟨w.heap.size + 1 + 1, 1, none⟩ = some (.slice none 0 0) := xo.cell 1
  have fg := xo.fr 1
  have r0 : w6.cell? ⟨w.heap.size + 1, 0, none⟩ = some (.slice none 0 0) := xr.cell 0
  have r1 : w6.cell? ⟨w.heap.size + 1, 1, none⟩ = some (.slice none 0 0) := xr.cell 1
  have e0 := xr.fr 0
  have e1 := xr.fr 1
  have HEnd : Hid (∀ v0 v1 v2 : Value, BlkU (((w6.setCell ⟨w.heap.size + 1 + 1, 1, none⟩ v0).setCell ⟨w.heap.size + 1, 0, none⟩ v1).setCell ⟨w.heap.size + 1, 1, none⟩ v2) (w.heap.size + 3) ss ∧ BlkI (((w6.setCell ⟨w.heap.size + 1 + 1, 1, none⟩ v0).setCell ⟨w.heap.size + 1, 0, none⟩ v1).setCell ⟨w.heap.size + 1, 1, none⟩ v2) w4.heap.size ps ∧ Below w.heap.size w (((w6.setCell ⟨w.heap.size + 1 + 1, 1, none⟩ v0).setCell ⟨w.heap.size + 1, 0, none⟩ v1).setCell ⟨w.heap.size + 1, 1, none⟩ v2)) := by
    intro v0 v1 v2
    have k1 := HK5.out.below b6
    have hb := chainB HB5.out b6
    exact ⟨((k1.setOther _ _ (by omega) _).setOther _ _ (by omega) _).setOther _ _ (by omega) _, ((hB6.setOther _ _ (by omega) _).setOther _ _ (by omega) _).setOther _ _ (by omega) _, ((hb.setCell (by show w.heap.size ≤ w.heap.size + 1 + 1; omega) _).setCell (by show w.heap.size ≤ w.heap.size + 1; omega) _).setCell (by show w.heap.size ≤ w.heap.size + 1; omega) _⟩
  clear hB6 b6 xo xr z5 HC2 XA5 XR5 XO5 HK5 HB5 HW5 a1 o0 fo
  go_wp2_with fail
  refine bodyPost_ret (v := .agg #[.slice (some ⟨w.heap.size + 3, 0, none⟩) ss.length ss.length, .slice (some ⟨w4.heap.size, 0, none⟩) ps.length ps.length]) (by simp [results, Tryz.results14, go_sem, r0, r1]) rfl ?_
  exact ⟨w.heap.size + 3, w4.heap.size, by omega, hlt, rfl, HEnd.out _ _ _⟩

set_option maxHeartbeats 1000000 in
theorem eqPolicy_any (p1 p2 q1 q2 : Option Addr) (c1 c2 d1 d2 : Nat) (ss : List Rul) (ps : List Int) (w : World) (h1 : RulAt w p1 ss) (h2 : IntAt w p2 ps) (g1 : RulAt w q1 ss) (g2 : IntAt w q2 ps) (n1 : ss.length ≤ 1048576) (n2 : ps.length ≤ 1048576) (m1 : ss.length ≤ c1) (m2 : ps.length ≤ c2) (m3 : ss.length ≤ d1) (m4 : ps.length ≤ d2) :
    Calls Tryz.prog 18 #[.agg #[.slice p1 ss.length c1, .slice p2 ps.length c2], .agg #[.slice q1 ss.length d1, .slice q2 ps.length d2]] w fun e w' => e = .returned (.bool true) ∧ Below w.heap.size w w' := by
  obtain ⟨W0, hW0⟩ : ∃ W0, W0 = w.alloc (.cells #[.slice p1 ss.length c1, .slice p2 ps.length c2] 39) := ⟨_, rfl⟩
  have hz : W0.heap.size = w.heap.size + 1 := by rw [hW0]; simp
  obtain ⟨W1, hW1⟩ : ∃ W1, W1 = W0.alloc (.cells #[.slice q1 ss.length d1, .slice q2 ps.length d2] 39) := ⟨_, rfl⟩
  have HW1 : Hid (W1 = (w.alloc (.cells #[.slice p1 ss.length c1, .slice p2 ps.length c2] 39)).alloc (.cells #[.slice q1 ss.length d1, .slice q2 ps.length d2] 39)) := by rw [hW1, hW0]; exact rfl
  have hB0 : Below w.heap.size w W0 := by rw [hW0]; exact (Below.refl _ _).alloc (Nat.le_refl _) _
  have B1 : Hid (Below w.heap.size w W1) := by rw [hW1]; exact alB hB0 _
  have X1 : Hid (Bxs W1 w.heap.size 39 #[.slice p1 ss.length c1, .slice p2 ps.length c2]) := by rw [hW1]; refine Bxs.alloc ?_ _; rw [hW0]; exact Bxs.new _ _ _
  have X2 : Hid (Bxs W1 (w.heap.size + 1) 39 #[.slice q1 ss.length d1, .slice q2 ps.length d2]) := by rw [hW1, ← hz]; exact Bxs.new _ _ _
  have hE := eqU_any p1 q1 c1 d1 ss W1 (h1.below B1.out) (g1.below B1.out) n1 m1 m3
  have T2 : Hid (IntAt W1 p2 ps ∧ IntAt W1 q2 ps) := ⟨h2.below B1.out, g2.below B1.out⟩
  clear hW1 hW0 h1 h2 g1 g2 hB0 hz
  go_enter Tryz.func18, Tryz.ntmps18
  go_wp2_with fail
  rw [← HW1.out]
  refine hE.mono ?_
  rintro e w1 ⟨rfl, b1⟩
  have x1 : w1.cell? ⟨w.heap.size, 1, none⟩ = some (.slice p2 ps.length c2) := (X1.out.below b1).cell 1
  have x2 : w1.cell? ⟨w.heap.size + 1, 1, none⟩ = some (.slice q2 ps.length d2) := (X2.out.below b1).cell 1
  have hF := eqI_any p2 q2 c2 d2 ps w1 (T2.out.1.below b1) (T2.out.2.below b1) n2 m2 m4
  have b1 := chainB B1.out b1
  clear hE T2
  go_wp2_with fail
  refine hF.mono ?_
  rintro e w2 ⟨rfl, b2⟩
  have b2 := chainB b1 b2
  clear hF x1 x2
  go_wp2_with fail
  go_ret
  exact ⟨rfl, b2⟩

end Go.Proofs.YtpijadhfdpihkaaGreatDoor
