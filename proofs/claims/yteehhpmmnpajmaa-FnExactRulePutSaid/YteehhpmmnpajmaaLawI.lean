/-
  What the laws' own helpers answer for slices of numbers: toInt64S (a copy in new memory), eqInt64S (of two that are alike), markInt64S.
  Conditions: the slices' cells hold the numbers.
-/
import Derived.Test.YteehhpmmnpajmaaRows
import Derived.Test.YteehhpmmnpajmaaBytes
import Derived.Test.YteehhpmmnpajmaaSlA
import Derived.Test.YteehhpmmnpajmaaIntK
import Derived.Handy
import Derived.WalkSpells
import Derived.OwnWalk
import Derived.Deep.QuietTactic
import Derived.BigQuiet
namespace Go.Proofs.Yteehhpmmnpajmaa
open Go.RowKit Go.Lib
set_option linter.unusedVariables false
set_option maxRecDepth 20000

theorem belowDi {B : Nat} {a w : World} (h : Below B a w) (n : Nat) : Below B a (w.drewN n) := ⟨h.os, h.tape, h.output, h.size, h.block⟩
def intRow (ks : List Int) : List Value := ks.map (Value.int .i64)
/-- A block that holds these numbers and no more. -/
def BlkI (w : World) (g : Nat) (ks : List Int) : Prop := w.heap[g]? = some (.cells (intRow ks).toArray 2 (0, 0))
theorem BlkI.lt {w : World} {g : Nat} {ks : List Int} (h : BlkI w g ks) : g < w.heap.size := lt_of_block h
theorem BlkI.below {w w' : World} {g : Nat} {ks : List Int} (h : BlkI w g ks) {B : Nat} (hb : Below B w w') (hg : g < B) : BlkI w' g ks := (hb.block g hg).trans h
theorem BlkI.cell {w : World} {g : Nat} {ks : List Int} (h : BlkI w g ks) (i : Nat) (hi : i < ks.length) : w.cell? ⟨g, i, none⟩ = some (.int .i64 ks[i]) ∧ w.frozen? ⟨g, i, none⟩ = false := by
  unfold BlkI at h
  constructor
  · simp [World.cell?, h, intRow, hi]
  · simp [World.frozen?, h]
theorem BlkI.int {w : World} {g : Nat} {ks : List Int} (h : BlkI w g ks) : IntAt w (some ⟨g, 0, none⟩) ks := fun i hi => ⟨g, 0, rfl, h.lt, by rw [Nat.zero_add]; exact (h.cell i hi).1⟩
theorem BlkI.set {w : World} {g : Nat} {ks : List Int} (h : BlkI w g ks) (k : Nat) (s : Int) : BlkI (w.setCell ⟨g, k, none⟩ (.int .i64 s)) g (ks.set k s) := by
  unfold BlkI at h ⊢
  simp [World.setCell, Array.getElem?_modify, h, intRow, List.map_set]
def cutI (ks : List Int) (k : Nat) : List Int := ks.take k ++ List.replicate (ks.length - k) 0
theorem cutI_len (ks : List Int) (k : Nat) (h : k ≤ ks.length) : (cutI ks k).length = ks.length := by simp [cutI]; omega
theorem cutI_set (ks : List Int) (k : Nat) (h : k < ks.length) : (cutI ks k).set k ks[k] = cutI ks (k + 1) := by
  unfold cutI
  rw [show ks.length - k = (ks.length - (k + 1)) + 1 by omega, List.replicate_succ]
  have hl : (ks.take k).length = k := by simp; omega
  rw [List.set_append_right _ _ (by omega), hl, Nat.sub_self, List.set_cons_zero, List.take_succ_eq_append_getElem h, List.append_assoc]; rfl
theorem infoI64k : (Try.prog.info? 2).map (fun i => (i.zero, i.size, i.bytes)) = some (some (.int .i64 0), 1, 8) := by kernel_rfl
theorem made_i64 (n : Nat) : madeCells #[.int .i64 0] n = (intRow (List.replicate n 0)).toArray := by
  unfold madeCells intRow
  apply Array.ext
  · simp
  · intro i h1 h2; simp [Nat.mod_one]
theorem run_make_i64 (n : Nat) (hn : n ≤ 1048576) (w : World) :
    (Instr.makeSlice 24 (.int .i64 (n : Int)) (.int .i64 (n : Int))).run Try.prog w = .ok (.slice (some ⟨w.heap.size, 0, none⟩) n n) (w.alloc (.cells (intRow (List.replicate n 0)).toArray 2)) := by
  obtain ⟨i0, hi, hz0, hz1, hz2⟩ := info_parts infoI64k
  have := run_make (P := Try.prog) w 24 2 i0 _ Try.underlying24 hi hz0 .i64 .i64 (n : Int) (n : Int) (by omega) (by omega) (by rw [hz2]; omega) (by omega)
  rw [this, hz1]
  simp only [Int.toNat_natCast, Nat.mul_one]
  rw [← made_i64]; rfl

set_option maxHeartbeats 1000000 in
theorem toI_any (p : Option Addr) (cap : Nat) (ks : List Int) (w : World) (hp : IntAt w p ks) (hn : ks.length ≤ 1048576) (hcap : ks.length ≤ cap) :
    Calls Try.prog 60 #[.slice p ks.length cap] w fun e w' => e = .returned (.slice (some ⟨w.heap.size, 0, none⟩) ks.length ks.length) ∧ BlkI w' w.heap.size ks ∧ Below w.heap.size w w' := by
  have HP : Hid (IntAt w p ks) := hp
  clear hp
  obtain ⟨W1, hW1⟩ : ∃ W1, W1 = w.alloc (.cells (intRow (List.replicate ks.length 0)).toArray 2) := ⟨_, rfl⟩
  have hmk := run_make_i64 ks.length hn w
  rw [← hW1] at hmk
  have H0 : Hid (BlkI W1 w.heap.size (cutI ks 0)) := by
    have : BlkI W1 w.heap.size (List.replicate ks.length 0) := by rw [hW1]; exact (MapKept.heap_alloc w _).1
    show BlkI _ _ _
    unfold cutI; simpa using this
  have B0 : Hid (Below w.heap.size w W1) := by rw [hW1]; exact (Below.refl _ _).alloc (Nat.le_refl _) _
  clear hW1
  go_enter Try.func60, Try.ntmps60
  go_wp2_with fail
  go_loopw [4] (fun i wr => ∃ k : Nat, k ≤ ks.length ∧ i = .int .i64 k ∧ Hid (BlkI wr w.heap.size (cutI ks k)) ∧ Hid (Below w.heap.size w wr)) (fun i _ => ks.length - (intOf i).toNat)
  case atStart => exact ⟨0, Nat.zero_le _, rfl, H0, B0⟩
  case round =>
    clear H0 hmk B0
    obtain ⟨k, hk, rfl, hrow, hnx⟩ := hrel
    by_cases hlt : k < ks.length
    · obtain ⟨b, off, rfl, hb, hck⟩ := HP.out k hlt
      have hc1 : wr.cell? ⟨b, off + k, none⟩ = some (.int .i64 ks[k]) := (hnx.out.cell (p := ⟨b, off + k, none⟩) hb).trans hck
      obtain ⟨hc2, hf2⟩ := hrow.out.cell k (by rw [cutI_len _ _ (by omega)]; exact hlt)
      have HR : Hid (BlkI (wr.setCell ⟨w.heap.size, k, none⟩ (.int .i64 ks[k])) w.heap.size (cutI ks (k + 1))) := by
        show BlkI _ _ _
        rw [← cutI_set ks k hlt]; exact hrow.out.set k _
      have HB : Hid (Below w.heap.size w (wr.setCell ⟨w.heap.size, k, none⟩ (.int .i64 ks[k]))) := hnx.out.setCell (Nat.le_refl _) _
      have i1 : (k : Int) < ks.length := by omega
      clear hck
      generalize ks[k] = q at *
      generalize (cutI ks k)[k]'_ = q2 at *
      go_wp2_with fail
      go_roundw
      case rel => exact ⟨k + 1, by omega, by go_num, HR, HB⟩
      case measure => simp [intOf]; omega
    · have hkk : k = ks.length := by omega
      subst hkk
      have HR : Hid (BlkI wr w.heap.size ks) := by
        have := hrow.out; unfold cutI at this; show BlkI _ _ _; simpa using this
      go_wp2_with fail
      go_ret
      exact ⟨rfl, HR.out, hnx.out⟩

set_option maxHeartbeats 1000000 in
theorem eqI_any (p q : Option Addr) (cap cap2 : Nat) (ks : List Int) (w : World) (hp : IntAt w p ks) (hq : IntAt w q ks) (hn : ks.length ≤ 1048576) (hcap : ks.length ≤ cap) (hcap2 : ks.length ≤ cap2) :
    Calls Try.prog 62 #[.slice p ks.length cap, .slice q ks.length cap2] w fun e w' => e = .returned (.bool true) ∧ Below w.heap.size w w' := by
  have HP : Hid (IntAt w p ks) := hp
  have HQ : Hid (IntAt w q ks) := hq
  clear hp hq
  go_enter Try.func62, Try.ntmps62
  go_wp2_with fail
  go_loopw [5] (fun i wr => ∃ k : Nat, k ≤ ks.length ∧ i = .int .i64 k ∧ Hid (Below w.heap.size w wr)) (fun i _ => ks.length - (intOf i).toNat)
  case atStart => exact ⟨0, Nat.zero_le _, rfl, Below.refl _ _⟩
  case round =>
    obtain ⟨k, hk, rfl, HB⟩ := hrel
    by_cases hlt : k < ks.length
    · obtain ⟨b, off, rfl, hb, hc1⟩ := (HP.out.below HB.out) k hlt
      obtain ⟨b2, off2, rfl, hb2, hd1⟩ := (HQ.out.below HB.out) k hlt
      have j5 : (k : Int) < ks.length := by omega
      generalize ks[k] = K at *
      go_wp2_with fail
      go_quiet (fail)
      go_wp2_with fail
      go_roundw
      case rel => exact ⟨k + 1, by omega, by go_num, belowDi HB.out _⟩
      case measure => simp [intOf]; omega
    · go_wp2_with fail
      go_ret
      exact ⟨rfl, HB.out⟩

set_option maxHeartbeats 1000000 in
theorem markI_any (s : Nat) (hs : s ≤ 16777216) (g n : Nat) (ks : List Int) (w : World) (hn : ks.length = n) (hl : n ≤ 1048576) (h : BlkI w g ks) :
    Calls Try.prog 64 #[.slice (some ⟨g, 0, none⟩) n n, .int .i64 (s : Int)] w fun e w' => e = .returned (.int .i64 ((n : Int) + s)) ∧ w.grownBy w' (some g) := by
  have H0 : Hid (∃ ls, ls.length = n ∧ BlkI w g ls) := ⟨ks, hn, h⟩
  clear h hn
  go_enter Try.func64, Try.ntmps64
  go_wp2_with fail
  go_loopw [5, 1] (fun i x wr => ∃ k : Nat, k ≤ n ∧ i = .int .i64 k ∧ x = .int .i64 ((k : Int) + s) ∧ Hid (∃ ls, ls.length = n ∧ BlkI wr g ls) ∧ Hid (w.grownBy wr (some g))) (fun i _ _ => n - (intOf i).toNat)
  case atStart => exact ⟨0, Nat.zero_le _, rfl, by simp, H0, World.grownBy.refl _ _⟩
  case round =>
    clear H0
    obtain ⟨k, hk, rfl, rfl, hrow, hgr⟩ := hrel
    by_cases hlt : k < n
    · obtain ⟨ls, hls, hb⟩ := hrow.out
      obtain ⟨c1, f1⟩ := hb.cell k (by omega)
      have i1 : (k : Int) < n := by omega
      have HR : Hid (∃ ls, ls.length = n ∧ BlkI (wr.setCell ⟨g, k, none⟩ (.int .i64 ((k : Int) + s))) g ls) := ⟨ls.set k ((k : Int) + s), by simpa using hls, hb.set k _⟩
      have HG : Hid (w.grownBy (wr.setCell ⟨g, k, none⟩ (.int .i64 ((k : Int) + s))) (some g)) := by
        have a := hgr.out
        refine ⟨a.os, a.tape, a.output, by simpa [World.setCell] using a.size, fun q hq hne => ?_⟩
        have hqg : g ≠ q := fun e => hne (by rw [e])
        rw [show (wr.setCell ⟨g, k, none⟩ (.int .i64 ((k : Int) + s))).heap[q]? = wr.heap[q]? by simp [World.setCell, Array.getElem?_modify, hqg]]
        exact a.block q hq hne
      generalize ls[k]'_ = K at *
      clear hb hrow hgr hls
      go_wp2_with fail
      go_roundw
      case rel => exact ⟨k + 1, by omega, by go_num, by go_num, HR, HG⟩
      case measure => simp [intOf]; omega
    · obtain rfl : k = n := by omega
      go_wp2_with fail
      go_ret
      exact ⟨rfl, hgr.out⟩
end Go.Proofs.Yteehhpmmnpajmaa
