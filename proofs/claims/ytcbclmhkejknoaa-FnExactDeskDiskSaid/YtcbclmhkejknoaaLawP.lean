/-
  What the laws' own helpers answer for slices of pendings: szPendingS, toPendingS (a copy in new memory), eqPendingS (of two that are alike).
  Conditions: the slices' cells hold the pendings.
-/
import Derived.Test.YtcbclmhkejknoaaRows
import Derived.Test.YtcbclmhkejknoaaBytes
import Derived.Test.YtcbclmhkejknoaaSlA
import Derived.Test.YtcbclmhkejknoaaSlB
import Derived.Test.YtcbclmhkejknoaaOwnS
import Derived.Test.YtcbclmhkejknoaaDskMath
import Derived.Test.YtcbclmhkejknoaaDskA
import Derived.Handy
import Derived.WalkSpells
import Derived.OwnWalk
import Derived.Deep.RegionLaw
import Derived.Deep.RegionWith
namespace Go.Proofs.Ytcbclmhkejknoaa
open Go.RowKit Go.Lib
set_option linter.unusedVariables false
set_option maxRecDepth 20000

/-- A block that holds these pendings and no more. -/
def BlkP (w : World) (g : Nat) (l : List Pnd) : Prop := w.heap[g]? = some (.cells (pndRow l).toArray 53 (0, 0))
theorem BlkP.lt {w : World} {g : Nat} {l : List Pnd} (h : BlkP w g l) : g < w.heap.size := lt_of_block h
theorem BlkP.below {w w' : World} {g : Nat} {l : List Pnd} (h : BlkP w g l) {B : Nat} (hb : Below B w w') (hg : g < B) : BlkP w' g l := (hb.block g hg).trans h
theorem BlkP.cell {w : World} {g : Nat} {l : List Pnd} (h : BlkP w g l) (i : Nat) (hi : i < l.length) : w.cell? ⟨g, i * 2, none⟩ = some (.int .i64 l[i].1) ∧ w.cell? ⟨g, i * 2 + 1, none⟩ = some (.string l[i].2) ∧ (∀ j, w.frozen? ⟨g, j, none⟩ = false) := by
  unfold BlkP at h
  have hr := pndRow_at l i hi
  refine ⟨?_, ?_, fun j => ?_⟩
  · simp [World.cell?, h, hr.1]
  · simp [World.cell?, h, hr.2]
  · simp [World.frozen?, h]
theorem BlkP.pnd {w : World} {g : Nat} {l : List Pnd} (h : BlkP w g l) : PndAt w (some ⟨g, 0, none⟩) l := fun i hi => ⟨g, 0, rfl, h.lt, by rw [Nat.zero_add]; exact ⟨(h.cell i hi).1, (h.cell i hi).2.1⟩⟩
theorem BlkP.setOther {w : World} {g : Nat} {l : List Pnd} (h : BlkP w g l) (g' k : Nat) (hne : g' ≠ g) (v : Value) : BlkP (w.setCell ⟨g', k, none⟩ v) g l := by
  unfold BlkP at h ⊢
  have : (w.setCell ⟨g', k, none⟩ v).heap[g]? = w.heap[g]? := by simp [World.setCell, Array.getElem?_modify, hne]
  rw [this, h]
theorem BlkP.own {w : World} {g : Nat} {l : List Pnd} (h : BlkP w g l) (base : Nat) (hb : base ≤ g) (hm : l.length ≤ maxLen) : w.ownsRow base 53 2 (.slice (some ⟨g, 0, none⟩) l.length l.length) l.length (pndRow l) :=
  ⟨pndRow_len l, .inr ⟨g, l.length, (pndRow l).toArray, rfl, hb, h, Nat.le_refl _, hm, by rw [List.size_toArray, pndRow_len], List.take_of_length_le (by rw [pndRow_len]; exact Nat.le_refl _)⟩⟩
theorem pndRow_set (l : List Pnd) : ∀ (k : Nat) (p : Pnd), ((pndRow l).set (k * 2) (.int .i64 p.1)).set (k * 2 + 1) (.string p.2) = pndRow (l.set k p) ∨ ¬ k < l.length := by
  induction l with
  | nil => intro k p; exact .inr (by simp)
  | cons q l ih =>
    intro k p
    match k with
    | 0 => exact .inl rfl
    | k + 1 =>
      rcases ih k p with h | h
      · left
        have e : pndRow (q :: l) = .int .i64 q.1 :: .string q.2 :: pndRow l := rfl
        rw [e, show (k + 1) * 2 = k * 2 + 2 by omega, List.set_cons_succ, List.set_cons_succ, List.set_cons_succ, List.set_cons_succ, h]
        rfl
      · exact .inr (by simpa using h)
theorem BlkP.set {w : World} {g : Nat} {l : List Pnd} (h : BlkP w g l) (k : Nat) (hk : k < l.length) (a : Int) (D : ByteArray) : BlkP ((w.setCell ⟨g, k * 2, none⟩ (.int .i64 a)).setCell ⟨g, k * 2 + 1, none⟩ (.string D)) g (l.set k (a, D)) := by
  rcases pndRow_set l k (a, D) with e | e
  · unfold BlkP at h ⊢
    rw [← e]
    simp [World.setCell, Array.getElem?_modify, h]
  · exact absurd hk e
def cutP (ps : List Pnd) (k : Nat) : List Pnd := ps.take k ++ List.replicate (ps.length - k) (0, ByteArray.empty)
theorem cutP_len (ps : List Pnd) (k : Nat) (h : k ≤ ps.length) : (cutP ps k).length = ps.length := by simp [cutP]; omega
theorem cutP_set (ps : List Pnd) (k : Nat) (h : k < ps.length) : (cutP ps k).set k ps[k] = cutP ps (k + 1) := by
  unfold cutP
  rw [show ps.length - k = (ps.length - (k + 1)) + 1 by omega, List.replicate_succ]
  have hl : (ps.take k).length = k := by simp; omega
  rw [List.set_append_right _ _ (by omega), hl, Nat.sub_self, List.set_cons_zero, List.take_succ_eq_append_getElem h, List.append_assoc]; rfl
theorem made_pnd (n : Nat) : madeCells #[.int .i64 0, .string ByteArray.empty] (n * 2) = (pndRow (List.replicate n (0, ByteArray.empty))).toArray := by
  unfold madeCells
  apply Array.ext
  · simp [pndRow_len]
  · intro i h1 h2
    have hi : i < n * 2 := by simpa using h1
    have hr := pndRow_at (List.replicate n ((0 : Int), ByteArray.empty)) (i / 2) (by simp; omega)
    rcases Nat.mod_two_eq_zero_or_one i with h | h
    · have e : i / 2 * 2 = i := by omega
      rw [e] at hr
      have := hr.1
      rw [List.getElem?_eq_getElem (by simpa using h2)] at this
      simp [h] at this ⊢
      exact this.symm
    · have e : i / 2 * 2 + 1 = i := by omega
      rw [e] at hr
      have := hr.2
      rw [List.getElem?_eq_getElem (by simpa using h2)] at this
      simp [h] at this ⊢
      exact this.symm
theorem run_make_pnd (n : Nat) (hn : n ≤ 1048576) (w : World) :
    (Instr.makeSlice 23 (.int .i64 (n : Int)) (.int .i64 (n : Int))).run Try.prog w = .ok (.slice (some ⟨w.heap.size, 0, none⟩) n n) (w.alloc (.cells (pndRow (List.replicate n (0, ByteArray.empty))).toArray 53)) := by
  obtain ⟨i0, hi, hz0, hz1, hz2⟩ := info_parts infoPnd
  have := run_make (P := Try.prog) w 23 53 i0 _ Try.underlying23 hi hz0 .i64 .i64 (n : Int) (n : Int) (by omega) (by omega) (by rw [hz2]; omega) (by omega)
  rw [this, hz1]
  simp only [Int.toNat_natCast]
  rw [← made_pnd]; rfl

def SzPn (r l0 : Int) (ps : List Pnd) : Prop := r = -1 ∨ (0 ≤ r ∧ r ≤ l0 ∧ ps.length ≤ 1048576 ∧ ∀ p ∈ ps, p.2.size ≤ 1048576)
theorem eqPend_any (a : Int) (D : ByteArray) (w : World) :
    Calls Try.prog 28 #[.agg #[.int .i64 a, .string D], .agg #[.int .i64 a, .string D]] w fun e w' => e = .returned (.bool true) ∧ Below w.heap.size w w' := by
  have B1 : Below w.heap.size w ((w.alloc (.cells #[.int .i64 a, .string D] 53)).alloc (.cells #[.int .i64 a, .string D] 53)) := alB (alB (Below.refl _ _) _) _
  go_enter Try.func28, Try.ntmps28
  go_wp2_with fail
  go_ret
  exact ⟨rfl, B1⟩

set_option maxHeartbeats 1000000 in
theorem eqP_any (p q : Option Addr) (cap cap2 : Nat) (ps : List Pnd) (w : World) (hp : PndAt w p ps) (hq : PndAt w q ps) (hn : ps.length ≤ 1048576) (hcap : ps.length ≤ cap) (hcap2 : ps.length ≤ cap2) :
    Calls Try.prog 14 #[.slice p ps.length cap, .slice q ps.length cap2] w fun e w' => e = .returned (.bool true) ∧ Below w.heap.size w w' := by
  have HP : Hid (PndAt w p ps) := hp
  have HQ : Hid (PndAt w q ps) := hq
  clear hp hq
  go_enter Try.func14, Try.ntmps14
  go_wp2_with fail
  go_loopw [5] (fun i wr => ∃ k : Nat, k ≤ ps.length ∧ i = .int .i64 k ∧ Hid (Below w.heap.size w wr)) (fun i _ => ps.length - (intOf i).toNat)
  case atStart => exact ⟨0, Nat.zero_le _, rfl, Below.refl _ _⟩
  case round =>
    obtain ⟨k, hk, rfl, HB⟩ := hrel
    by_cases hlt : k < ps.length
    · obtain ⟨b, off, rfl, hb, hc1, hc2⟩ := (HP.out.below HB.out) k hlt
      obtain ⟨b2, off2, rfl, hb2, hd1, hd2⟩ := (HQ.out.below HB.out) k hlt
      have j5 : (k : Int) < ps.length := by omega
      generalize ps[k] = P at *
      obtain ⟨a, D⟩ := P
      have hc1 : wr.cell? ⟨b, off + k * 2, none⟩ = some (.int .i64 a) := hc1
      have hc2 : wr.cell? ⟨b, off + k * 2 + 1, none⟩ = some (.string D) := hc2
      have hd1 : wr.cell? ⟨b2, off2 + k * 2, none⟩ = some (.int .i64 a) := hd1
      have hd2 : wr.cell? ⟨b2, off2 + k * 2 + 1, none⟩ = some (.string D) := hd2
      go_wp2_with fail
      go_region_with (first | (go_at_call 28; refine (eqPend_any a D _).mono ?_; rintro e y1 ⟨rfl, z1⟩; have z1 : Below w.heap.size w y1 := chainB (by first | exact HB.out | exact HB.out.drew) z1))
      all_goals
        have HB1 : Hid (Below w.heap.size w y1) := z1
        clear z1
        go_wp2_with fail
        go_roundw
        case rel => exact ⟨k + 1, by omega, by go_num, HB1⟩
        case measure => simp [intOf]; omega
    · go_wp2_with fail
      go_ret
      exact ⟨rfl, HB.out⟩
end Go.Proofs.Ytcbclmhkejknoaa
