/-
  What the laws' own helpers answer for slices of pendings: szPendingS, toPendingS (a copy in new memory), eqPendingS (of two that are alike).
  Conditions: the slices' cells hold the pendings.
-/
import Derived.Test.YtnppgldafhpchaaDoorRows
import Derived.Test.YtnppgldafhpchaaDoorBytes
import Derived.Test.YtnppgldafhpchaaDoorSlASlBOwnS
import Derived.Test.YtnppgldafhpchaaDoorDskMath
import Derived.Test.YtnppgldafhpchaaDoorDskA
import Derived.Handy
import Derived.WalkSpells
import Derived.OwnWalk
import Derived.Deep.RegionLaw
import Derived.Deep.RegionWith
namespace Go.Proofs.YtnppgldafhpchaaDoor
open Go.RowKit Go.Lib
set_option linter.unusedVariables false
set_option maxRecDepth 20000

/-- A block that holds these pendings and no more. -/
def BlkP (w : World) (g : Nat) (l : List Pnd) : Prop := w.heap[g]? = some (.cells (pndRow l).toArray 65 (0, 0))
theorem BlkP.lt {w : World} {g : Nat} {l : List Pnd} (h : BlkP w g l) : g < w.heap.size := lt_of_block h
theorem BlkP.below {w w' : World} {g : Nat} {l : List Pnd} (h : BlkP w g l) {B : Nat} (hb : Below B w w') (hg : g < B) : BlkP w' g l := (hb.block g hg).trans h
theorem BlkP.cell {w : World} {g : Nat} {l : List Pnd} (h : BlkP w g l) (i : Nat) (hi : i < l.length) : w.cell? ⟨g, i * 2, none⟩ = some (.int .i64 l[i].1) ∧ w.cell? ⟨g, i * 2 + 1, none⟩ = some (.string l[i].2) ∧ (∀ j, w.frozen? ⟨g, j, none⟩ = false) := by
  unfold BlkP at h
  have hr := pndRow_at l i hi
  refine ⟨?_, ?_, fun j => ?_⟩
  · simp [World.cell?, h, hr.1]
  · simp [World.cell?, h, hr.2]
  · simp [World.frozen?, h]
theorem BlkP.pnd {w : World} {g : Nat} {l : List Pnd} (h : BlkP w g l) : PndAt w (some ⟨g, 0, none⟩) l := fun i hi => ⟨g, 0, rfl, h.lt, by rw [Nat.zero_add]; exact ⟨(h.cell i hi).1, (h.cell i hi).2.1⟩⟩
theorem BlkP.setOther {w : World} {g : Nat} {l : List Pnd} (h : BlkP w g l) (g' k : Nat) (hne : g' ≠ g) (v : Value) : BlkP (w.setCell ⟨g', k, none⟩ v) g l := by
  unfold BlkP at h ⊢
  have : (w.setCell ⟨g', k, none⟩ v).heap[g]? = w.heap[g]? := by simp [World.setCell, Array.getElem?_modify, hne]
  rw [this, h]
theorem BlkP.own {w : World} {g : Nat} {l : List Pnd} (h : BlkP w g l) (base : Nat) (hb : base ≤ g) (hm : l.length ≤ maxLen) : w.ownsRow base 65 2 (.slice (some ⟨g, 0, none⟩) l.length l.length) l.length (pndRow l) :=
  ⟨pndRow_len l, .inr ⟨g, l.length, (pndRow l).toArray, rfl, hb, h, Nat.le_refl _, hm, by rw [List.size_toArray, pndRow_len], List.take_of_length_le (by rw [pndRow_len]; exact Nat.le_refl _)⟩⟩
theorem pndRow_set (l : List Pnd) : ∀ (k : Nat) (p : Pnd), ((pndRow l).set (k * 2) (.int .i64 p.1)).set (k * 2 + 1) (.string p.2) = pndRow (l.set k p) ∨ ¬ k < l.length := by
  induction l with
  | nil => intro k p; exact .inr (by simp)
  | cons q l ih =>
    intro k p
    match k with
    | 0 => exact .inl rfl
    | k + 1 =>
      rcases ih k p with h | h
      · left
        have e : pndRow (q :: l) = .int .i64 q.1 :: .string q.2 :: pndRow l := rfl
        rw [e, show (k + 1) * 2 = k * 2 + 2 by omega, List.set_cons_succ, List.set_cons_succ, List.set_cons_succ, List.set_cons_succ, h]
        rfl
      · exact .inr (by simpa using h)
theorem BlkP.set {w : World} {g : Nat} {l : List Pnd} (h : BlkP w g l) (k : Nat) (hk : k < l.length) (a : Int) (D : ByteArray) : BlkP ((w.setCell ⟨g, k * 2, none⟩ (.int .i64 a)).setCell ⟨g, k * 2 + 1, none⟩ (.string D)) g (l.set k (a, D)) := by
  rcases pndRow_set l k (a, D) with e | e
  · unfold BlkP at h ⊢
    rw [← e]
    simp [World.setCell, Array.getElem?_modify, h]
  · exact absurd hk e
def cutP (ps : List Pnd) (k : Nat) : List Pnd := ps.take k ++ List.replicate (ps.length - k) (0, ByteArray.empty)
theorem cutP_len (ps : List Pnd) (k : Nat) (h : k ≤ ps.length) : (cutP ps k).length = ps.length := by simp [cutP]; omega
theorem cutP_set (ps : List Pnd) (k : Nat) (h : k < ps.length) : (cutP ps k).set k ps[k] = cutP ps (k + 1) := by
  unfold cutP
  rw [show ps.length - k = (ps.length - (k + 1)) + 1 by omega, List.replicate_succ]
  have hl : (ps.take k).length = k := by simp; omega
  rw [List.set_append_right _ _ (by omega), hl, Nat.sub_self, List.set_cons_zero, List.take_succ_eq_append_getElem h, List.append_assoc]; rfl
theorem made_pnd (n : Nat) : madeCells #[.int .i64 0, .string ByteArray.empty] (n * 2) = (pndRow (List.replicate n (0, ByteArray.empty))).toArray := by
  unfold madeCells
  apply Array.ext
  · simp [pndRow_len]
  · intro i h1 h2
    have hi : i < n * 2 := by simpa using h1
    have hr := pndRow_at (List.replicate n ((0 : Int), ByteArray.empty)) (i / 2) (by simp; omega)
    rcases Nat.mod_two_eq_zero_or_one i with h | h
    · have e : i / 2 * 2 = i := by omega
      rw [e] at hr
      have := hr.1
      rw [List.getElem?_eq_getElem (by simpa using h2)] at this
      simp [h] at this ⊢
      exact this.symm
    · have e : i / 2 * 2 + 1 = i := by omega
      rw [e] at hr
      have := hr.2
      rw [List.getElem?_eq_getElem (by simpa using h2)] at this
      simp [h] at this ⊢
      exact this.symm
theorem run_make_pnd (n : Nat) (hn : n ≤ 1048576) (w : World) :
    (Instr.makeSlice 28 (.int .i64 (n : Int)) (.int .i64 (n : Int))).run Tryd.prog w = .ok (.slice (some ⟨w.heap.size, 0, none⟩) n n) (w.alloc (.cells (pndRow (List.replicate n (0, ByteArray.empty))).toArray 65)) := by
  obtain ⟨i0, hi, hz0, hz1, hz2⟩ := info_parts infoPnd
  have := run_make (P := Tryd.prog) w 28 65 i0 _ Tryd.underlying28 hi hz0 .i64 .i64 (n : Int) (n : Int) (by omega) (by omega) (by rw [hz2]; omega) (by omega)
  rw [this, hz1]
  simp only [Int.toNat_natCast]
  rw [← made_pnd]; rfl

theorem szPend_any (a : Int) (D : ByteArray) (l : Int) (w : World) (l0 : 0 ≤ l) (l1 : l ≤ 1048576) (hD : D.size ≤ 9223372036854775807) :
    Calls Tryd.prog 19 #[.agg #[.int .i64 a, .string D], .int .i64 l] w fun e w' => e = .returned (.int .i64 (if (D.size : Int) ≤ l then l - D.size else -1)) ∧ Below w.heap.size w w' := by
  have B1 : Below w.heap.size w (w.alloc (.cells #[.int .i64 a, .string D] 54)) := (Below.refl _ _).alloc (Nat.le_refl _) _
  by_cases h : (D.size : Int) ≤ l
  · rw [if_pos h]
    go_enter Tryd.func19, Tryd.ntmps19
    go_wp2
    go_ret
    exact ⟨rfl, B1⟩
  · rw [if_neg h]
    go_enter Tryd.func19, Tryd.ntmps19
    go_wp2
    go_ret
    exact ⟨rfl, B1⟩

def SzPn (r l0 : Int) (ps : List Pnd) : Prop := r = -1 ∨ (0 ≤ r ∧ r ≤ l0 ∧ ps.length ≤ 1048576 ∧ ∀ p ∈ ps, p.2.size ≤ 1048576)
set_option maxHeartbeats 1000000 in
theorem szP_any (l0 : Int) (l00 : 0 ≤ l0) (l01 : l0 ≤ 1048576) (p : Option Addr) (cap : Nat) (ps : List Pnd) (w : World) (hp : PndAt w p ps) (hn : ps.length ≤ 9223372036854775807) (hcap : ps.length ≤ cap) (hs : ∀ x ∈ ps, x.2.size ≤ 9223372036854775807) :
    Calls Tryd.prog 10 #[.slice p ps.length cap, .int .i64 l0] w fun e w' => (∃ r : Int, e = .returned (.int .i64 r) ∧ SzPn r l0 ps) ∧ Below w.heap.size w w' := by
  have HP : Hid (PndAt w p ps) := hp
  have HS : Hid (∀ x ∈ ps, x.2.size ≤ 9223372036854775807) := hs
  clear hp hs
  by_cases hl : (ps.length : Int) ≤ l0
  · go_enter Tryd.func10, Tryd.ntmps10
    go_wp2_with fail
    go_loopw [5, 1] (fun i x wr => ∃ (k : Nat) (l : Int), k ≤ ps.length ∧ i = .int .i64 k ∧ x = .int .i64 l ∧ 0 ≤ l ∧ l ≤ l0 ∧ Hid (∀ j (h : j < ps.length), j < k → ps[j].2.size ≤ 1048576) ∧ Hid (Below w.heap.size w wr)) (fun i _ _ => ps.length - (intOf i).toNat)
    case atStart => exact ⟨0, _, Nat.zero_le _, rfl, rfl, by omega, by omega, fun j h hk => by omega, Below.refl _ _⟩
    case round =>
      obtain ⟨k, l, hk, rfl, rfl, hl0, hl1, HK, HB⟩ := hrel
      by_cases hlt : k < ps.length
      · obtain ⟨b, off, rfl, hb, hc1, hc2⟩ := (HP.out.below HB.out) k hlt
        have hsz := HS.out ps[k] (List.getElem_mem hlt)
        have HK2 : Hid (ps[k].2.size ≤ 1048576 → ∀ j (h : j < ps.length), j < k + 1 → ps[j].2.size ≤ 1048576) := fun h0 j h hj => if he : j = k then by subst he; exact h0 else HK.out j h (by omega)
        generalize ps[k] = P at *
        obtain ⟨a, D⟩ := P
        have hc1 : wr.cell? ⟨b, off + k * 2, none⟩ = some (.int .i64 a) := hc1
        have hc2 : wr.cell? ⟨b, off + k * 2 + 1, none⟩ = some (.string D) := hc2
        have hsz : D.size ≤ 9223372036854775807 := hsz
        have hS := szPend_any a D l wr hl0 (by omega) hsz
        by_cases h32 : (D.size : Int) ≤ l
        · rw [if_pos h32] at hS
          have HK3 : Hid (∀ j (h : j < ps.length), j < k + 1 → ps[j].2.size ≤ 1048576) := HK2.out (by show D.size ≤ _; omega)
          clear HK2 HK
          go_wp2_with fail
          refine hS.mono ?_
          rintro e w1 ⟨rfl, b1⟩
          have HB1 : Hid (Below w.heap.size w w1) := chainB HB.out b1
          have dl : decide (l - (D.size : Int) < 0) = false := decide_eq_false (by omega)
          clear b1 HB hS
          go_wp2_with fail
          go_roundw
          case rel => exact ⟨k + 1, l - D.size, by omega, by go_num, by go_num, by omega, by omega, HK3, HB1⟩
          case measure => simp [intOf]; omega
        · rw [if_neg h32] at hS
          clear HK2 HK
          go_wp2_with fail
          refine hS.mono ?_
          rintro e w1 ⟨rfl, b1⟩
          have HB1 : Hid (Below w.heap.size w w1) := chainB HB.out b1
          clear b1 HB hS
          go_wp2_with fail
          go_ret
          exact ⟨⟨_, rfl, .inl rfl⟩, HB1.out⟩
      · have HF : Hid (∀ x ∈ ps, x.2.size ≤ 1048576) := fun x hx => by
          obtain ⟨j, hj, rfl⟩ := List.getElem_of_mem hx
          exact HK.out j hj (by omega)
        go_wp2_with fail
        go_ret
        exact ⟨⟨_, rfl, .inr ⟨hl0, by omega, by omega, HF.out⟩⟩, HB.out⟩
  · go_enter Tryd.func10, Tryd.ntmps10
    go_wp2_with fail
    go_ret
    exact ⟨⟨_, rfl, .inl rfl⟩, Below.refl _ _⟩

theorem toPend_any (a : Int) (D : ByteArray) (w : World) :
    Calls Tryd.prog 28 #[.agg #[.int .i64 a, .string D]] w fun e w' => e = .returned (.agg #[.int .i64 a, .string D]) ∧ Below w.heap.size w w' := by
  have B1 : Below w.heap.size w (((w.alloc (.cells #[.int .i64 a, .string D] 54)).alloc (.cells #[.int .i64 a, .string D] 65)).alloc (.cells #[.int .i64 a, .string D] 65)) := alB (alB (alB (Below.refl _ _) _) _) _
  go_enter Tryd.func28, Tryd.ntmps28
  go_wp2_with fail
  refine bodyPost_ret (v := .agg #[.int .i64 a, .string D]) (by simp [results, Tryd.results28, go_sem]) rfl ?_
  exact ⟨rfl, B1⟩

set_option maxHeartbeats 1000000 in
theorem toP_any (p : Option Addr) (cap : Nat) (ps : List Pnd) (w : World) (hp : PndAt w p ps) (hn : ps.length ≤ 1048576) (hcap : ps.length ≤ cap) :
    Calls Tryd.prog 15 #[.slice p ps.length cap] w fun e w' => e = .returned (.slice (some ⟨w.heap.size, 0, none⟩) ps.length ps.length) ∧ BlkP w' w.heap.size ps ∧ Below w.heap.size w w' := by
  have HP : Hid (PndAt w p ps) := hp
  clear hp
  obtain ⟨W1, hW1⟩ : ∃ W1, W1 = w.alloc (.cells (pndRow (List.replicate ps.length (0, ByteArray.empty))).toArray 65) := ⟨_, rfl⟩
  have hmk := run_make_pnd ps.length hn w
  rw [← hW1] at hmk
  have H0 : Hid (BlkP W1 w.heap.size (cutP ps 0)) := by
    have : BlkP W1 w.heap.size (List.replicate ps.length (0, ByteArray.empty)) := by rw [hW1]; exact (MapKept.heap_alloc w _).1
    show BlkP _ _ _
    unfold cutP; simpa using this
  have B0 : Hid (Below w.heap.size w W1) := by rw [hW1]; exact (Below.refl _ _).alloc (Nat.le_refl _) _
  clear hW1
  go_enter Tryd.func15, Tryd.ntmps15
  go_wp2_with fail
  go_loopw [4] (fun i wr => ∃ k : Nat, k ≤ ps.length ∧ i = .int .i64 k ∧ Hid (BlkP wr w.heap.size (cutP ps k)) ∧ Hid (Below w.heap.size w wr)) (fun i _ => ps.length - (intOf i).toNat)
  case atStart => exact ⟨0, Nat.zero_le _, rfl, H0, B0⟩
  case round =>
    clear H0 hmk B0
    obtain ⟨k, hk, rfl, hrow, hnx⟩ := hrel
    have hsz := hrow.out.lt
    by_cases hlt : k < ps.length
    · have i1 : (k : Int) < ps.length := by omega
      obtain ⟨b, off, rfl, hb, hc1, hc2⟩ := HP.out k hlt
      have hc1 := (hnx.out.cell (p := ⟨b, off + k * 2, none⟩) hb).trans hc1
      have hc2 := (hnx.out.cell (p := ⟨b, off + k * 2 + 1, none⟩) hb).trans hc2
      have hlen := cutP_len ps k hk
      have hset := cutP_set ps k hlt
      have HS : Hid (∀ y, Below wr.heap.size wr y → (∃ x1 x2, y.cell? ⟨w.heap.size, k * 2, none⟩ = some x1 ∧ y.cell? ⟨w.heap.size, k * 2 + 1, none⟩ = some x2) ∧ y.frozen? ⟨w.heap.size, k * 2, none⟩ = false ∧ y.frozen? ⟨w.heap.size, k * 2 + 1, none⟩ = false ∧ Hid (∀ a D, ps[k] = (a, D) → BlkP ((y.setCell ⟨w.heap.size, k * 2, none⟩ (.int .i64 a)).setCell ⟨w.heap.size, k * 2 + 1, none⟩ (.string D)) w.heap.size (cutP ps (k + 1)) ∧ Below w.heap.size w ((y.setCell ⟨w.heap.size, k * 2, none⟩ (.int .i64 a)).setCell ⟨w.heap.size, k * 2 + 1, none⟩ (.string D)))) := fun y hb => by
        have h := hrow.out.below hb hsz
        obtain ⟨g1, g2, g3⟩ := h.cell k (by omega)
        refine ⟨⟨_, _, g1, g2⟩, g3 _, g3 _, fun a D he => ?_⟩
        rw [← hset, he]
        exact ⟨h.set k (by omega) a D, ((chainB hnx.out hb).setCell (Nat.le_refl _) _).setCell (Nat.le_refl _) _⟩
      clear hset hrow
      generalize ps[k] = P at *
      obtain ⟨a, D⟩ := P
      have hc1 : wr.cell? ⟨b, off + k * 2, none⟩ = some (.int .i64 a) := hc1
      have hc2 : wr.cell? ⟨b, off + k * 2 + 1, none⟩ = some (.string D) := hc2
      go_wp2_with fail
      refine (toPend_any a D wr).mono ?_
      rintro e y ⟨rfl, b1⟩
      obtain ⟨⟨x1, x2, g1, g2⟩, f1, f2, HE⟩ := HS.out y b1
      have HE2 : Hid (BlkP ((y.setCell ⟨w.heap.size, k * 2, none⟩ (.int .i64 a)).setCell ⟨w.heap.size, k * 2 + 1, none⟩ (.string D)) w.heap.size (cutP ps (k + 1))) := (HE.out a D rfl).1
      have HE3 : Hid (Below w.heap.size w ((y.setCell ⟨w.heap.size, k * 2, none⟩ (.int .i64 a)).setCell ⟨w.heap.size, k * 2 + 1, none⟩ (.string D))) := (HE.out a D rfl).2
      clear HS HE b1 hc1 hc2
      go_wp2_with fail
      go_roundw
      case rel => exact ⟨k + 1, by omega, by go_num, HE2, HE3⟩
      case measure => simp [intOf]; omega
    · have hkk : k = ps.length := by omega
      subst hkk
      have HR : Hid (BlkP wr w.heap.size ps) := by
        have := hrow.out; unfold cutP at this; show BlkP _ _ _; simpa using this
      go_wp2_with fail
      go_ret
      exact ⟨rfl, HR.out, hnx.out⟩

theorem eqPend_any (a : Int) (D : ByteArray) (w : World) :
    Calls Tryd.prog 33 #[.agg #[.int .i64 a, .string D], .agg #[.int .i64 a, .string D]] w fun e w' => e = .returned (.bool true) ∧ Below w.heap.size w w' := by
  have B1 : Below w.heap.size w ((w.alloc (.cells #[.int .i64 a, .string D] 65)).alloc (.cells #[.int .i64 a, .string D] 65)) := alB (alB (Below.refl _ _) _) _
  go_enter Tryd.func33, Tryd.ntmps33
  go_wp2_with fail
  go_ret
  exact ⟨rfl, B1⟩

set_option maxHeartbeats 1000000 in
theorem eqP_any (p q : Option Addr) (cap cap2 : Nat) (ps : List Pnd) (w : World) (hp : PndAt w p ps) (hq : PndAt w q ps) (hn : ps.length ≤ 1048576) (hcap : ps.length ≤ cap) (hcap2 : ps.length ≤ cap2) :
    Calls Tryd.prog 18 #[.slice p ps.length cap, .slice q ps.length cap2] w fun e w' => e = .returned (.bool true) ∧ Below w.heap.size w w' := by
  have HP : Hid (PndAt w p ps) := hp
  have HQ : Hid (PndAt w q ps) := hq
  clear hp hq
  go_enter Tryd.func18, Tryd.ntmps18
  go_wp2_with fail
  go_loopw [5] (fun i wr => ∃ k : Nat, k ≤ ps.length ∧ i = .int .i64 k ∧ Hid (Below w.heap.size w wr)) (fun i _ => ps.length - (intOf i).toNat)
  case atStart => exact ⟨0, Nat.zero_le _, rfl, Below.refl _ _⟩
  case round =>
    obtain ⟨k, hk, rfl, HB⟩ := hrel
    by_cases hlt : k < ps.length
    · obtain ⟨b, off, rfl, hb, hc1, hc2⟩ := (HP.out.below HB.out) k hlt
      obtain ⟨b2, off2, rfl, hb2, hd1, hd2⟩ := (HQ.out.below HB.out) k hlt
      have j5 : (k : Int) < ps.length := by omega
      generalize ps[k] = P at *
      obtain ⟨a, D⟩ := P
      have hc1 : wr.cell? ⟨b, off + k * 2, none⟩ = some (.int .i64 a) := hc1
      have hc2 : wr.cell? ⟨b, off + k * 2 + 1, none⟩ = some (.string D) := hc2
      have hd1 : wr.cell? ⟨b2, off2 + k * 2, none⟩ = some (.int .i64 a) := hd1
      have hd2 : wr.cell? ⟨b2, off2 + k * 2 + 1, none⟩ = some (.string D) := hd2
      go_wp2_with fail
      go_region_with (first | (go_at_call 33; refine (eqPend_any a D _).mono ?_; rintro e y1 ⟨rfl, z1⟩; have z1 : Below w.heap.size w y1 := chainB (by first | exact HB.out | exact HB.out.drew) z1))
      all_goals
        have HB1 : Hid (Below w.heap.size w y1) := z1
        clear z1
        go_wp2_with fail
        go_roundw
        case rel => exact ⟨k + 1, by omega, by go_num, HB1⟩
        case measure => simp [intOf]; omega
    · go_wp2_with fail
      go_ret
      exact ⟨rfl, HB.out⟩
end Go.Proofs.YtnppgldafhpchaaDoor
