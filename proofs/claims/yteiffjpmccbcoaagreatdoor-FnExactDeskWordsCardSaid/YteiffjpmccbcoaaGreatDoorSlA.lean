/-
  Slices of texts that are only read: what areDigests, entriesRight and l03Entries answer.
  Conditions: the slice's cells hold those texts; it is at most 2^47 long.
-/
import Derived.Test.YteiffjpmccbcoaaGreatDoorRows
import Derived.Test.YteiffjpmccbcoaaGreatDoorBytes
import Derived.Test.YteiffjpmccbcoaaGreatDoorTreeMath
import Derived.Handy
namespace Go.Proofs.YteiffjpmccbcoaaGreatDoor
open Go.RowKit Go.Lib
set_option linter.unusedVariables false

/-- The cells that a slice of texts leads to hold these texts (of none nothing is asked: also nil). -/
def TxtAt (w : World) (p : Option Addr) (ss : List ByteArray) : Prop :=
  ∀ i (h : i < ss.length), ∃ b off, p = some ⟨b, off, none⟩ ∧ b < w.heap.size ∧ w.cell? ⟨b, off + i, none⟩ = some (.string ss[i])
theorem TxtAt.below {w w' : World} {p : Option Addr} {ss : List ByteArray} (h : TxtAt w p ss) (hb : Below w.heap.size w w') : TxtAt w' p ss := by
  intro i hi
  obtain ⟨b, off, rfl, h1, h2⟩ := h i hi
  exact ⟨b, off, rfl, Nat.lt_of_lt_of_le h1 hb.size, (hb.cell (p := ⟨b, off + i, none⟩) h1).trans h2⟩
theorem TxtAt.nil (w : World) (p : Option Addr) : TxtAt w p [] := fun i h => by simp at h
theorem TxtAt.take {w : World} {p : Option Addr} {ss : List ByteArray} (h : TxtAt w p ss) (k : Nat) : TxtAt w p (ss.take k) := by
  intro i hi
  obtain ⟨b, off, h0, h1, h2⟩ := h i (by simp at hi; omega)
  exact ⟨b, off, h0, h1, by rw [h2, List.getElem_take]⟩
theorem TxtAt.drop {w : World} {b off : Nat} {ss : List ByteArray} (h : TxtAt w (some ⟨b, off, none⟩) ss) (k : Nat) : TxtAt w (some ⟨b, off + k, none⟩) (ss.drop k) := by
  intro i hi
  obtain ⟨b', off', h0, h1, h2⟩ := h (k + i) (by simp at hi; omega)
  cases h0
  exact ⟨b, off + k, rfl, h1, by rw [List.getElem_drop, ← h2, Nat.add_assoc]⟩
theorem TxtAt.at {w : World} {b off : Nat} {ss : List ByteArray} (h : TxtAt w (some ⟨b, off, none⟩) ss) (i : Nat) (hi : i < ss.length) : w.cell? ⟨b, off + i, none⟩ = some (.string ss[i]) := by
  obtain ⟨b', off', h0, h1, h2⟩ := h i hi
  cases h0; exact h2

theorem chainB {w w1 w2 : World} (b1 : Below w.heap.size w w1) (b2 : Below w1.heap.size w1 w2) : Below w.heap.size w w2 := b1.trans (b2.mono b1.size)
def wideB (ss : List ByteArray) : Bool := ss.all fun x => x.size == 32
def entB (ss : List ByteArray) : Bool := decide (ss.length ≤ 64) && ss.all fun x => decide (x.size ≤ 100)
theorem wideB_true {ss : List ByteArray} (h : ∀ j (h : j < ss.length), ss[j].size = 32) : wideB ss = true := by
  unfold wideB; rw [List.all_eq_true]; intro x hx
  obtain ⟨j, hj, rfl⟩ := List.getElem_of_mem hx
  simpa using h j hj
theorem wideB_false {ss : List ByteArray} {k : Nat} (hk : k < ss.length) (h : ss[k].size ≠ 32) : wideB ss = false := by
  unfold wideB; rw [List.all_eq_false]; exact ⟨_, List.getElem_mem hk, by simpa using h⟩
theorem wideB_all {ss : List ByteArray} (h : wideB ss = true) : ∀ x ∈ ss, x.size = 32 := by
  unfold wideB at h; rw [List.all_eq_true] at h; intro x hx; simpa using h x hx
theorem entB_true {ss : List ByteArray} (hl : ss.length ≤ 64) (h : ∀ j (h : j < ss.length), ss[j].size ≤ 100) : entB ss = true := by
  unfold entB; rw [Bool.and_eq_true, List.all_eq_true]; refine ⟨by simpa using hl, fun x hx => ?_⟩
  obtain ⟨j, hj, rfl⟩ := List.getElem_of_mem hx
  simpa using h j hj
theorem entB_false {ss : List ByteArray} {k : Nat} (hk : k < ss.length) (h : ¬ ss[k].size ≤ 100) : entB ss = false := by
  unfold entB; rw [Bool.and_eq_false_iff]; right; rw [List.all_eq_false]; exact ⟨_, List.getElem_mem hk, by simpa using h⟩
theorem entB_long {ss : List ByteArray} (h : ¬ ss.length ≤ 64) : entB ss = false := by
  unfold entB; rw [Bool.and_eq_false_iff]; left; simpa using h
theorem entB_len {ss : List ByteArray} (h : entB ss = true) : ss.length ≤ 64 := by
  unfold entB at h; rw [Bool.and_eq_true] at h; simpa using h.1
theorem entB_all {ss : List ByteArray} (h : entB ss = true) : ∀ x ∈ ss, x.size ≤ 100 := by
  unfold entB at h; rw [Bool.and_eq_true, List.all_eq_true] at h; intro x hx; simpa using h.2 x hx
theorem ret_bool {a b : Bool} (h : a = b) : Ending.returned (.bool a) = .returned (.bool b) := by rw [h]

set_option maxHeartbeats 400000 in
theorem areD_any (p : Option Addr) (cap : Nat) (ss : List ByteArray) (w : World) (hp : TxtAt w p ss) (hn : ss.length ≤ 140737488355328) (hcap : ss.length ≤ cap) :
    Calls Tryz.prog 63 #[.slice p ss.length cap] w fun e w' => e = .returned (.bool (wideB ss)) ∧ w' = w := by
  have HP : Hid (TxtAt w p ss) := hp
  clear hp
  go_enter Tryz.func63, Tryz.ntmps63
  go_wp2
  go_loop [7] (fun i => ∃ k : Nat, k ≤ ss.length ∧ i = .int .i64 k ∧ Hid (∀ j (h : j < ss.length), j < k → ss[j].size = 32)) (fun i => ss.length - (intOf i).toNat)
  case atStart => exact ⟨0, Nat.zero_le _, rfl, fun j h hk => by omega⟩
  case round =>
    obtain ⟨k, hk, rfl, HK⟩ := hrel
    by_cases hlt : k < ss.length
    · obtain ⟨b, off, rfl, hb, hck⟩ := HP.out k hlt
      by_cases h32 : ss[k].size = 32
      · have HK2 : Hid (∀ j (h : j < ss.length), j < k + 1 → ss[j].size = 32) := fun j h hj => if he : j = k then by subst he; exact h32 else HK.out j h (by omega)
        generalize ss[k] = q at *
        have h33 : (q.size : Int) = 32 := by omega
        go_wp2
        go_round
        case rel => exact ⟨k + 1, by omega, by go_num, HK2⟩
        case measure => simp [intOf]; omega
      · have HF : Hid (wideB ss = false) := wideB_false hlt h32
        generalize ss[k] = q at *
        have h33 : ¬ (q.size : Int) = 32 := by omega
        go_wp2
        go_ret
        exact ⟨ret_bool HF.out.symm, rfl⟩
    · have HF : Hid (wideB ss = true) := wideB_true fun j h => HK.out j h (by omega)
      go_wp2
      go_ret
      exact ⟨ret_bool HF.out.symm, rfl⟩

set_option maxHeartbeats 400000 in
theorem entR_any (p : Option Addr) (cap : Nat) (ss : List ByteArray) (w : World) (hp : TxtAt w p ss) (hn : ss.length ≤ 140737488355328) (hcap : ss.length ≤ cap) :
    Calls Tryz.prog 90 #[.slice p ss.length cap] w fun e w' => e = .returned (.bool (entB ss)) ∧ w' = w := by
  have HP : Hid (TxtAt w p ss) := hp
  clear hp
  by_cases hl : ss.length ≤ 64
  · go_enter Tryz.func90, Tryz.ntmps90
    go_wp2
    go_loop [10] (fun i => ∃ k : Nat, k ≤ ss.length ∧ i = .int .i64 k ∧ Hid (∀ j (h : j < ss.length), j < k → ss[j].size ≤ 100)) (fun i => ss.length - (intOf i).toNat)
    case atStart => exact ⟨0, Nat.zero_le _, rfl, fun j h hk => by omega⟩
    case round =>
      obtain ⟨k, hk, rfl, HK⟩ := hrel
      by_cases hlt : k < ss.length
      · obtain ⟨b, off, rfl, hb, hck⟩ := HP.out k hlt
        by_cases h32 : ss[k].size ≤ 100
        · have HK2 : Hid (∀ j (h : j < ss.length), j < k + 1 → ss[j].size ≤ 100) := fun j h hj => if he : j = k then by subst he; exact h32 else HK.out j h (by omega)
          generalize ss[k] = q at *
          have h33 : (q.size : Int) ≤ 100 := by omega
          go_wp2
          go_round
          case rel => exact ⟨k + 1, by omega, by go_num, HK2⟩
          case measure => simp [intOf]; omega
        · have HF : Hid (entB ss = false) := entB_false hlt h32
          generalize ss[k] = q at *
          have h33 : ¬ (q.size : Int) ≤ 100 := by omega
          go_wp2
          go_ret
          exact ⟨ret_bool HF.out.symm, rfl⟩
      · have HF : Hid (entB ss = true) := entB_true hl fun j h => HK.out j h (by omega)
        go_wp2
        go_ret
        exact ⟨ret_bool HF.out.symm, rfl⟩
  · have HF : Hid (entB ss = false) := entB_long hl
    go_enter Tryz.func90, Tryz.ntmps90
    go_wp2
    go_ret
    exact ⟨ret_bool HF.out.symm, rfl⟩

end Go.Proofs.YteiffjpmccbcoaaGreatDoor
