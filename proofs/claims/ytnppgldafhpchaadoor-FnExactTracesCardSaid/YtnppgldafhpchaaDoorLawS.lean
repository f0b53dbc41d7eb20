/-
  What the laws' own helpers answer for slices of texts: szStringS (of few and small ones, a number that is not below 0, else -1), toStringS (a copy in new memory), eqStringS (are they alike).
  Conditions: the slices' cells hold those texts.
-/
import Derived.Test.YtnppgldafhpchaaDoorRows
import Derived.Test.YtnppgldafhpchaaDoorBytes
import Derived.Test.YtnppgldafhpchaaDoorTreeMath
import Derived.Test.YtnppgldafhpchaaDoorSlASlBOwnS
import Derived.Handy
import Derived.Deep.QuietTactic
import Derived.BigQuiet
import Derived.OwnWalk
namespace Go.Proofs.YtnppgldafhpchaaDoor
open Go.RowKit Go.Lib
set_option linter.unusedVariables false

def cutS (ss : List ByteArray) (k : Nat) : List ByteArray := ss.take k ++ List.replicate (ss.length - k) ByteArray.empty
theorem cutS_len (ss : List ByteArray) (k : Nat) (h : k ≤ ss.length) : (cutS ss k).length = ss.length := by simp [cutS]; omega
theorem cutS_set (ss : List ByteArray) (k : Nat) (h : k < ss.length) : (cutS ss k).set k ss[k] = cutS ss (k + 1) := by
  unfold cutS
  rw [show ss.length - k = (ss.length - (k + 1)) + 1 by omega, List.replicate_succ]
  have hl : (ss.take k).length = k := by simp; omega
  rw [List.set_append_right _ _ (by omega), hl, Nat.sub_self, List.set_cons_zero, List.take_succ_eq_append_getElem h, List.append_assoc]; rfl

def SzEnd (r : Int) (ss : List ByteArray) : Prop := r = -1 ∨ (0 ≤ r ∧ ss.length ≤ 1048576 ∧ ∀ x ∈ ss, x.size ≤ 1048576)
set_option maxHeartbeats 400000 in
theorem sz_any (p : Option Addr) (cap : Nat) (ss : List ByteArray) (w : World) (hp : TxtAt w p ss) (hn : ss.length ≤ 9223372036854775807) (hcap : ss.length ≤ cap) (hs : ∀ x ∈ ss, x.size ≤ 9223372036854775807) :
    Calls Tryd.prog 9 #[.slice p ss.length cap, .int .i64 1048576] w fun e w' => (∃ r : Int, e = .returned (.int .i64 r) ∧ SzEnd r ss) ∧ w' = w := by
  have HP : Hid (TxtAt w p ss) := hp
  have HS : Hid (∀ x ∈ ss, x.size ≤ 9223372036854775807) := hs
  clear hp hs
  by_cases hl : ss.length ≤ 1048576
  · go_enter Tryd.func9, Tryd.ntmps9
    go_wp2
    go_loop [5, 1] (fun i x => ∃ (k : Nat) (l : Int), k ≤ ss.length ∧ i = .int .i64 k ∧ x = .int .i64 l ∧ 0 ≤ l ∧ l ≤ 1048576 ∧ Hid (∀ j (h : j < ss.length), j < k → ss[j].size ≤ 1048576)) (fun i _ => ss.length - (intOf i).toNat)
    case atStart => exact ⟨0, _, Nat.zero_le _, rfl, rfl, by omega, by omega, fun j h hk => by omega⟩
    case round =>
      obtain ⟨k, l, hk, rfl, rfl, hl0, hl1, HK⟩ := hrel
      by_cases hlt : k < ss.length
      · obtain ⟨b, off, rfl, hb, hck⟩ := HP.out k hlt
        have hsz := HS.out ss[k] (List.getElem_mem hlt)
        by_cases h32 : (ss[k].size : Int) ≤ l
        · have HK2 : Hid (∀ j (h : j < ss.length), j < k + 1 → ss[j].size ≤ 1048576) := fun j h hj => if he : j = k then by subst he; omega else HK.out j h (by omega)
          generalize ss[k] = q at *
          go_wp2
          go_round
          case rel => exact ⟨k + 1, l - q.size, by omega, by go_num, by go_num, by omega, by omega, HK2⟩
          case measure => simp [intOf]; omega
        · generalize ss[k] = q at *
          go_wp2
          go_ret
          exact ⟨⟨_, rfl, .inl rfl⟩, rfl⟩
      · have HF : Hid (∀ x ∈ ss, x.size ≤ 1048576) := fun x hx => by
          obtain ⟨j, hj, rfl⟩ := List.getElem_of_mem hx
          exact HK.out j hj (by omega)
        go_wp2
        go_ret
        exact ⟨⟨_, rfl, .inr ⟨hl0, hl, HF.out⟩⟩, rfl⟩
  · go_enter Tryd.func9, Tryd.ntmps9
    go_wp2
    go_ret
    exact ⟨⟨_, rfl, .inl rfl⟩, rfl⟩

set_option maxHeartbeats 400000 in
theorem to_any (p : Option Addr) (cap : Nat) (ss : List ByteArray) (w : World) (hp : TxtAt w p ss) (hn : ss.length ≤ 1048576) (hcap : ss.length ≤ cap) :
    Calls Tryd.prog 14 #[.slice p ss.length cap] w fun e w' => e = .returned (.slice (some ⟨w.heap.size, 0, none⟩) ss.length ss.length) ∧ BlkS w' w.heap.size ss ∧ Below w.heap.size w w' := by
  have HP : Hid (TxtAt w p ss) := hp
  clear hp
  have hmk := run_make_str ss.length hn
  have H0 : Hid (BlkS (w.alloc (.cells (strRow (List.replicate ss.length ByteArray.empty)).toArray 9)) w.heap.size (cutS ss 0)) := by
    have := alloc_str w (List.replicate ss.length ByteArray.empty)
    show BlkS _ _ _
    unfold cutS; simpa using this
  go_enter Tryd.func14, Tryd.ntmps14
  go_wp2
  go_loopw [4] (fun i wr => ∃ k : Nat, k ≤ ss.length ∧ i = .int .i64 k ∧ Hid (BlkS wr w.heap.size (cutS ss k)) ∧ Hid (Below w.heap.size w wr)) (fun i _ => ss.length - (intOf i).toNat)
  case atStart => exact ⟨0, Nat.zero_le _, rfl, H0, (Below.refl _ _).alloc (Nat.le_refl _) _⟩
  case round =>
    clear H0 hmk
    obtain ⟨k, hk, rfl, hrow, hnx⟩ := hrel
    have hsz := hrow.out.lt
    by_cases hlt : k < ss.length
    · obtain ⟨b, off, rfl, hb, hck⟩ := HP.out k hlt
      have hc1 : wr.cell? ⟨b, off + k, none⟩ = some (.string ss[k]) := (hnx.out.cell (p := ⟨b, off + k, none⟩) hb).trans hck
      obtain ⟨hc2, hf2⟩ := hrow.out.cell k (by rw [cutS_len _ _ (by omega)]; exact hlt)
      have HR : Hid (BlkS (wr.setCell ⟨w.heap.size, k, none⟩ (.string ss[k])) w.heap.size (cutS ss (k + 1))) := by
        show BlkS _ _ _
        rw [← cutS_set ss k hlt]; exact hrow.out.set k _
      have HB : Hid (Below w.heap.size w (wr.setCell ⟨w.heap.size, k, none⟩ (.string ss[k]))) := hnx.out.setCell (Nat.le_refl _) _
      clear hck
      generalize ss[k] = q at *
      generalize (cutS ss k)[k]'_ = q2 at *
      go_wp2
      go_roundw
      case rel => exact ⟨k + 1, by omega, by go_num, HR, HB⟩
      case measure => simp [intOf]; omega
    · have hkk : k = ss.length := by omega
      subst hkk
      have HR : Hid (BlkS wr w.heap.size ss) := by
        have := hrow.out; unfold cutS at this; show BlkS _ _ _; simpa using this
      go_wp2
      go_ret
      exact ⟨rfl, HR.out, hnx.out⟩

set_option maxHeartbeats 400000 in
theorem eq_any (p q : Option Addr) (cap cap2 : Nat) (ss ts : List ByteArray) (w : World) (hp : TxtAt w p ss) (hq : TxtAt w q ts) (hn : ss.length ≤ 140737488355328) (hn2 : ts.length ≤ 140737488355328) (hcap : ss.length ≤ cap) (hcap2 : ts.length ≤ cap2) :
    Calls Tryd.prog 17 #[.slice p ss.length cap, .slice q ts.length cap2] w fun e w' => e = .returned (.bool (decide (ss = ts))) ∧ Below w.heap.size w w' := by
  have HP : Hid (TxtAt w p ss) := hp
  have HQ : Hid (TxtAt w q ts) := hq
  clear hp hq
  by_cases hl : ss.length = ts.length
  · rw [← hl]
    have hl2 : Hid (ss.length = ts.length) := hl
    clear hl
    rw [← hl2.out] at hcap2
    go_enter Tryd.func17, Tryd.ntmps17
    go_wp2
    go_loopw [5] (fun i wr => ∃ k m : Nat, k ≤ ss.length ∧ i = .int .i64 k ∧ wr = w.drewN m ∧ Hid (∀ j (h : j < ss.length) (h2 : j < ts.length), j < k → ss[j] = ts[j])) (fun i _ => ss.length - (intOf i).toNat)
    case atStart => exact ⟨0, 0, Nat.zero_le _, rfl, rfl, fun j h h2 hk => by omega⟩
    case round =>
      obtain ⟨k, m, hk, rfl, rfl, HK⟩ := hrel
      by_cases hlt : k < ss.length
      · have hlt2 : k < ts.length := by have := hl2.out; omega
        obtain ⟨b, off, rfl, hb, hck⟩ := HP.out k hlt
        obtain ⟨b2, off2, rfl, hb2, hck2⟩ := HQ.out k hlt2
        have j5 : (k : Int) < ss.length := by omega
        by_cases he : ss[k] = ts[k]
        · have HK2 : Hid (∀ j (h : j < ss.length) (h2 : j < ts.length), j < k + 1 → ss[j] = ts[j]) := fun j h h2 hj => if hjk : j = k then by subst hjk; exact he else HK.out j h h2 (by omega)
          rw [← he] at hck2
          clear he
          generalize ss[k] = x at *
          go_wp2
          go_quiet (fail)
          go_wp2
          go_roundw
          case rel => exact ⟨k + 1, _, by omega, by go_num, rfl, HK2⟩
          case measure => simp [intOf]; omega
        · have HF : Hid (decide (ss = ts) = false) := decide_eq_false (fun h => he (by subst h; rfl))
          generalize ss[k] = x at *
          generalize ts[k] = y at *
          have hne : (x.toList == y.toList) = false := by
            rw [beq_eq_false_iff_ne]
            exact fun h => he (toList_inj h)
          clear he
          go_wp2
          go_quiet (fail)
          go_wp2
          go_ret
          exact ⟨ret_bool HF.out.symm, ⟨rfl, rfl, rfl, Nat.le_refl _, fun _ _ => rfl⟩⟩
      · have HF : Hid (decide (ss = ts) = true) := decide_eq_true (List.ext_getElem hl2.out fun j h h2 => HK.out j h h2 (by omega))
        go_wp2
        go_ret
        exact ⟨ret_bool HF.out.symm, ⟨rfl, rfl, rfl, Nat.le_refl _, fun _ _ => rfl⟩⟩
  · have HF : Hid (decide (ss = ts) = false) := decide_eq_false (fun h => hl (by rw [h]))
    have hl2 : ¬ (ss.length : Int) = ts.length := by omega
    go_enter Tryd.func17, Tryd.ntmps17
    go_wp2
    go_ret
    exact ⟨ret_bool HF.out.symm, Below.refl _ _⟩
end Go.Proofs.YtnppgldafhpchaaDoor
