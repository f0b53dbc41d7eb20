/-
  What NameRight answers, in the program and in the specification: both answer 'nrB' of the text, for every string, and leave the world as it is.
  Conditions: none but that the string fits the form's own reach.
-/
import Derived.Test.YtonleickhincgaaGreatDoorRows
import Derived.WalkKit
import Derived.ProofKit
import Derived.Below
namespace Go.Proofs.YtonleickhincgaaGreatDoor
open Go.RowKit
set_option linter.unusedVariables false

theorem ret_bool {a b : Bool} (h : a = b) : Ending.returned (.bool a) = .returned (.bool b) := by rw [h]

def lowB (c : Int) : Bool := decide (97 ≤ c) && decide (c ≤ 122)
def nmB (c : Int) : Bool := lowB c || (decide (48 ≤ c) && decide (c ≤ 57)) || decide (c = 95)
def okAt (j : Nat) (c : Int) : Bool := lowB c || (decide (j ≠ 0) && nmB c)
def nrTo (s : ByteArray) (k : Nat) : Prop := ∀ j (h : j < s.size), j < k → okAt j (s[j].toNat : Int) = true
def nrB (s : ByteArray) : Bool := decide (1 ≤ s.size ∧ s.size ≤ 20 ∧ ∀ j (h : j < s.size), okAt j (s[j].toNat : Int) = true)

theorem nrB_short {s : ByteArray} (h : s.size < 1 ∨ 20 < s.size) : nrB s = false := by
  unfold nrB; rw [decide_eq_false_iff_not]; rintro ⟨a, b, _⟩; omega
theorem nrB_no {s : ByteArray} (k : Nat) (h : k < s.size) (g : okAt k (s[k].toNat : Int) = false) : nrB s = false := by
  unfold nrB; rw [decide_eq_false_iff_not]; rintro ⟨a, b, c⟩; have := c k h; rw [g] at this; cases this
theorem nrB_yes {s : ByteArray} (h1 : 1 ≤ s.size) (h2 : s.size ≤ 20) (h : nrTo s s.size) : nrB s = true := by
  unfold nrB; rw [decide_eq_true_iff]; exact ⟨h1, h2, fun j hj => h j hj hj⟩
theorem nrTo_zero (s : ByteArray) : nrTo s 0 := fun j _ h => absurd h (Nat.not_lt_zero j)
theorem nrTo_succ {s : ByteArray} {k : Nat} (h : nrTo s k) (hk : k < s.size) (g : okAt k (s[k].toNat : Int) = true) : nrTo s (k + 1) := by
  intro j hj hlt
  by_cases e : j = k
  · subst e; exact g
  · exact h j hj (by omega)

theorem okAt_cases (k : Nat) (c : Int) :
    (okAt k c = true ∧ ((97 ≤ c ∧ c ≤ 122) ∨ (0 < k ∧ 48 ≤ c ∧ c ≤ 57) ∨ (0 < k ∧ c = 95))) ∨
    (okAt k c = false ∧ (((c < 97 ∨ 122 < c) ∧ k = 0) ∨ ((c < 97 ∨ 122 < c) ∧ 0 < k ∧ (c < 48 ∨ 57 < c) ∧ c ≠ 95))) := by
  unfold okAt nmB lowB
  by_cases a : 97 ≤ c ∧ c ≤ 122
  · exact .inl ⟨by simp [a], .inl a⟩
  by_cases b : k = 0
  · exact .inr ⟨by simp [b]; omega, .inl ⟨by omega, b⟩⟩
  by_cases d : 48 ≤ c ∧ c ≤ 57
  · exact .inl ⟨by simp [b, d], .inr (.inl ⟨by omega, d.1, d.2⟩)⟩
  by_cases e : c = 95
  · exact .inl ⟨by simp [b, e], .inr (.inr ⟨by omega, e⟩)⟩
  · exact .inr ⟨by simp [b, e]; omega, .inr ⟨by omega, by omega, by omega, e⟩⟩

theorem lower_any (c : Int) (w : World) (h0 : 0 ≤ c) (h1 : c ≤ 255) :
    Calls Tryz.prog 202 #[.int .u8 c] w fun e w' => e = .returned (.bool (lowB c)) ∧ w' = w := by
  by_cases a : 97 ≤ c
  · go_enter Tryz.func202, Tryz.ntmps202
    go_wp2
    go_ret
    exact ⟨ret_bool (by simp [lowB, a]), rfl⟩
  · go_enter Tryz.func202, Tryz.ntmps202
    go_wp2
    go_ret
    exact ⟨ret_bool (by simp [lowB]; omega), rfl⟩

set_option maxHeartbeats 400000 in
theorem specNameRight_any (s : ByteArray) (w : World) (hs : s.size ≤ maxLen) :
    Calls Tryz.prog 116 #[.string s] w fun e w' => e = .returned (.bool (nrB s)) ∧ w' = w := by
  unfold maxLen at hs
  by_cases h1 : s.size < 1
  · have H : Hid (nrB s = false) := nrB_short (.inl h1)
    go_enter Tryz.func116, Tryz.ntmps116
    go_wp2
    go_ret
    exact ⟨ret_bool H.out.symm, rfl⟩
  by_cases h2 : 20 < s.size
  · have H : Hid (nrB s = false) := nrB_short (.inr h2)
    go_enter Tryz.func116, Tryz.ntmps116
    go_wp2
    go_ret
    exact ⟨ret_bool H.out.symm, rfl⟩
  have b1 : decide ((s.size : Int) < 1) = false := by simp; omega
  have b2 : decide (20 < (s.size : Int)) = false := by simp; omega
  go_enter Tryz.func116, Tryz.ntmps116
  go_wp2
  go_loop [3] (fun i => ∃ k : Nat, k ≤ s.size ∧ i = .int .i64 k ∧ nrTo s k) (fun i => s.size - (Go.RowKit.intOf i).toNat)
  case atStart => exact ⟨0, Nat.zero_le _, rfl, nrTo_zero s⟩
  case round =>
    obtain ⟨k, hk, rfl, hto⟩ := hrel
    by_cases hlt : k < s.size
    · have hcb : (s[k].toNat : Int) ≤ 255 := by have := s[k].toNat_lt; omega
      rcases okAt_cases k (s[k].toNat : Int) with ⟨hok, hc⟩ | ⟨hno, hc⟩
      · have HK : Hid (okAt k (s[k].toNat : Int) = true) := hok
        clear hok
        rcases hc with ⟨a1, a2⟩ | ⟨a1, a2, a3⟩ | ⟨a1, a2⟩
        · go_wp2
          go_round
          case rel => exact ⟨k + 1, by omega, by go_num, nrTo_succ hto hlt HK.out⟩
          case measure => simp [Go.RowKit.intOf]; omega
        · have k0 : ((k : Int) == 0) = false := by simp; omega
          go_wp2
          go_round
          case rel => exact ⟨k + 1, by omega, by go_num, nrTo_succ hto hlt HK.out⟩
          case measure => simp [Go.RowKit.intOf]; omega
        · have k0 : ((k : Int) == 0) = false := by simp; omega
          have a3 : ((s[k].toNat : Int) != 95) = false := by simp; omega
          go_wp2
          go_round
          case rel => exact ⟨k + 1, by omega, by go_num, nrTo_succ hto hlt HK.out⟩
          case measure => simp [Go.RowKit.intOf]; omega
      · have H : Hid (nrB s = false) := nrB_no k hlt hno
        clear hno
        rcases hc with ⟨hc, a1⟩ | ⟨hc, a1, a2, a3⟩
        · have k0 : ((k : Int) == 0) = true := by simp; omega
          clear a1
          rcases hc with hc | hc
          · go_wp2
            go_ret
            exact ⟨ret_bool H.out.symm, rfl⟩
          · have d1 : decide ((s[k].toNat : Int) ≤ 122) = false := by simp; omega
            go_wp2
            go_ret
            exact ⟨ret_bool H.out.symm, rfl⟩
        · have k0 : ((k : Int) == 0) = false := by simp; omega
          have a5 : ((s[k].toNat : Int) != 95) = true := by rw [bne_iff_ne]; exact a3
          clear a3 a1
          rcases hc with hc | hc
          · rcases a2 with a2 | a2
            · go_wp2
              go_ret
              exact ⟨ret_bool H.out.symm, rfl⟩
            · have d2 : decide ((s[k].toNat : Int) ≤ 57) = false := by simp; omega
              go_wp2
              go_ret
              exact ⟨ret_bool H.out.symm, rfl⟩
          · have d1 : decide ((s[k].toNat : Int) ≤ 122) = false := by simp; omega
            have d2 : decide ((s[k].toNat : Int) ≤ 57) = false := by simp; omega
            have a3 : 57 < (s[k].toNat : Int) := by omega
            clear a2
            go_wp2
            go_ret
            exact ⟨ret_bool H.out.symm, rfl⟩
    · have hkk : k = s.size := by omega
      have H : Hid (nrB s = true) := nrB_yes (by omega) (by omega) (by rw [← hkk]; exact hto)
      clear hkk
      go_wp2
      go_ret
      exact ⟨ret_bool H.out.symm, rfl⟩

theorem nameByte_any (c : Int) (w : World) (h0 : 0 ≤ c) (h1 : c ≤ 255) :
    Calls Tryz.prog 203 #[.int .u8 c] w fun e w' => e = .returned (.bool (nmB c)) ∧ w' = w := by
  by_cases hl : lowB c = true
  · have HN : Hid (nmB c = true) := by show nmB c = true; simp [nmB, hl]
    go_enter Tryz.func203, Tryz.ntmps203
    go_wp2_with (go_at_call 202; refine (lower_any _ _ (by omega) (by omega)).mono ?_; rintro e w' ⟨rfl, rfl⟩)
    go_ret
    exact ⟨ret_bool HN.out.symm, rfl⟩
  · have hl' : lowB c = false := by simpa using hl
    have HN : Hid (nmB c = ((decide (48 ≤ c) && decide (c ≤ 57)) || decide (c = 95))) := by show nmB c = _; simp [nmB, hl']
    clear hl
    by_cases a : 48 ≤ c
    · go_enter Tryz.func203, Tryz.ntmps203
      go_wp2_with (go_at_call 202; refine (lower_any _ _ (by omega) (by omega)).mono ?_; rintro e w' ⟨rfl, rfl⟩)
      · go_ret
        exact ⟨ret_bool (by rw [HN.out]; simp [a]; by_cases e : c = 95 <;> simp [e]), rfl⟩
      · go_ret
        exact ⟨ret_bool (by rw [HN.out]; simp [a]; omega), rfl⟩
    · go_enter Tryz.func203, Tryz.ntmps203
      go_wp2_with (go_at_call 202; refine (lower_any _ _ (by omega) (by omega)).mono ?_; rintro e w' ⟨rfl, rfl⟩)
      go_ret
      exact ⟨ret_bool (by rw [HN.out]; have e : decide (48 ≤ c) = false := by simp; omega
                          rw [e]; by_cases e : c = 95 <;> simp [e]), rfl⟩

theorem okAt_pos {k : Nat} (h : 0 < k) (c : Int) : okAt k c = nmB c := by
  unfold okAt; have : k ≠ 0 := by omega
  simp only [this, ne_eq, not_false_eq_true, decide_true, Bool.true_and]
  cases e : lowB c <;> simp [nmB, e]

set_option maxHeartbeats 400000 in
theorem implNameRight_any (s : ByteArray) (w : World) (hs : s.size ≤ maxLen) :
    Calls Tryz.prog 180 #[.string s] w fun e w' => e = .returned (.bool (nrB s)) ∧ w' = w := by
  unfold maxLen at hs
  by_cases h1 : s.size < 1
  · have H : Hid (nrB s = false) := nrB_short (.inl h1)
    have b1 : decide ((s.size : Int) < 1) = true := by simp; omega
    go_enter Tryz.func180, Tryz.ntmps180
    go_wp2_with fail
    go_ret
    exact ⟨ret_bool H.out.symm, rfl⟩
  by_cases h2 : 20 < s.size
  · have H : Hid (nrB s = false) := nrB_short (.inr h2)
    have b1 : decide ((s.size : Int) < 1) = false := by simp; omega
    have b2 : decide (20 < (s.size : Int)) = true := by simp; omega
    go_enter Tryz.func180, Tryz.ntmps180
    go_wp2_with fail
    go_ret
    exact ⟨ret_bool H.out.symm, rfl⟩
  have b1 : decide ((s.size : Int) < 1) = false := by simp; omega
  have b2 : decide (20 < (s.size : Int)) = false := by simp; omega
  have hp : 0 < s.size := by omega
  have hcb : (s[0].toNat : Int) ≤ 255 := by have := s[0].toNat_lt; omega
  cases hl : lowB (s[0].toNat : Int)
  · have H : Hid (nrB s = false) := nrB_no 0 hp (by simp [okAt, hl])
    go_enter Tryz.func180, Tryz.ntmps180
    go_wp2_with (go_at_call 202; refine (lower_any _ _ (by omega) (by omega)).mono ?_; rintro e w' ⟨rfl, rfl⟩)
    go_ret
    exact ⟨ret_bool H.out.symm, rfl⟩
  · have H1 : Hid (nrTo s 1) := nrTo_succ (nrTo_zero s) hp (by simp [okAt, hl])
    go_enter Tryz.func180, Tryz.ntmps180
    go_wp2_with (go_at_call 202; refine (lower_any _ _ (by omega) (by omega)).mono ?_; rintro e w' ⟨rfl, rfl⟩)
    go_loop [3] (fun i => ∃ k : Nat, 1 ≤ k ∧ k ≤ s.size ∧ i = .int .i64 k ∧ nrTo s k) (fun i => s.size - (Go.RowKit.intOf i).toNat)
    case atStart => exact ⟨1, Nat.le_refl _, by omega, rfl, H1.out⟩
    case round =>
      obtain ⟨k, hk1, hk, rfl, hto⟩ := hrel
      by_cases hlt : k < s.size
      · have hcb : (s[k].toNat : Int) ≤ 255 := by have := s[k].toNat_lt; omega
        cases hn : nmB (s[k].toNat : Int)
        · have H : Hid (nrB s = false) := nrB_no k hlt (by rw [okAt_pos (by omega), hn])
          go_wp2_with (go_at_call 203; refine (nameByte_any _ _ (by omega) (by omega)).mono ?_; rintro e w' ⟨rfl, rfl⟩)
          go_ret
          exact ⟨ret_bool H.out.symm, rfl⟩
        · have H : Hid (nrTo s (k + 1)) := nrTo_succ hto hlt (by rw [okAt_pos (by omega), hn])
          go_wp2_with (go_at_call 203; refine (nameByte_any _ _ (by omega) (by omega)).mono ?_; rintro e w' ⟨rfl, rfl⟩)
          go_round
          case rel => exact ⟨k + 1, by omega, by omega, by go_num, H.out⟩
          case measure => simp [Go.RowKit.intOf]; omega
      · have hkk : k = s.size := by omega
        have H : Hid (nrB s = true) := nrB_yes (by omega) (by omega) (by rw [← hkk]; exact hto)
        clear hkk
        go_wp2
        go_ret
        exact ⟨ret_bool H.out.symm, rfl⟩

end Go.Proofs.YtonleickhincgaaGreatDoor
