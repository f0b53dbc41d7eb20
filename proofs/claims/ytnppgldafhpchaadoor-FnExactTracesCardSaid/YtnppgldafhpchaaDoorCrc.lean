/-
  What Crc and CrcMore answer, in the program and in the specification: both go on with the register by 'cText', for every text and every crc.
  Conditions: none but that the string fits the form's own reach, and that the crc is an int64.
-/
import Derived.Test.YtnppgldafhpchaaDoorRows
import Derived.WalkKit
import Derived.ProofKit
import Derived.Below
import Derived.Laws.Closers25b
namespace Go.Proofs.YtnppgldafhpchaaDoor
open Go.RowKit
set_option linter.unusedVariables false

theorem ret_intC {k : IntKind} {a b : Int} (h : a = b) : Ending.returned (.int k a) = .returned (.int k b) := by rw [h]

def cStep (x : Int) : Int := if (bits .and .u32 x 1 == 1) = true then bits .xor .u32 (x / 2) 3988292384 else x / 2
def cSteps : Nat → Int → Int
  | 0, x => x
  | k + 1, x => cStep (cSteps k x)
def cByte (r c : Int) : Int := cSteps 8 (bits .xor .u32 r c)
def cText (r : Int) (l : List UInt8) : Int := l.foldl (fun r b => cByte r (b.toNat : Int)) r
def cTo (r : Int) (s : ByteArray) (k : Nat) : Int := cText r (s.data.toList.take k)
def cNot (r : Int) : Int := bits .xor .u32 r 4294967295
def crcV (crc : Int) (s : ByteArray) : Int := cNot (cText (cNot crc) s.data.toList)
def crcB (crc : Int) (s : ByteArray) : Int := if 8000 < s.size ∨ crc < 0 ∨ 4294967295 < crc then 0 else crcV crc s

theorem take_snocC (s : ByteArray) (k : Nat) (h : k < s.size) : s.data.toList.take (k + 1) = s.data.toList.take k ++ [s[k]] := by
  rw [List.take_succ_eq_append_getElem (by simpa using h)]; rfl
theorem xor_bd (a b : Int) : 0 ≤ bits .xor .u32 a b ∧ bits .xor .u32 a b ≤ 4294967295 := ⟨bits_lo_u32 _ _ _, bits_hi_u32 _ _ _⟩
theorem cStep_bd {x : Int} (h0 : 0 ≤ x) (h1 : x ≤ 4294967295) : 0 ≤ cStep x ∧ cStep x ≤ 4294967295 := by
  unfold cStep; split
  · exact xor_bd _ _
  · omega
theorem cSteps_bd {x : Int} (h0 : 0 ≤ x) (h1 : x ≤ 4294967295) : ∀ k, 0 ≤ cSteps k x ∧ cSteps k x ≤ 4294967295
  | 0 => ⟨h0, h1⟩
  | k + 1 => cStep_bd (cSteps_bd h0 h1 k).1 (cSteps_bd h0 h1 k).2
theorem cByte_bd (r c : Int) : 0 ≤ cByte r c ∧ cByte r c ≤ 4294967295 := cSteps_bd (xor_bd _ _).1 (xor_bd _ _).2 8
theorem cText_bd (l : List UInt8) : ∀ {r : Int}, 0 ≤ r → r ≤ 4294967295 → 0 ≤ cText r l ∧ cText r l ≤ 4294967295 := by
  unfold cText
  induction l with
  | nil => intro r a b; exact ⟨a, b⟩
  | cons c t ih => intro r a b; exact ih (cByte_bd r _).1 (cByte_bd r _).2
theorem cTo_succ (r : Int) (s : ByteArray) (k : Nat) (h : k < s.size) : cTo r s (k + 1) = cByte (cTo r s k) (s[k].toNat : Int) := by
  unfold cTo; rw [take_snocC s k h]; unfold cText; rw [List.foldl_append]; rfl
theorem cTo_all (r : Int) (s : ByteArray) (k : Nat) (h : s.size ≤ k) : cTo r s k = cText r s.data.toList := by
  unfold cTo; rw [List.take_of_length_le (by simpa using h)]
theorem u32max : IntKind.u32.max = 4294967295 := by decide
theorem not_is (r : Int) : bits .xor .u32 IntKind.u32.max r = cNot r := by
  rw [u32max]; unfold cNot bits
  show IntKind.u32.wrap ((BitVec.ofInt 32 4294967295 ^^^ BitVec.ofInt 32 r).toNat : Int) = IntKind.u32.wrap ((BitVec.ofInt 32 r ^^^ BitVec.ofInt 32 4294967295).toNat : Int)
  rw [BitVec.xor_comm]
theorem wrapC {x : Int} (h : 0 ≤ x ∧ x ≤ 4294967295) : wrap64 x = x := by unfold wrap64; omega
theorem cNot_bd (r : Int) : 0 ≤ cNot r ∧ cNot r ≤ 4294967295 := xor_bd _ _
theorem crcV_bd (crc : Int) (s : ByteArray) : 0 ≤ crcV crc s ∧ crcV crc s ≤ 4294967295 := xor_bd _ _
theorem crcB_bd (crc : Int) (s : ByteArray) : 0 ≤ crcB crc s ∧ crcB crc s ≤ 4294967295 := by
  unfold crcB; split
  · omega
  · exact crcV_bd _ _

set_option maxHeartbeats 400000 in
theorem crcByte_any (r c : Int) (w : World) (r0 : 0 ≤ r) (r1 : r ≤ 4294967295) (h0 : 0 ≤ c) (h1 : c ≤ 255) :
    Calls Tryd.prog 57 #[.int .u32 r, .int .u8 c] w fun e w' => e = .returned (.int .u32 (cByte r c)) ∧ w' = w := by
  go_enter Tryd.func57, Tryd.ntmps57
  go_wp2
  go_loop [0, 10] (fun x i => ∃ k : Nat, k ≤ 8 ∧ i = .int .i64 k ∧ x = .int .u32 (cSteps k (bits .xor .u32 r c))) (fun _ i => 8 - (intOf i).toNat)
  case atStart => exact ⟨0, by omega, rfl, rfl⟩
  case round =>
    obtain ⟨k, hk, rfl, rfl⟩ := hrel
    have hb := cSteps_bd (xor_bd r c).1 (xor_bd r c).2 k
    have HS : Hid (cSteps (k + 1) (bits .xor .u32 r c) = cStep (cSteps k (bits .xor .u32 r c))) := rfl
    have HE : Hid (k = 8 → cSteps k (bits .xor .u32 r c) = cByte r c) := fun e => by rw [e]; rfl
    obtain ⟨x0, x1⟩ := hb
    generalize cSteps k (bits .xor .u32 r c) = x at *
    by_cases hlt : k < 8
    · cases ht : (bits .and .u32 x 1 == 1)
      · have HX : Hid (cStep x = x / 2) := by show cStep x = _; unfold cStep; rw [ht]; rfl
        go_wp2
        go_round
        case rel => exact ⟨k + 1, by omega, by go_num, by rw [HS.out, HX.out]⟩
        case measure => simp [intOf]; omega
      · have HX : Hid (cStep x = bits .xor .u32 (x / 2) 3988292384) := by show cStep x = _; unfold cStep; rw [ht]; rfl
        go_wp2
        go_round
        case rel => exact ⟨k + 1, by omega, by go_num, by rw [HS.out, HX.out]⟩
        case measure => simp [intOf]; omega
    · go_wp2
      go_ret
      exact ⟨ret_intC (HE.out (by omega)), rfl⟩

set_option maxHeartbeats 400000 in
theorem implCrcMore_any (crc : Int) (s : ByteArray) (w : World) (hs : s.size ≤ maxLen) :
    Calls Tryd.prog 56 #[.int .i64 crc, .string s] w fun e w' => e = .returned (.int .i64 (crcB crc s)) ∧ w' = w := by
  unfold maxLen at hs
  by_cases h1 : 8000 < s.size
  · have H : Hid (crcB crc s = 0) := if_pos (.inl h1)
    have b1 : decide (8000 < (s.size : Int)) = true := by simp; omega
    go_enter Tryd.func56, Tryd.ntmps56
    go_wp2_with fail
    go_ret
    exact ⟨ret_intC H.out.symm, rfl⟩
  have b1 : decide (8000 < (s.size : Int)) = false := by simp; omega
  by_cases h2 : crc < 0
  · have H : Hid (crcB crc s = 0) := if_pos (.inr (.inl h2))
    have b2 : decide (crc < 0) = true := by simp; omega
    go_enter Tryd.func56, Tryd.ntmps56
    go_wp2_with fail
    go_ret
    exact ⟨ret_intC H.out.symm, rfl⟩
  have b2 : decide (crc < 0) = false := by simp; omega
  by_cases h3 : 4294967295 < crc
  · have H : Hid (crcB crc s = 0) := if_pos (.inr (.inr h3))
    have b3 : decide (4294967295 < crc) = true := by simp; omega
    go_enter Tryd.func56, Tryd.ntmps56
    go_wp2_with fail
    go_ret
    exact ⟨ret_intC H.out.symm, rfl⟩
  have b3 : decide (4294967295 < crc) = false := by simp; omega
  have H : Hid (crcB crc s = crcV crc s) := if_neg (by omega)
  have hn := cNot_bd crc
  go_enter Tryd.func56, Tryd.ntmps56
  go_wp2_with fail
  go_loop [5, 6] (fun x i => ∃ k : Nat, k ≤ s.size ∧ i = .int .i64 k ∧ x = .int .u32 (cTo (cNot crc) s k)) (fun _ i => s.size - (intOf i).toNat)
  case atStart => exact ⟨0, Nat.zero_le _, rfl, by rw [not_is]; rfl⟩
  case round =>
    obtain ⟨k, hk, rfl, rfl⟩ := hrel
    have hb := cText_bd (s.data.toList.take k) hn.1 hn.2
    have HE : Hid (s.size ≤ k → cTo (cNot crc) s k = cText (cNot crc) s.data.toList) := cTo_all _ _ _
    obtain ⟨x0, x1⟩ := hb
    by_cases hlt : k < s.size
    · have HS : Hid (cTo (cNot crc) s (k + 1) = cByte (cTo (cNot crc) s k) (s[k].toNat : Int)) := cTo_succ _ _ _ hlt
      have hcb : (s[k].toNat : Int) ≤ 255 := by have := s[k].toNat_lt; omega
      have x0' : 0 ≤ cTo (cNot crc) s k := x0
      have x1' : cTo (cNot crc) s k ≤ 4294967295 := x1
      clear x0 x1
      generalize cTo (cNot crc) s k = x at *
      go_wp2_with (go_at_call 57; refine (crcByte_any _ _ _ (by omega) (by omega) (by omega) (by omega)).mono ?_; rintro e w' ⟨rfl, rfl⟩)
      go_round
      case rel => exact ⟨k + 1, by omega, by go_num, by rw [HS.out]⟩
      case measure => simp [intOf]; omega
    · have x0' : 0 ≤ cTo (cNot crc) s k := x0
      have x1' : cTo (cNot crc) s k ≤ 4294967295 := x1
      have HE' : Hid (cTo (cNot crc) s k = cText (cNot crc) s.data.toList) := HE.out (by omega)
      clear x0 x1 HE
      have HV : Hid (crcV crc s = cNot (cText (cNot crc) s.data.toList)) := rfl
      generalize cTo (cNot crc) s k = x at *
      go_wp2_with fail
      go_ret
      exact ⟨ret_intC (by rw [H.out, HV.out, ← HE'.out, not_is]; exact wrapC (cNot_bd x)), rfl⟩

set_option maxHeartbeats 400000 in
theorem implCrc_any (s : ByteArray) (w : World) (hs : s.size ≤ maxLen) :
    Calls Tryd.prog 54 #[.string s] w fun e w' => e = .returned (.int .i64 (crcB 0 s)) ∧ w' = w := by
  go_enter Tryd.func54, Tryd.ntmps54
  go_wp2_with (go_at_call 56; refine (implCrcMore_any _ _ _ hs).mono ?_; rintro e w' ⟨rfl, rfl⟩)
  go_ret
  exact ⟨rfl, rfl⟩

set_option maxHeartbeats 1000000 in
theorem specL01Crc_any (crc : Int) (s : ByteArray) (w : World) (hs : s.size ≤ maxLen) (c0 : 0 ≤ crc) (c1 : crc ≤ 4294967295) :
    Calls Tryd.prog 44 #[.int .i64 crc, .string s] w fun e w' => e = .returned (.int .i64 (crcV crc s)) ∧ w' = w := by
  unfold maxLen at hs
  have hn := cNot_bd crc
  have HV : Hid (crcV crc s = cNot (cText (cNot crc) s.data.toList)) := rfl
  go_enter Tryd.func44, Tryd.ntmps44
  go_wp2
  go_loop [5, 6, 7] (fun x i _ => ∃ k : Nat, k ≤ s.size ∧ i = .int .i64 k ∧ x = .int .u32 (cTo (cNot crc) s k)) (fun _ i _ => s.size - (intOf i).toNat)
  case atStart => exact ⟨0, Nat.zero_le _, rfl, rfl⟩
  case round =>
    obtain ⟨k, hk, rfl, rfl⟩ := hrel
    have hb := cText_bd (s.data.toList.take k) hn.1 hn.2
    have x0' : 0 ≤ cTo (cNot crc) s k := hb.1
    have x1' : cTo (cNot crc) s k ≤ 4294967295 := hb.2
    clear hb
    by_cases hlt : k < s.size
    · have HS : Hid (cTo (cNot crc) s (k + 1) = cByte (cTo (cNot crc) s k) (s[k].toNat : Int)) := cTo_succ _ _ _ hlt
      have hcb : (s[k].toNat : Int) ≤ 255 := by have := s[k].toNat_lt; omega
      generalize cTo (cNot crc) s k = x at *
      have HB : Hid (cByte x (s[k].toNat : Int) = cSteps 8 (bits .xor .u32 x (s[k].toNat : Int))) := rfl
      go_wp2
      go_loop [5, 7] (fun y j => ∃ m : Nat, m ≤ 8 ∧ j = .int .i64 m ∧ y = .int .u32 (cSteps m (bits .xor .u32 x (s[k].toNat : Int)))) (fun _ j => 8 - (intOf j).toNat)
      case atStart => exact ⟨0, by omega, rfl, rfl⟩
      case round =>
        obtain ⟨m, hm, rfl, rfl⟩ := hrel
        have hb := cSteps_bd (xor_bd x (s[k].toNat : Int)).1 (xor_bd x (s[k].toNat : Int)).2 m
        have HT : Hid (cSteps (m + 1) (bits .xor .u32 x (s[k].toNat : Int)) = cStep (cSteps m (bits .xor .u32 x (s[k].toNat : Int)))) := rfl
        have HE : Hid (m = 8 → cSteps m (bits .xor .u32 x (s[k].toNat : Int)) = cTo (cNot crc) s (k + 1)) := fun e => by rw [e, HS.out, HB.out]
        obtain ⟨y0, y1⟩ := hb
        clear HS HB
        generalize cSteps m (bits .xor .u32 x (s[k].toNat : Int)) = y at *
        by_cases hmlt : m < 8
        · cases ht : (bits .and .u32 y 1 == 1)
          · have HX : Hid (cStep y = y / 2) := by show cStep y = _; unfold cStep; rw [ht]; rfl
            go_wp2
            go_round
            case rel => exact ⟨m + 1, by omega, by go_num, by rw [HT.out, HX.out]⟩
            case measure => simp [intOf]; omega
          · have HX : Hid (cStep y = bits .xor .u32 (y / 2) 3988292384) := by show cStep y = _; unfold cStep; rw [ht]; rfl
            go_wp2
            go_round
            case rel => exact ⟨m + 1, by omega, by go_num, by rw [HT.out, HX.out]⟩
            case measure => simp [intOf]; omega
        · go_wp2
          go_round
          case rel => exact ⟨k + 1, by omega, by go_num, by rw [HE.out (by omega)]⟩
          case measure => simp [intOf]; omega
    · have HE' : Hid (cTo (cNot crc) s k = cText (cNot crc) s.data.toList) := cTo_all _ _ _ (by omega)
      generalize cTo (cNot crc) s k = x at *
      go_wp2
      go_ret
      exact ⟨ret_intC (by rw [HV.out, ← HE'.out]; exact wrapC (cNot_bd x)), rfl⟩

end Go.Proofs.YtnppgldafhpchaaDoor
