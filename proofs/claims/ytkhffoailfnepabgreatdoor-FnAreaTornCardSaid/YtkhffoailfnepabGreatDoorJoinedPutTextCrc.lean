/-
  Parts of one proof, laid as one text: Joined, PutText, Crc; what each says stands at its head.
-/
import Derived.Test.YtkhffoailfnepabGreatDoorRows
import Derived.Test.YtkhffoailfnepabGreatDoorBytesDigMath
import Derived.Handy
import Derived.Test.YtkhffoailfnepabGreatDoorLawDLwDskLwArLawIPutMathPutNum
import Derived.WalkKit
import Derived.ProofKit
import Derived.Below
import Derived.Laws.Closers25b
/-
  What 'joined' answers: the texts of its slice behind one another, in new memory; nothing that was there turns.
  Conditions: the slice's cells hold those texts; together they are at most 2^46 bytes long.
-/
namespace Go.Proofs.YtkhffoailfnepabGreatDoor
open Go.RowKit Go.Lib
set_option linter.unusedVariables false

theorem infoU8 : (Tryz.prog.info? 5).map (fun i => (i.zero, i.size, i.bytes)) = some (some (.int .u8 0), 1, 1) := by kernel_rfl
theorem sizeU8 : (Tryz.prog.info? 5).map (·.size) = some 1 := by kernel_rfl
theorem run_make_u8 (n : Nat) (hn : n ≤ 281474976710656) (w : World) :
    (Instr.makeSlice 22 (.int .i64 (n : Int)) (.int .i64 (n : Int))).run Tryz.prog w = .ok (.slice (some ⟨w.heap.size, 0, none⟩) n n) (w.alloc (.cells (zrow n).toArray 5)) := by
  obtain ⟨i0, hi, hz0, hz1, hz2⟩ := info_parts infoU8
  have := run_make (P := Tryz.prog) w 22 5 i0 (.int .u8 0) Tryz.underlying22 hi hz0 .i64 .i64 (n : Int) (n : Int) (by omega) (by omega) (by rw [hz2]; omega) (by omega)
  rw [this, hz1]
  simp only [Int.toNat_natCast, Nat.mul_one]
  rw [← madeZ]; rfl

set_option maxHeartbeats 1000000 in
theorem joined_any (b off n cap : Nat) (ss : List ByteArray) (w : World) (hn : ss.length = n) (hb : b < w.heap.size) (hnm : n ≤ 1048576) (hcap : n ≤ cap)
    (hc : ∀ i (h : i < ss.length), w.cell? ⟨b, off + i, none⟩ = some (.string ss[i])) (htot : sumN ss ss.length ≤ 70368744177664) :
    Calls Tryz.prog 58 #[.slice (some ⟨b, off, none⟩) n cap] w fun e w' => e = .returned (.string (cat ss)) ∧ Below w.heap.size w w' := by
  subst hn
  have HC : Hid (∀ i (h : i < ss.length), w.cell? ⟨b, off + i, none⟩ = some (.string ss[i])) := hc
  clear hc
  go_enter Tryz.func58, Tryz.ntmps58
  go_wp2
  go_loop [3, 12] (fun x i => ∃ k : Nat, k ≤ ss.length ∧ i = .int .i64 k ∧ x = .int .i64 (sumN ss k : Nat)) (fun _ i => ss.length - (intOf i).toNat)
  case atStart => exact ⟨0, Nat.zero_le _, rfl, rfl⟩
  case round =>
    obtain ⟨k, hk, rfl, rfl⟩ := hrel
    by_cases hlt : k < ss.length
    · have hck := HC.out k hlt
      have hle := sumN_le ss (k + 1)
      have HS : Hid (sumN ss (k + 1) = sumN ss k + ss[k].size) := sumN_succ ss k hlt
      have hsz : sumN ss k + ss[k].size ≤ 70368744177664 := by have := HS.out; omega
      clear hle
      generalize ss[k] = p at *
      go_wp2
      go_round
      case rel => exact ⟨k + 1, by omega, by go_num, by rw [HS.out]; go_num⟩
      case measure => simp [intOf]; omega
    · have hkk : k = ss.length := by omega
      subst hkk
      obtain ⟨tot, hT⟩ : ∃ tot, tot = sumN ss ss.length := ⟨_, rfl⟩
      have HT : Hid (tot = sumN ss ss.length) := hT
      rw [← hT] at htot ⊢
      clear hT
      have hmk := run_make_u8 tot (by omega)
      go_wp2
      go_loopw [7, 25] (fun x i wr => ∃ k : Nat, k ≤ ss.length ∧ i = .int .i64 k ∧ x = .int .i64 (sumN ss k : Nat) ∧ Hid (wr.heap[w.heap.size]? = some (.cells (rowAt ss k tot).toArray 5 (0, 0))) ∧ Below w.heap.size w wr) (fun _ i _ => ss.length - (intOf i).toNat)
      case atStart =>
        refine ⟨0, Nat.zero_le _, rfl, rfl, ?_, (Below.refl _ _).alloc (Nat.le_refl _) _⟩
        show _ = _
        rw [rowAt_zero]
        exact (MapKept.heap_alloc w _).1
      case round =>
        obtain ⟨k, hk, rfl, rfl, hrow, hnx⟩ := hrel
        have hBz : w.heap.size ≤ wr.heap.size := hnx.size
        by_cases hlt : k < ss.length
        · have hck : wr.cell? ⟨b, off + k, none⟩ = some (.string ss[k]) := (hnx.cell (p := ⟨b, off + k, none⟩) hb).trans (HC.out k hlt)
          have hle := sumN_le ss (k + 1)
          have HS : Hid (sumN ss (k + 1) = sumN ss k + ss[k].size) := sumN_succ ss k hlt
          have hsz : sumN ss k + ss[k].size ≤ tot := by have := HS.out; have := HT.out; omega
          have hlen := rowAt_len ss k tot (by omega)
          have HR : Hid (splice (rowAt ss k tot) (sumN ss k) (byteCells ss[k].data.toList) = rowAt ss (k + 1) tot) := rowAt_succ ss k tot hlt (by have := HS.out; omega)
          have HL : Hid ((rowAt ss k tot).length = tot) := hlen
          clear hle hlen
          generalize ss[k] = p at *
          generalize sumN ss k = m at *
          by_cases hm : m = tot
          · have hp0 : p.size = 0 := by omega
            have hcp := copy_str_none (P := Tryz.prog) wr 22 9 3 5 Tryz.underlying22 sizeU8 (some ⟨w.heap.size, 0, none⟩) 0 0 p hp0
            have HR' : Hid (rowAt ss (k + 1) tot = rowAt ss k tot) := by show _ = _; rw [← HR.out, splice_nil _ _ _ hp0]
            have HX : Hid (wr.heap[w.heap.size]? = some (.cells (rowAt ss (k + 1) tot).toArray 5 (0, 0))) := by show _ = _; rw [HR'.out]; exact hrow.out
            have HP : Hid (sumN ss (k + 1) = m) := by show _ = _; rw [HS.out]; omega
            clear hrow HR HR' HL HS
            subst hm
            go_wp2
            go_roundw
            case rel => exact ⟨k + 1, by omega, by go_num, by rw [HP.out], HX, hnx⟩
            case measure => simp [intOf]; omega
          · have hmlt : m < tot := by omega
            clear hm
            obtain ⟨w2, hcp, hrow2, hbel⟩ := copy_str (P := Tryz.prog) wr 22 9 3 5 Tryz.underlying22 sizeU8 w.heap.size m (tot - m) (tot - m) p (rowAt ss k tot) 5 hrow.out (by omega) (by rw [HL.out]; omega)
            have HW : Hid (w2.heap[w.heap.size]? = some (.cells (rowAt ss (k + 1) tot).toArray 5 (0, 0))) := by show _ = _; rw [← HR.out]; exact hrow2
            have hb2 := hbel w.heap.size w hnx (Nat.le_refl _)
            clear hbel hrow2 hrow HR HL
            go_wp2
            go_roundw
            case rel => exact ⟨k + 1, by omega, by go_num, by rw [HS.out]; go_num, HW, hb2⟩
            case measure => simp [intOf]; omega
        · have hkk : k = ss.length := by omega
          subst hkk
          have hrow' : wr.heap[w.heap.size]? = some (.cells (byteCells (catN ss ss.length)).toArray 5 (0, 0)) := by
            have := hrow.out; rw [HT.out, rowAt_all] at this; exact this
          have hconv := run_convert_bytes_back (P := Tryz.prog) wr 22 9 5 ⟨w.heap.size, 0, none⟩ tot (catN ss ss.length) Tryz.underlying22 Tryz.underlying5 Tryz.underlying9 (row_cell hrow')
          have hl : (catN ss ss.length).length = tot := by rw [HT.out]; rfl
          rw [hl, catN_all] at hconv
          clear hl hrow'
          go_wp2
          go_ret
          exact ⟨rfl, hnx⟩

theorem cat_two (a b : ByteArray) : cat [a, b] = a ++ b := by
  apply ByteArray.ext; simp [cat]
theorem cat_one (a : ByteArray) : cat [a] = a := by
  apply ByteArray.ext; simp [cat]
theorem new_texts (w : World) (ss : List ByteArray) (t : TypeId) (i : Nat) (h : i < ss.length) :
    (w.alloc (.cells (ss.map Value.string).toArray t)).cell? ⟨w.heap.size, 0 + i, none⟩ = some (.string ss[i]) := by
  rw [World.cell?_alloc_mark]; simp [h]

theorem joined_new (ss : List ByteArray) (w : World) (hn : ss.length ≤ 1048576) (htot : (cat ss).size ≤ 70368744177664) :
    Calls Tryz.prog 58 #[.slice (some ⟨w.heap.size, 0, none⟩) ss.length ss.length] (w.alloc (.cells (ss.map Value.string).toArray 9))
      fun e w' => e = .returned (.string (cat ss)) ∧ Below w.heap.size w w' := by
  refine (joined_any w.heap.size 0 ss.length ss.length ss _ rfl (by simp) hn (Nat.le_refl _) (new_texts w ss _) (by rw [cat_size] at htot; exact htot)).mono ?_
  rintro e w' ⟨he, hb⟩
  exact ⟨he, ((Below.refl _ _).alloc (Nat.le_refl _) _).trans (hb.mono (by simp))⟩

theorem joined_two (a b : ByteArray) (w : World) (h : a.size + b.size ≤ 70368744177664) :
    Calls Tryz.prog 58 #[.slice (some ⟨w.heap.size, 0, none⟩) 2 2] (w.alloc (.cells #[.string a, .string b] 9))
      fun e w' => e = .returned (.string (a ++ b)) ∧ Below w.heap.size w w' := by
  have := joined_new [a, b] w (by simp) (by rw [cat_two]; simpa using h)
  rw [cat_two] at this
  exact this

theorem joined_one (a : ByteArray) (w : World) (h : a.size ≤ 70368744177664) :
    Calls Tryz.prog 58 #[.slice (some ⟨w.heap.size, 0, none⟩) 1 1] (w.alloc (.cells #[.string a] 9))
      fun e w' => e = .returned (.string a) ∧ Below w.heap.size w w' := by
  have := joined_new [a] w (by simp) (by rw [cat_one]; exact h)
  rw [cat_one] at this
  exact this
end Go.Proofs.YtkhffoailfnepabGreatDoor
/-
  What PutText answers, in the program and in the specification: the length's bytes and the text behind them, or the empty text.
  Conditions: the string fits the form's own reach.
-/
namespace Go.Proofs.YtkhffoailfnepabGreatDoor
open Go.RowKit Go.Lib
set_option linter.unusedVariables false

def putTextB (s : ByteArray) : ByteArray := if 8000 < s.size then ByteArray.empty else putB (s.size : Int) ++ s

theorem putI_len : ∀ (f : Nat) (u : Int), (putI f u).length ≤ f + 1
  | 0, u => Nat.le_refl _
  | f + 1, u => by
    unfold putI; split
    · simp
    · have := putI_len f (u / 128); simp; omega
theorem putB_size (n : Int) : (putB n).size ≤ 10 := by unfold putB; rw [strOfNums_size]; exact putI_len 9 _

end Go.Proofs.YtkhffoailfnepabGreatDoor
/-
  What Crc and CrcMore answer, in the program and in the specification: both go on with the register by 'cText', for every text and every crc.
  Conditions: none but that the string fits the form's own reach, and that the crc is an int64.
-/
namespace Go.Proofs.YtkhffoailfnepabGreatDoor
open Go.RowKit
set_option linter.unusedVariables false

theorem ret_intC {k : IntKind} {a b : Int} (h : a = b) : Ending.returned (.int k a) = .returned (.int k b) := by rw [h]

def cStep (x : Int) : Int := if (bits .and .u32 x 1 == 1) = true then bits .xor .u32 (x / 2) 3988292384 else x / 2
def cSteps : Nat → Int → Int
  | 0, x => x
  | k + 1, x => cStep (cSteps k x)
def cByte (r c : Int) : Int := cSteps 8 (bits .xor .u32 r c)
def cText (r : Int) (l : List UInt8) : Int := l.foldl (fun r b => cByte r (b.toNat : Int)) r
def cTo (r : Int) (s : ByteArray) (k : Nat) : Int := cText r (s.data.toList.take k)
def cNot (r : Int) : Int := bits .xor .u32 r 4294967295
def crcV (crc : Int) (s : ByteArray) : Int := cNot (cText (cNot crc) s.data.toList)
def crcB (crc : Int) (s : ByteArray) : Int := if 8000 < s.size ∨ crc < 0 ∨ 4294967295 < crc then 0 else crcV crc s

theorem take_snocC (s : ByteArray) (k : Nat) (h : k < s.size) : s.data.toList.take (k + 1) = s.data.toList.take k ++ [s[k]] := by
  rw [List.take_succ_eq_append_getElem (by simpa using h)]; rfl
theorem xor_bd (a b : Int) : 0 ≤ bits .xor .u32 a b ∧ bits .xor .u32 a b ≤ 4294967295 := ⟨bits_lo_u32 _ _ _, bits_hi_u32 _ _ _⟩
theorem cStep_bd {x : Int} (h0 : 0 ≤ x) (h1 : x ≤ 4294967295) : 0 ≤ cStep x ∧ cStep x ≤ 4294967295 := by
  unfold cStep; split
  · exact xor_bd _ _
  · omega
theorem cSteps_bd {x : Int} (h0 : 0 ≤ x) (h1 : x ≤ 4294967295) : ∀ k, 0 ≤ cSteps k x ∧ cSteps k x ≤ 4294967295
  | 0 => ⟨h0, h1⟩
  | k + 1 => cStep_bd (cSteps_bd h0 h1 k).1 (cSteps_bd h0 h1 k).2
theorem cByte_bd (r c : Int) : 0 ≤ cByte r c ∧ cByte r c ≤ 4294967295 := cSteps_bd (xor_bd _ _).1 (xor_bd _ _).2 8
theorem cText_bd (l : List UInt8) : ∀ {r : Int}, 0 ≤ r → r ≤ 4294967295 → 0 ≤ cText r l ∧ cText r l ≤ 4294967295 := by
  unfold cText
  induction l with
  | nil => intro r a b; exact ⟨a, b⟩
  | cons c t ih => intro r a b; exact ih (cByte_bd r _).1 (cByte_bd r _).2
theorem cTo_succ (r : Int) (s : ByteArray) (k : Nat) (h : k < s.size) : cTo r s (k + 1) = cByte (cTo r s k) (s[k].toNat : Int) := by
  unfold cTo; rw [take_snocC s k h]; unfold cText; rw [List.foldl_append]; rfl
theorem cTo_all (r : Int) (s : ByteArray) (k : Nat) (h : s.size ≤ k) : cTo r s k = cText r s.data.toList := by
  unfold cTo; rw [List.take_of_length_le (by simpa using h)]
theorem u32max : IntKind.u32.max = 4294967295 := by decide
theorem not_is (r : Int) : bits .xor .u32 IntKind.u32.max r = cNot r := by
  rw [u32max]; unfold cNot bits
  show IntKind.u32.wrap ((BitVec.ofInt 32 4294967295 ^^^ BitVec.ofInt 32 r).toNat : Int) = IntKind.u32.wrap ((BitVec.ofInt 32 r ^^^ BitVec.ofInt 32 4294967295).toNat : Int)
  rw [BitVec.xor_comm]
theorem wrapC {x : Int} (h : 0 ≤ x ∧ x ≤ 4294967295) : wrap64 x = x := by unfold wrap64; omega
theorem cNot_bd (r : Int) : 0 ≤ cNot r ∧ cNot r ≤ 4294967295 := xor_bd _ _
theorem crcV_bd (crc : Int) (s : ByteArray) : 0 ≤ crcV crc s ∧ crcV crc s ≤ 4294967295 := xor_bd _ _
theorem crcB_bd (crc : Int) (s : ByteArray) : 0 ≤ crcB crc s ∧ crcB crc s ≤ 4294967295 := by
  unfold crcB; split
  · omega
  · exact crcV_bd _ _

set_option maxHeartbeats 400000 in
theorem crcByte_any (r c : Int) (w : World) (r0 : 0 ≤ r) (r1 : r ≤ 4294967295) (h0 : 0 ≤ c) (h1 : c ≤ 255) :
    Calls Tryz.prog 97 #[.int .u32 r, .int .u8 c] w fun e w' => e = .returned (.int .u32 (cByte r c)) ∧ w' = w := by
  go_enter Tryz.func97, Tryz.ntmps97
  go_wp2
  go_loop [0, 10] (fun x i => ∃ k : Nat, k ≤ 8 ∧ i = .int .i64 k ∧ x = .int .u32 (cSteps k (bits .xor .u32 r c))) (fun _ i => 8 - (intOf i).toNat)
  case atStart => exact ⟨0, by omega, rfl, rfl⟩
  case round =>
    obtain ⟨k, hk, rfl, rfl⟩ := hrel
    have hb := cSteps_bd (xor_bd r c).1 (xor_bd r c).2 k
    have HS : Hid (cSteps (k + 1) (bits .xor .u32 r c) = cStep (cSteps k (bits .xor .u32 r c))) := rfl
    have HE : Hid (k = 8 → cSteps k (bits .xor .u32 r c) = cByte r c) := fun e => by rw [e]; rfl
    obtain ⟨x0, x1⟩ := hb
    generalize cSteps k (bits .xor .u32 r c) = x at *
    by_cases hlt : k < 8
    · cases ht : (bits .and .u32 x 1 == 1)
      · have HX : Hid (cStep x = x / 2) := by show cStep x = _; unfold cStep; rw [ht]; rfl
        go_wp2
        go_round
        case rel => exact ⟨k + 1, by omega, by go_num, by rw [HS.out, HX.out]⟩
        case measure => simp [intOf]; omega
      · have HX : Hid (cStep x = bits .xor .u32 (x / 2) 3988292384) := by show cStep x = _; unfold cStep; rw [ht]; rfl
        go_wp2
        go_round
        case rel => exact ⟨k + 1, by omega, by go_num, by rw [HS.out, HX.out]⟩
        case measure => simp [intOf]; omega
    · go_wp2
      go_ret
      exact ⟨ret_intC (HE.out (by omega)), rfl⟩

set_option maxHeartbeats 400000 in
theorem implCrcMore_any (crc : Int) (s : ByteArray) (w : World) (hs : s.size ≤ maxLen) :
    Calls Tryz.prog 96 #[.int .i64 crc, .string s] w fun e w' => e = .returned (.int .i64 (crcB crc s)) ∧ w' = w := by
  unfold maxLen at hs
  by_cases h1 : 8000 < s.size
  · have H : Hid (crcB crc s = 0) := if_pos (.inl h1)
    have b1 : decide (8000 < (s.size : Int)) = true := by simp; omega
    go_enter Tryz.func96, Tryz.ntmps96
    go_wp2_with fail
    go_ret
    exact ⟨ret_intC H.out.symm, rfl⟩
  have b1 : decide (8000 < (s.size : Int)) = false := by simp; omega
  by_cases h2 : crc < 0
  · have H : Hid (crcB crc s = 0) := if_pos (.inr (.inl h2))
    have b2 : decide (crc < 0) = true := by simp; omega
    go_enter Tryz.func96, Tryz.ntmps96
    go_wp2_with fail
    go_ret
    exact ⟨ret_intC H.out.symm, rfl⟩
  have b2 : decide (crc < 0) = false := by simp; omega
  by_cases h3 : 4294967295 < crc
  · have H : Hid (crcB crc s = 0) := if_pos (.inr (.inr h3))
    have b3 : decide (4294967295 < crc) = true := by simp; omega
    go_enter Tryz.func96, Tryz.ntmps96
    go_wp2_with fail
    go_ret
    exact ⟨ret_intC H.out.symm, rfl⟩
  have b3 : decide (4294967295 < crc) = false := by simp; omega
  have H : Hid (crcB crc s = crcV crc s) := if_neg (by omega)
  have hn := cNot_bd crc
  go_enter Tryz.func96, Tryz.ntmps96
  go_wp2_with fail
  go_loop [5, 6] (fun x i => ∃ k : Nat, k ≤ s.size ∧ i = .int .i64 k ∧ x = .int .u32 (cTo (cNot crc) s k)) (fun _ i => s.size - (intOf i).toNat)
  case atStart => exact ⟨0, Nat.zero_le _, rfl, by rw [not_is]; rfl⟩
  case round =>
    obtain ⟨k, hk, rfl, rfl⟩ := hrel
    have hb := cText_bd (s.data.toList.take k) hn.1 hn.2
    have HE : Hid (s.size ≤ k → cTo (cNot crc) s k = cText (cNot crc) s.data.toList) := cTo_all _ _ _
    obtain ⟨x0, x1⟩ := hb
    by_cases hlt : k < s.size
    · have HS : Hid (cTo (cNot crc) s (k + 1) = cByte (cTo (cNot crc) s k) (s[k].toNat : Int)) := cTo_succ _ _ _ hlt
      have hcb : (s[k].toNat : Int) ≤ 255 := by have := s[k].toNat_lt; omega
      have x0' : 0 ≤ cTo (cNot crc) s k := x0
      have x1' : cTo (cNot crc) s k ≤ 4294967295 := x1
      clear x0 x1
      generalize cTo (cNot crc) s k = x at *
      go_wp2_with (go_at_call 97; refine (crcByte_any _ _ _ (by omega) (by omega) (by omega) (by omega)).mono ?_; rintro e w' ⟨rfl, rfl⟩)
      go_round
      case rel => exact ⟨k + 1, by omega, by go_num, by rw [HS.out]⟩
      case measure => simp [intOf]; omega
    · have x0' : 0 ≤ cTo (cNot crc) s k := x0
      have x1' : cTo (cNot crc) s k ≤ 4294967295 := x1
      have HE' : Hid (cTo (cNot crc) s k = cText (cNot crc) s.data.toList) := HE.out (by omega)
      clear x0 x1 HE
      have HV : Hid (crcV crc s = cNot (cText (cNot crc) s.data.toList)) := rfl
      generalize cTo (cNot crc) s k = x at *
      go_wp2_with fail
      go_ret
      exact ⟨ret_intC (by rw [H.out, HV.out, ← HE'.out, not_is]; exact wrapC (cNot_bd x)), rfl⟩

set_option maxHeartbeats 400000 in
theorem implCrc_any (s : ByteArray) (w : World) (hs : s.size ≤ maxLen) :
    Calls Tryz.prog 92 #[.string s] w fun e w' => e = .returned (.int .i64 (crcB 0 s)) ∧ w' = w := by
  go_enter Tryz.func92, Tryz.ntmps92
  go_wp2_with (go_at_call 96; refine (implCrcMore_any _ _ _ hs).mono ?_; rintro e w' ⟨rfl, rfl⟩)
  go_ret
  exact ⟨rfl, rfl⟩

set_option maxHeartbeats 1000000 in
theorem specL01Crc_any (crc : Int) (s : ByteArray) (w : World) (hs : s.size ≤ maxLen) (c0 : 0 ≤ crc) (c1 : crc ≤ 4294967295) :
    Calls Tryz.prog 84 #[.int .i64 crc, .string s] w fun e w' => e = .returned (.int .i64 (crcV crc s)) ∧ w' = w := by
  unfold maxLen at hs
  have hn := cNot_bd crc
  have HV : Hid (crcV crc s = cNot (cText (cNot crc) s.data.toList)) := rfl
  go_enter Tryz.func84, Tryz.ntmps84
  go_wp2
  go_loop [5, 6, 7] (fun x i _ => ∃ k : Nat, k ≤ s.size ∧ i = .int .i64 k ∧ x = .int .u32 (cTo (cNot crc) s k)) (fun _ i _ => s.size - (intOf i).toNat)
  case atStart => exact ⟨0, Nat.zero_le _, rfl, rfl⟩
  case round =>
    obtain ⟨k, hk, rfl, rfl⟩ := hrel
    have hb := cText_bd (s.data.toList.take k) hn.1 hn.2
    have x0' : 0 ≤ cTo (cNot crc) s k := hb.1
    have x1' : cTo (cNot crc) s k ≤ 4294967295 := hb.2
    clear hb
    by_cases hlt : k < s.size
    · have HS : Hid (cTo (cNot crc) s (k + 1) = cByte (cTo (cNot crc) s k) (s[k].toNat : Int)) := cTo_succ _ _ _ hlt
      have hcb : (s[k].toNat : Int) ≤ 255 := by have := s[k].toNat_lt; omega
      generalize cTo (cNot crc) s k = x at *
      have HB : Hid (cByte x (s[k].toNat : Int) = cSteps 8 (bits .xor .u32 x (s[k].toNat : Int))) := rfl
      go_wp2
      go_loop [5, 7] (fun y j => ∃ m : Nat, m ≤ 8 ∧ j = .int .i64 m ∧ y = .int .u32 (cSteps m (bits .xor .u32 x (s[k].toNat : Int)))) (fun _ j => 8 - (intOf j).toNat)
      case atStart => exact ⟨0, by omega, rfl, rfl⟩
      case round =>
        obtain ⟨m, hm, rfl, rfl⟩ := hrel
        have hb := cSteps_bd (xor_bd x (s[k].toNat : Int)).1 (xor_bd x (s[k].toNat : Int)).2 m
        have HT : Hid (cSteps (m + 1) (bits .xor .u32 x (s[k].toNat : Int)) = cStep (cSteps m (bits .xor .u32 x (s[k].toNat : Int)))) := rfl
        have HE : Hid (m = 8 → cSteps m (bits .xor .u32 x (s[k].toNat : Int)) = cTo (cNot crc) s (k + 1)) := fun e => by rw [e, HS.out, HB.out]
        obtain ⟨y0, y1⟩ := hb
        clear HS HB
        generalize cSteps m (bits .xor .u32 x (s[k].toNat : Int)) = y at *
        by_cases hmlt : m < 8
        · cases ht : (bits .and .u32 y 1 == 1)
          · have HX : Hid (cStep y = y / 2) := by show cStep y = _; unfold cStep; rw [ht]; rfl
            go_wp2
            go_round
            case rel => exact ⟨m + 1, by omega, by go_num, by rw [HT.out, HX.out]⟩
            case measure => simp [intOf]; omega
          · have HX : Hid (cStep y = bits .xor .u32 (y / 2) 3988292384) := by show cStep y = _; unfold cStep; rw [ht]; rfl
            go_wp2
            go_round
            case rel => exact ⟨m + 1, by omega, by go_num, by rw [HT.out, HX.out]⟩
            case measure => simp [intOf]; omega
        · go_wp2
          go_round
          case rel => exact ⟨k + 1, by omega, by go_num, by rw [HE.out (by omega)]⟩
          case measure => simp [intOf]; omega
    · have HE' : Hid (cTo (cNot crc) s k = cText (cNot crc) s.data.toList) := cTo_all _ _ _ (by omega)
      generalize cTo (cNot crc) s k = x at *
      go_wp2
      go_ret
      exact ⟨ret_intC (by rw [HV.out, ← HE'.out]; exact wrapC (cNot_bd x)), rfl⟩

end Go.Proofs.YtkhffoailfnepabGreatDoor
