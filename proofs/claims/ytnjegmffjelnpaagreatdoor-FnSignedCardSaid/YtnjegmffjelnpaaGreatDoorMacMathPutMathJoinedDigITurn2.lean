/-
  Parts of one proof, laid as one text: MacMath, PutMath, Joined, DigI, Turn2; what each says stands at its head.
-/
import Derived.Test.YtnjegmffjelnpaaGreatDoorBytesDigMathTurnIWholeR
import Derived.Test.YtnjegmffjelnpaaGreatDoorSlABxKSlBOwnSSgnBOwnBPadI
import Derived.Handy
import Derived.WalkKit
import Derived.ProofKit
import Derived.Below
import Derived.Laws.BitsAllLaws
import Derived.Laws.BytesArg
import Derived.Lib.Strings
import Derived.Test.YtnjegmffjelnpaaGreatDoorRows
import Derived.Test.YtnjegmffjelnpaaGreatDoorNumsIBlockI
import Derived.WalkSpells
import Derived.Deep.AppendLies
import Derived.StillTailTactics
/-
  A mac and a stretched pass, as plain functions: 'macB', 'macA', 'strB', 'strA'.
  Nothing of the program is named here.
-/
namespace Go.Proofs.YtnjegmffjelnpaaGreatDoor
open Go.RowKit Go.Lib
set_option linter.unusedVariables false

def kAt (key : ByteArray) (m : Int) (k i : Nat) : Int := if i < k then bits .xor .u8 (byteAt key i) m else byteAt key i
def kPart (key : ByteArray) (m : Int) (k : Nat) : List Int := (List.range 64).map (kAt key m k)
theorem kPart_len (key : ByteArray) (m : Int) (k : Nat) : (kPart key m k).length = 64 := by simp [kPart]
theorem kPart_zero (key : ByteArray) (m : Int) (h : key.size ≤ 64) : bytesN key ++ List.replicate (64 - key.size) 0 = kPart key m 0 := by
  have hl := bytesN_len key
  apply List.ext_getElem
  · rw [List.length_append, hl, List.length_replicate, kPart_len]; omega
  · intro i h1 h2
    rw [kPart_len] at h2
    simp only [kPart, List.getElem_map, List.getElem_range, kAt, Nat.not_lt_zero, if_false]
    by_cases hi : i < key.size
    · rw [List.getElem_append_left (by omega)]
      have h3 : i < key.data.toList.length := by rw [← size_eq]; exact hi
      simp only [bytesN, List.getElem_map, byteAt, List.getD_eq_getElem?_getD, List.getElem?_eq_getElem h3]; rfl
    · rw [List.getElem_append_right (by omega)]
      have h3 : key.data.toList.length ≤ i := by rw [← size_eq]; omega
      simp only [List.getElem_replicate, byteAt, List.getD_eq_getElem?_getD, List.getElem?_eq_none h3]; rfl
theorem kPart_at (key : ByteArray) (m : Int) (k : Nat) (h : k < 64) : (kPart key m k)[k]? = some (byteAt key k) := by
  simp [kPart, kAt, h]
theorem kPart_set (key : ByteArray) (m : Int) (k : Nat) (h : k < 64) : (rowN (kPart key m k)).toArray.setIfInBounds k (.int .u8 (bits .xor .u8 (byteAt key k) m)) = (rowN (kPart key m (k + 1))).toArray := by
  rw [List.setIfInBounds_toArray]
  congr 1
  apply List.ext_getElem
  · simp [rowN, kPart_len]
  · intro i h1 h2
    simp only [rowN, List.length_map, kPart_len] at h2
    rw [List.getElem_set]
    by_cases hi : k = i
    · subst hi
      simp [rowN, kPart, kAt]
    · rw [if_neg hi]
      simp only [rowN, kPart, List.getElem_map, List.getElem_range, kAt]
      by_cases h3 : i < k
      · rw [if_pos h3, if_pos (by omega)]
      · rw [if_neg h3, if_neg (by omega)]
theorem kRow_cell {w : World} {g : Nat} {key : ByteArray} {m : Int} {k : Nat} {T : TypeId} (h : w.heap[g]? = some (.cells (rowN (kPart key m k)).toArray T (0, 0))) (hk : k < 64) : w.cell? ⟨g, k, none⟩ = some (.int .u8 (byteAt key k)) ∧ w.frozen? ⟨g, k, none⟩ = false := by
  simp [World.cell?, World.frozen?, h, rowN, kPart_at key m k hk]
def padK (key : ByteArray) (m : Int) : ByteArray := strOfNums (kPart key m 64)
theorem padK_size (key : ByteArray) (m : Int) : (padK key m).size = 64 := by unfold padK; rw [strOfNums_size, kPart_len]
def keyK (key : ByteArray) : ByteArray := if 64 < key.size then digB key else key
theorem keyK_size (key : ByteArray) : (keyK key).size ≤ 64 := by
  unfold keyK
  by_cases h : 64 < key.size
  · rw [if_pos h, digB_size]; omega
  · rw [if_neg h]; omega
def macB (key text : ByteArray) : ByteArray := digB (padK (keyK key) 92 ++ digB (padK (keyK key) 54 ++ text))
def macA (key text : ByteArray) : ByteArray := if key.size ≤ 8000 ∧ text.size ≤ 8000 then macB key text else ByteArray.empty
def salt : ByteArray := ⟨#[115, 97, 108, 116]⟩
def strB (pass : ByteArray) : Nat → ByteArray
  | 0 => salt
  | k + 1 => macB pass (strB pass k)
theorem strB_size (pass : ByteArray) : ∀ k, (strB pass k).size ≤ 32
  | 0 => (by decide : salt.size ≤ 32)
  | k + 1 => by rw [strB, macB, digB_size]; omega
def strA (pass : ByteArray) (n : Int) : ByteArray := if pass.size ≤ 8000 ∧ 1 ≤ n ∧ n ≤ 100 then strB pass n.toNat else ByteArray.empty
end Go.Proofs.YtnjegmffjelnpaaGreatDoor
/-
  The bytes of a number, in plain mathematics: 'fold' lays the sign at the foot, 'putI' cuts into groups of seven bits.
-/
namespace Go.Proofs.YtnjegmffjelnpaaGreatDoor
open Go.RowKit Go.Lib
set_option linter.unusedVariables false

def foldN (n : Int) : Int := if 0 ≤ n then 2 * n else -2 * n - 1
def putI : Nat → Int → List Int
  | 0, u => [u]
  | f + 1, u => if u < 128 then [u] else (u % 128 + 128) :: putI f (u / 128)
def putB (n : Int) : ByteArray := strOfNums (putI 9 (foldN n))

theorem foldN_bd {n : Int} (h0 : -9223372036854775808 ≤ n) (h1 : n ≤ 9223372036854775807) : 0 ≤ foldN n ∧ foldN n ≤ 18446744073709551615 := by
  unfold foldN; split <;> omega

/-- What a loop over the groups knows: k groups are done ('pre'), 'u' is left. -/
def PutTo (u0 : Int) (k : Nat) (pre : List Int) (u : Int) : Prop :=
  k ≤ 9 ∧ pre.length = k ∧ 0 ≤ u ∧ u * 128 ^ k < 18446744073709551616 ∧ putI 9 u0 = pre ++ putI (9 - k) u ∧ (∀ x ∈ pre, 0 ≤ x ∧ x ≤ 255) ∧ u ≤ u0

theorem putTo_start {u0 : Int} (h0 : 0 ≤ u0) (h1 : u0 ≤ 18446744073709551615) : PutTo u0 0 [] u0 :=
  ⟨by omega, rfl, h0, by simp; omega, rfl, by simp, Int.le_refl _⟩

theorem putTo_more {u0 : Int} {k : Nat} {pre : List Int} {u : Int} (h : PutTo u0 k pre u) (hu : 128 ≤ u) : k ≤ 8 := by
  obtain ⟨hk, _, _, hb, _⟩ := h
  rcases Nat.lt_or_ge 8 k with h9 | h9
  · have : k = 9 := by omega
    subst this
    have : (128 : Int) ^ 9 = 9223372036854775808 := by decide
    rw [this] at hb; omega
  · exact h9

theorem putTo_step {u0 : Int} {k : Nat} {pre : List Int} {u : Int} (h : PutTo u0 k pre u) (hu : 128 ≤ u) : PutTo u0 (k + 1) (pre ++ [u % 128 + 128]) (u / 128) := by
  have hk := putTo_more h hu
  obtain ⟨_, hl, h0, hb, hp, hx, hle⟩ := h
  refine ⟨by omega, by simp [hl], by omega, ?_, ?_, ?_, by omega⟩
  · have e : (128 : Int) ^ (k + 1) = 128 ^ k * 128 := Int.pow_succ _ _
    have hpos : (0 : Int) < 128 ^ k := Int.pow_pos (by decide)
    have hd : u / 128 * 128 ≤ u := Int.ediv_mul_le _ (by decide)
    have : u / 128 * (128 ^ k * 128) = (u / 128 * 128) * 128 ^ k := by rw [Int.mul_comm (128 ^ k) 128, ← Int.mul_assoc]
    rw [e, this]
    exact Int.lt_of_le_of_lt (Int.mul_le_mul_of_nonneg_right hd (Int.le_of_lt hpos)) hb
  · rw [hp, List.append_assoc]
    have : 9 - k = (9 - (k + 1)) + 1 := by omega
    rw [this, putI, if_neg (by omega)]; rfl
  · intro x hx'
    rcases List.mem_append.1 hx' with h | h
    · exact hx x h
    · simp at h; subst h; omega

theorem putTo_end {u0 : Int} {k : Nat} {pre : List Int} {u : Int} (h : PutTo u0 k pre u) (hu : u < 128) : putI 9 u0 = pre ++ [u] := by
  obtain ⟨hk, hl, h0, hb, hp, _⟩ := h
  rw [hp]
  congr 1
  cases e : 9 - k with
  | zero => rfl
  | succ m => rw [putI, if_pos hu]

theorem or128 (x : Int) (h0 : 0 ≤ x) : bits .or .u8 (x % 256) 128 = x % 128 + 128 := by
  have key : ∀ y : Fin 256, bits .or .u8 ((y.val : Nat) : Int) 128 = ((y.val % 128 + 128 : Nat) : Int) := by decide +kernel
  have hy : (x % 256).toNat < 256 := by omega
  have := key ⟨(x % 256).toNat, hy⟩
  simp only at this
  rw [show (((x % 256).toNat : Nat) : Int) = x % 256 by omega] at this
  rw [this]; omega

theorem u64max : IntKind.u64.max = 18446744073709551615 := by decide
theorem fold_xor (n : Int) (h0 : n < 0) (h1 : -9223372036854775808 ≤ n) :
    bits .xor .u64 IntKind.u64.max (IntKind.u64.wrap (IntKind.u64.wrap n * 2)) = foldN n := by
  have e1 : IntKind.u64.wrap (IntKind.u64.wrap n * 2) = ((2 * n + 18446744073709551616).toNat : Int) := by
    simp [IntKind.wrap, IntKind.bits, IntKind.signed]; omega
  rw [e1, u64max]
  generalize hm : (2 * n + 18446744073709551616).toNat = m
  have hm' : m < 18446744073709551616 := by omega
  have : bits .xor .u64 18446744073709551615 (m : Int) = 18446744073709551615 - (m : Int) := by
    show IntKind.u64.wrap ((BitVec.ofInt 64 18446744073709551615 ^^^ BitVec.ofInt 64 (m : Int)).toNat : Int) = _
    have h2 : BitVec.ofInt 64 18446744073709551615 = BitVec.allOnes 64 := by decide
    rw [h2, BitVec.allOnes_xor, BitVec.toNat_not, BitVec.ofInt_natCast, BitVec.toNat_ofNat, Nat.mod_eq_of_lt (by omega)]
    simp [IntKind.wrap, IntKind.bits, IntKind.signed]; omega
  rw [this]; unfold foldN; rw [if_neg (by omega)]; omega

/-- The program's array of ten bytes, the first of them laid. -/
def arr10 (pre : List Int) : List Value := pre.map (Value.int .u8) ++ List.replicate (10 - pre.length) (.int .u8 0)
theorem arr10_nil : (arr10 []).toArray = #[.int .u8 0, .int .u8 0, .int .u8 0, .int .u8 0, .int .u8 0, .int .u8 0, .int .u8 0, .int .u8 0, .int .u8 0, .int .u8 0] := rfl
theorem arr10_set (pre : List Int) (x : Int) (h : pre.length < 10) : ((arr10 pre).toArray.setIfInBounds pre.length (.int .u8 x)) = (arr10 (pre ++ [x])).toArray := by
  rw [List.setIfInBounds_toArray]
  congr 1
  unfold arr10
  rw [List.set_append_right _ _ (by simp)]
  have e : 10 - pre.length = (10 - (pre ++ [x]).length) + 1 := by simp; omega
  rw [e, List.replicate_succ]
  simp
theorem arr10_cell {w : World} {g : Nat} {T : TypeId} {pre : List Int} (h : w.heap[g]? = some (.cells (arr10 pre).toArray T (0, 0))) (hl : pre.length < 10) :
    w.cell? ⟨g, pre.length, none⟩ = some (.int .u8 0) ∧ w.frozen? ⟨g, pre.length, none⟩ = false := by
  have e : 10 - pre.length = (9 - pre.length) + 1 := by omega
  constructor
  · simp [World.cell?, h, arr10]; rw [e, List.replicate_succ]; simp
  · simp [World.frozen?, h]
theorem arr10_at {w : World} {g : Nat} {T : TypeId} {pre : List Int} (h : w.heap[g]? = some (.cells (arr10 pre).toArray T (0, 0))) (i : Nat) (hi : i < pre.length) :
    w.cell? ⟨g, 0 + i, none⟩ = some (.int .u8 (pre.getD i 0)) := by
  simp [World.cell?, h, arr10, List.getElem?_append_left, hi]
end Go.Proofs.YtnjegmffjelnpaaGreatDoor
/-
  What 'joined' answers: the texts of its slice behind one another, in new memory; nothing that was there turns.
  Conditions: the slice's cells hold those texts; together they are at most 2^46 bytes long.
-/
namespace Go.Proofs.YtnjegmffjelnpaaGreatDoor
open Go.RowKit Go.Lib
set_option linter.unusedVariables false

theorem infoU8 : (Tryz.prog.info? 5).map (fun i => (i.zero, i.size, i.bytes)) = some (some (.int .u8 0), 1, 1) := by kernel_rfl
theorem sizeU8 : (Tryz.prog.info? 5).map (·.size) = some 1 := by kernel_rfl
theorem run_make_u8 (n : Nat) (hn : n ≤ 281474976710656) (w : World) :
    (Instr.makeSlice 22 (.int .i64 (n : Int)) (.int .i64 (n : Int))).run Tryz.prog w = .ok (.slice (some ⟨w.heap.size, 0, none⟩) n n) (w.alloc (.cells (zrow n).toArray 5)) := by
  obtain ⟨i0, hi, hz0, hz1, hz2⟩ := info_parts infoU8
  have := run_make (P := Tryz.prog) w 22 5 i0 (.int .u8 0) Tryz.underlying22 hi hz0 .i64 .i64 (n : Int) (n : Int) (by omega) (by omega) (by rw [hz2]; omega) (by omega)
  rw [this, hz1]
  simp only [Int.toNat_natCast, Nat.mul_one]
  rw [← madeZ]; rfl

set_option maxHeartbeats 1000000 in
theorem joined_any (b off n cap : Nat) (ss : List ByteArray) (w : World) (hn : ss.length = n) (hb : b < w.heap.size) (hnm : n ≤ 1048576) (hcap : n ≤ cap)
    (hc : ∀ i (h : i < ss.length), w.cell? ⟨b, off + i, none⟩ = some (.string ss[i])) (htot : sumN ss ss.length ≤ 70368744177664) :
    Calls Tryz.prog 44 #[.slice (some ⟨b, off, none⟩) n cap] w fun e w' => e = .returned (.string (cat ss)) ∧ Below w.heap.size w w' := by
  subst hn
  have HC : Hid (∀ i (h : i < ss.length), w.cell? ⟨b, off + i, none⟩ = some (.string ss[i])) := hc
  clear hc
  go_enter Tryz.func44, Tryz.ntmps44
  go_wp2
  go_loop [3, 12] (fun x i => ∃ k : Nat, k ≤ ss.length ∧ i = .int .i64 k ∧ x = .int .i64 (sumN ss k : Nat)) (fun _ i => ss.length - (Go.RowKit.intOf i).toNat)
  case atStart => exact ⟨0, Nat.zero_le _, rfl, rfl⟩
  case round =>
    obtain ⟨k, hk, rfl, rfl⟩ := hrel
    by_cases hlt : k < ss.length
    · have hck := HC.out k hlt
      have hle := sumN_le ss (k + 1)
      have HS : Hid (sumN ss (k + 1) = sumN ss k + ss[k].size) := sumN_succ ss k hlt
      have hsz : sumN ss k + ss[k].size ≤ 70368744177664 := by have := HS.out; omega
      clear hle
      generalize ss[k] = p at *
      go_wp2
      go_round
      case rel => exact ⟨k + 1, by omega, by go_num, by rw [HS.out]; go_num⟩
      case measure => simp [Go.RowKit.intOf]; omega
    · have hkk : k = ss.length := by omega
      subst hkk
      obtain ⟨tot, hT⟩ : ∃ tot, tot = sumN ss ss.length := ⟨_, rfl⟩
      have HT : Hid (tot = sumN ss ss.length) := hT
      rw [← hT] at htot ⊢
      clear hT
      have hmk := run_make_u8 tot (by omega)
      go_wp2
      go_loopw [7, 25] (fun x i wr => ∃ k : Nat, k ≤ ss.length ∧ i = .int .i64 k ∧ x = .int .i64 (sumN ss k : Nat) ∧ Hid (wr.heap[w.heap.size]? = some (.cells (rowAt ss k tot).toArray 5 (0, 0))) ∧ Below w.heap.size w wr) (fun _ i _ => ss.length - (Go.RowKit.intOf i).toNat)
      case atStart =>
        refine ⟨0, Nat.zero_le _, rfl, rfl, ?_, (Below.refl _ _).alloc (Nat.le_refl _) _⟩
        show _ = _
        rw [rowAt_zero]
        exact (MapKept.heap_alloc w _).1
      case round =>
        obtain ⟨k, hk, rfl, rfl, hrow, hnx⟩ := hrel
        have hBz : w.heap.size ≤ wr.heap.size := hnx.size
        by_cases hlt : k < ss.length
        · have hck : wr.cell? ⟨b, off + k, none⟩ = some (.string ss[k]) := (hnx.cell (p := ⟨b, off + k, none⟩) hb).trans (HC.out k hlt)
          have hle := sumN_le ss (k + 1)
          have HS : Hid (sumN ss (k + 1) = sumN ss k + ss[k].size) := sumN_succ ss k hlt
          have hsz : sumN ss k + ss[k].size ≤ tot := by have := HS.out; have := HT.out; omega
          have hlen := rowAt_len ss k tot (by omega)
          have HR : Hid (splice (rowAt ss k tot) (sumN ss k) (byteCells ss[k].data.toList) = rowAt ss (k + 1) tot) := rowAt_succ ss k tot hlt (by have := HS.out; omega)
          have HL : Hid ((rowAt ss k tot).length = tot) := hlen
          clear hle hlen
          generalize ss[k] = p at *
          generalize sumN ss k = m at *
          by_cases hm : m = tot
          · have hp0 : p.size = 0 := by omega
            have hcp := copy_str_none (P := Tryz.prog) wr 22 9 3 5 Tryz.underlying22 sizeU8 (some ⟨w.heap.size, 0, none⟩) 0 0 p hp0
            have HR' : Hid (rowAt ss (k + 1) tot = rowAt ss k tot) := by show _ = _; rw [← HR.out, splice_nil _ _ _ hp0]
            have HX : Hid (wr.heap[w.heap.size]? = some (.cells (rowAt ss (k + 1) tot).toArray 5 (0, 0))) := by show _ = _; rw [HR'.out]; exact hrow.out
            have HP : Hid (sumN ss (k + 1) = m) := by show _ = _; rw [HS.out]; omega
            clear hrow HR HR' HL HS
            subst hm
            go_wp2
            go_roundw
            case rel => exact ⟨k + 1, by omega, by go_num, by rw [HP.out], HX, hnx⟩
            case measure => simp [Go.RowKit.intOf]; omega
          · have hmlt : m < tot := by omega
            clear hm
            obtain ⟨w2, hcp, hrow2, hbel⟩ := copy_str (P := Tryz.prog) wr 22 9 3 5 Tryz.underlying22 sizeU8 w.heap.size m (tot - m) (tot - m) p (rowAt ss k tot) 5 hrow.out (by omega) (by rw [HL.out]; omega)
            have HW : Hid (w2.heap[w.heap.size]? = some (.cells (rowAt ss (k + 1) tot).toArray 5 (0, 0))) := by show _ = _; rw [← HR.out]; exact hrow2
            have hb2 := hbel w.heap.size w hnx (Nat.le_refl _)
            clear hbel hrow2 hrow HR HL
            go_wp2
            go_roundw
            case rel => exact ⟨k + 1, by omega, by go_num, by rw [HS.out]; go_num, HW, hb2⟩
            case measure => simp [Go.RowKit.intOf]; omega
        · have hkk : k = ss.length := by omega
          subst hkk
          have hrow' : wr.heap[w.heap.size]? = some (.cells (byteCells (catN ss ss.length)).toArray 5 (0, 0)) := by
            have := hrow.out; rw [HT.out, rowAt_all] at this; exact this
          have hconv := run_convert_bytes_back (P := Tryz.prog) wr 22 9 5 ⟨w.heap.size, 0, none⟩ tot (catN ss ss.length) Tryz.underlying22 Tryz.underlying5 Tryz.underlying9 (row_cell hrow')
          have hl : (catN ss ss.length).length = tot := by rw [HT.out]; rfl
          rw [hl, catN_all] at hconv
          clear hl hrow'
          go_wp2
          go_ret
          exact ⟨rfl, hnx⟩

theorem cat_two (a b : ByteArray) : cat [a, b] = a ++ b := by
  apply ByteArray.ext; simp [cat]
theorem cat_one (a : ByteArray) : cat [a] = a := by
  apply ByteArray.ext; simp [cat]
theorem new_texts (w : World) (ss : List ByteArray) (t : TypeId) (i : Nat) (h : i < ss.length) :
    (w.alloc (.cells (ss.map Value.string).toArray t)).cell? ⟨w.heap.size, 0 + i, none⟩ = some (.string ss[i]) := by
  rw [World.cell?_alloc_mark]; simp [h]

theorem joined_new (ss : List ByteArray) (w : World) (hn : ss.length ≤ 1048576) (htot : (cat ss).size ≤ 70368744177664) :
    Calls Tryz.prog 44 #[.slice (some ⟨w.heap.size, 0, none⟩) ss.length ss.length] (w.alloc (.cells (ss.map Value.string).toArray 9))
      fun e w' => e = .returned (.string (cat ss)) ∧ Below w.heap.size w w' := by
  refine (joined_any w.heap.size 0 ss.length ss.length ss _ rfl (by simp) hn (Nat.le_refl _) (new_texts w ss _) (by rw [cat_size] at htot; exact htot)).mono ?_
  rintro e w' ⟨he, hb⟩
  exact ⟨he, ((Below.refl _ _).alloc (Nat.le_refl _) _).trans (hb.mono (by simp))⟩

theorem joined_two (a b : ByteArray) (w : World) (h : a.size + b.size ≤ 70368744177664) :
    Calls Tryz.prog 44 #[.slice (some ⟨w.heap.size, 0, none⟩) 2 2] (w.alloc (.cells #[.string a, .string b] 9))
      fun e w' => e = .returned (.string (a ++ b)) ∧ Below w.heap.size w w' := by
  have := joined_new [a, b] w (by simp) (by rw [cat_two]; simpa using h)
  rw [cat_two] at this
  exact this

theorem joined_one (a : ByteArray) (w : World) (h : a.size ≤ 70368744177664) :
    Calls Tryz.prog 44 #[.slice (some ⟨w.heap.size, 0, none⟩) 1 1] (w.alloc (.cells #[.string a] 9))
      fun e w' => e = .returned (.string a) ∧ Below w.heap.size w w' := by
  have := joined_new [a] w (by simp) (by rw [cat_one]; exact h)
  rw [cat_one] at this
  exact this
end Go.Proofs.YtnjegmffjelnpaaGreatDoor
/-
  The program's digestOf: the digest of a text, 'digB', in new memory.
  Conditions: the text is at most 2^40 bytes long; the two tables lie as the program's text lays them.
-/
namespace Go.Proofs.YtnjegmffjelnpaaGreatDoor
open Go.RowKit Go.Lib
set_option linter.unusedVariables false
set_option maxRecDepth 20000

theorem padN_in (t : ByteArray) : ∀ x ∈ padN t, 0 ≤ x ∧ x ≤ 255 := by
  intro x hx
  simp only [padN, bytesN, be8To, bePart, List.mem_append, List.mem_map, List.mem_replicate, List.mem_cons, List.not_mem_nil, or_false] at hx
  rcases hx with ((⟨b, _, rfl⟩ | rfl) | ⟨_, rfl⟩) | ⟨i, _, rfl⟩
  · have := b.toNat_lt; omega
  · omega
  · omega
  · omega
theorem byteAt_nums (xs : List Int) (i : Nat) (hi : i < xs.length) (h : 0 ≤ xs[i] ∧ xs[i] ≤ 255) : byteAt (strOfNums xs) i = xs[i] := by
  unfold byteAt
  rw [strOfNums_data, List.getD_eq_getElem?_getD, List.getElem?_map, List.getElem?_eq_getElem hi]
  simp
  omega
theorem load_cells (w : World) (g : Nat) (l : List Int) (hl : l.length = 8) (h : ∀ i, i < 8 → w.cell? ⟨g, i, none⟩ = some (.int .u32 (l.getD i 0))) :
    (loadVar 129 ⟨g, 0, none⟩).run Tryz.prog w = .ok (.agg (u8Row l)) w := by
  have hc := run_loadCells_list (P := Tryz.prog) w ⟨g, 0, none⟩ (l.map (Value.int .u32)) (fun j v hv => by
    have hj : j < l.length := by
      rcases Nat.lt_or_ge j l.length with hh | hh
      · exact hh
      · rw [List.getElem?_eq_none (by simpa using hh)] at hv; cases hv
    have hadd : (⟨g, 0, none⟩ : Addr).add j = ⟨g, j, none⟩ := by unfold Addr.add; split <;> simp_all
    rw [hadd, h j (by omega)]
    simp [List.getElem?_eq_getElem hj] at hv
    simp [List.getD_eq_getElem?_getD, List.getElem?_eq_getElem hj, hv])
  rw [List.length_map, hl] at hc
  cases hq : Tryz.prog.info? 129 with
  | none => have := info8; simp [hq] at this
  | some i =>
    have hs : i.size = 8 := by have := info8; simpa [hq] using this
    simp [loadVar, sizeOf, typeInfo, isAgg, hq, run_underlying under8, hs, hc, u8Row]
theorem store8 (w3 : World) (row : Array Value) (h : row.size = 8) (h1 : row.all (·.oneCell') = true) :
    (storeVar 129 ⟨w3.heap.size, 0, none⟩ (.agg row)).run Tryz.prog (w3.alloc (.cells #[.int .u32 0, .int .u32 0, .int .u32 0, .int .u32 0, .int .u32 0, .int .u32 0, .int .u32 0, .int .u32 0] 129)) = .ok () (w3.alloc (.cells row 129)) :=
  run_storeVar_new (P := Tryz.prog) w3 129 _ row (by rw [h]; exact info8) (by rw [h]; rfl) h1

theorem wpStill_load_row {P : Program} {w : World} {ops : Array Oper} {rest : List Oper} {o : Oper} {a : Act} {Q : Act → Prop} (hgd : o.guard = none) (t : TypeId) (x : Operand)
    (ho : o.op = .load t x) (g : Addr) (v : Value) (hx : a.eval x = .pointer (some g)) (hl : (loadVar t g).run P w = .ok v w)
    (h : wpStill P ops w Q rest (a.put o.dst v)) : wpStill P ops w Q (o :: rest) a :=
  wpStill_step fun K hK => by
    have hw : Region.wanted o (yielded ops a.tmps) = true := by simp [Region.wanted, hgd]
    rw [if_pos hw]
    unfold Oper.still execOp
    simp only [ho, hx, Instr.loadAt, Instr.sureAddr, Sem.run_bind, Sem.run_pure, Result.andThen_ok, hl]
    rw [Oper.stillUpon_value]
    exact hK _ h
theorem idxR (l : List Int) (hl : l.length = 8) (k : Nat) (hk : k < 8) (w : World) : (Instr.index 129 (.agg (u8Row l)) (.int .i64 (k : Int))).run Tryz.prog w = .ok (.int .u32 (l.getD k 0)) w := by
  match l, hl with
  | [a, b, c, d, e, f, g, h], _ => exact idx8 ⟨a, b, c, d, e, f, g, h⟩ k hk w
theorem run_make_32 (w : World) : (Instr.makeSlice 22 (.int .i64 0) (.int .i64 32)).run Tryz.prog w = .ok (.slice (some ⟨w.heap.size, 0, none⟩) 0 32) (w.alloc (.cells (zrow 32).toArray 5)) := by
  obtain ⟨i0, hi, hz0, hz1, hz2⟩ := info_parts infoU8q
  have := run_make (P := Tryz.prog) w 22 5 i0 (.int .u8 0) Tryz.underlying22 hi hz0 .i64 .i64 0 32 (by omega) (by omega) (by rw [hz2]; omega) (by omega)
  rw [this, hz1]
  rw [show (Value.int .u8 0).cells = #[.int .u8 0] from rfl, show Int.toNat 32 * 1 = 32 from rfl, madeZ]; rfl
theorem four4_eqI {y : Int} (h0 : 0 ≤ y) (h1 : y ≤ 4294967295) : four4 y = [y / 16777216, y / 65536 % 256, y / 256 % 256, y % 256] := by unfold four4; rw [show y / 16777216 % 256 = y / 16777216 by omega]

theorem stS (w3 : World) (g : Nat) (l l' : List Int) (h : w3.heap[g]? = some (.cells (u8Row l) 129 (0, 0))) (hl : l.length = 8) (hl' : l'.length = 8) :
    Hid ((storeVar 129 ⟨g, 0, none⟩ (.agg (u8Row l'))).run Tryz.prog w3 = .ok () (w3.setRow g (u8Row l'))) :=
  run_storeVar_row (P := Tryz.prog) w3 g 129 129 _ (u8Row l') h (by rw [u8Row_size, hl']; exact info8) (by rw [u8Row_size, u8Row_size, hl, hl']) (u8Row_one _)
set_option maxHeartbeats 1000000 in
set_option maxRecDepth 20000 in
theorem digI_any (t : ByteArray) (w : World) (ht : t.size ≤ 1099511627776) (htab : Tabs w) :
    Calls Tryz.prog 61 #[.string t] w fun e w' => e = .returned (.string (digB t)) ∧ Below w.heap.size w w' := by
  have HT : Hid (Tabs w) := htab
  clear htab
  have X0 : Hid ((loadVar 129 ⟨0, 0, none⟩).run Tryz.prog w = .ok (.agg (u8Row startN)) w) := load_cells w _ startN rfl HT.out.2.2
  have X1 := store8 w (u8Row startN) rfl (u8Row_one _)
  obtain ⟨W1, hW1⟩ : ∃ W1, W1 = w.alloc (.cells (u8Row startN) 129) := ⟨_, rfl⟩
  rw [← hW1] at X1
  have X2 : Hid _ := X1
  clear X1
  have R1 : Hid (W1.heap[w.heap.size]? = some (.cells (u8Row startN) 129 (0, 0))) := by show _ = _; rw [hW1]; exact heap_alloc_new w _
  have B1 : Hid (Below w.heap.size w W1) := by show Below _ _ _; rw [hW1]; exact (Below.refl _ _).alloc (Nat.le_refl _) _
  have S1 : Hid (W1.heap.size = w.heap.size + 1) := by show _ = _; rw [hW1, size_allocN]
  clear hW1
  go_enter Tryz.func61, Tryz.ntmps61
  go_wp2_with (first
    | (go_at_call 104; refine (padI_any t _ ht).mono ?_; rintro e w2 ⟨gb, rfl, ho2, hb2⟩)
    | refine wpList_load_row rfl 129 _ rfl ⟨0, 0, none⟩ _ rfl X0.out ?_
    | refine wpList_store_row rfl 129 _ _ rfl rfl ⟨w.heap.size, 0, none⟩ _ W1 rfl rfl X2.out ?_)
  have Z2 : Hid (Below w.heap.size w w2) := B1.out.trans (hb2.mono B1.out.size)
  have R2 : Hid (w2.heap[w.heap.size]? = some (.cells (u8Row (stN (padN t) 0)) 129 (0, 0))) := (hb2.block _ (by have := S1.out; omega)).trans R1.out
  have O2 : Hid (OwnB w2 W1.heap.size gb (64 * nB t) (padN t)) := ho2
  have hnb : nB t ≤ 17179869200 := by unfold nB zN; omega
  clear hb2 ho2 X0 X2 R1 B1
  go_loopw [5] (fun x wr => ∃ k : Nat, k ≤ nB t ∧ x = .int .i64 (64 * (k : Int)) ∧ Hid (wr.heap[w.heap.size]? = some (.cells (u8Row (stN (padN t) k)) 129 (0, 0))) ∧ Hid (OwnB wr W1.heap.size gb (64 * nB t) (padN t)) ∧ Hid (Below w.heap.size w wr)) (fun x _ => nB t * 64 - (Go.RowKit.intOf x).toNat)
  case atStart => exact ⟨0, by omega, rfl, R2, O2, Z2⟩
  case round =>
    clear R2 O2 Z2
    obtain ⟨k, hk, rfl, hrow, hown, hnx⟩ := hrel
    have hGlt : w.heap.size < wr.heap.size := lt_of_block hrow.out
    by_cases hlt : k < nB t
    · have hl64 : ((padN t).drop (64 * k) |>.take 64).length = 64 := by simp [padN_len]; omega
      have hcb : ∀ i, i < 64 → wr.drew.cell? ⟨gb, 64 * k + i, none⟩ = some (.int .u8 (byteAt (strOfNums ((padN t).drop (64 * k) |>.take 64)) i)) := by
        intro i hi
        have e1 : (((padN t).drop (64 * k)).take 64)[i]'(by omega) = (padN t)[64 * k + i]'(by rw [padN_len]; omega) := by simp
        rw [byteAt_nums _ i (by omega) (by rw [e1]; exact padN_in t _ (List.getElem_mem _)), e1]
        exact hown.out.cells (64 * k + i) (by rw [padN_len]; omega)
      have h8 : (u8Row (stN (padN t) k)).size = 8 := by rw [u8Row_size, stN_len]
      have hld := run_loadVar_row (P := Tryz.prog) wr.drew w.heap.size 129 129 _ (0, 0) _ hrow.out under8 rfl (by rw [h8]; exact info8)
      have hcall := blockI_any wr.drew (stN (padN t) k) gb (64 * k) (64 * nB t - 64 * k) _ (by omega) hown.out.hi (HT.out.below hnx.out.drew HT.out.1) (stN_len _ _) (stN_in _ _) hcb
      have HE : Hid (blockN (stN (padN t) k) (strOfNums ((padN t).drop (64 * k) |>.take 64)) = stN (padN t) (k + 1)) := rfl
      rw [HE.out] at hcall
      have XL : Hid ((loadVar 129 ⟨w.heap.size, 0, none⟩).run Tryz.prog wr.drew = .ok (.agg (u8Row (stN (padN t) k))) wr.drew) := hld
      clear hld hcb hl64 h8 HE
      have q0 : IntKind.i64.wrap ((64 : Int) * k + 64) = (64 : Int) * k + 64 := by rw [IntKind.wrap_i64]; omega
      have q1 : (64 : Int) * k + 64 ≤ 64 * nB t := by omega
      have q2 : ((64 : Int) * k).toNat = 64 * k := by omega
      have q3 : ((64 : Int) * k + 64).toNat = 64 * k + 64 := by omega
      have q4 : ¬ nB t = k := by omega
      have q5 : (64 : Int) * k < 64 * nB t := by omega
      have q6 : ¬ 64 * nB t = 64 * k := by omega
      have q7 : (0 : Int) ≤ 64 * k + 64 := by omega
      have q8 : (0 : Int) ≤ 64 * k := by omega
      have q9 : (64 : Int) * k ≤ 64 * k + 64 := by omega
      go_wp2
      refine wp_region_still_tail 6 (by kernel_rfl) (by kernel_rfl) ?_
      simp only [List.take_succ_cons, List.take_zero, List.drop_succ_cons, List.drop_zero]
      refine wpStill_load_row rfl 129 _ rfl ⟨w.heap.size, 0, none⟩ _ rfl XL.out ?_
      repeat still_step
      refine wpStill_nil ?_
      go_wp2_with (first
        | (go_at_call 105; refine hcall.mono ?_; rintro e w3 ⟨rfl, hb3⟩; have X3 := stS w3 w.heap.size _ (stN (padN t) (k + 1)) ((hb3.block _ hGlt).trans hrow.out) (stN_len _ _) (stN_len _ _))
        | refine wpList_store_row rfl 129 _ _ rfl rfl ⟨w.heap.size, 0, none⟩ _ _ rfl rfl X3.out ?_)
      have hr3 : w3.heap[w.heap.size]? = some (.cells (u8Row (stN (padN t) k)) 129 (0, 0)) := (hb3.block _ hGlt).trans hrow.out
      have hR : Hid ((w3.setRow w.heap.size (u8Row (stN (padN t) (k + 1)))).heap[w.heap.size]? = some (.cells (u8Row (stN (padN t) (k + 1))) 129 (0, 0))) := setRow_heap w3 w.heap.size _ _ 129 _ hr3
      have hO : Hid (OwnB (w3.setRow w.heap.size (u8Row (stN (padN t) (k + 1)))) W1.heap.size gb (64 * nB t) (padN t)) :=
        (hown.out.drew.below hb3).carry (Nat.le_of_eq (by simp)) (setRow_other w3 w.heap.size gb _ (by have := hown.out.lo; have := S1.out; omega))
      have hN : Hid (Below w.heap.size w (w3.setRow w.heap.size (u8Row (stN (padN t) (k + 1))))) := below_setRow (hnx.out.drew.trans (hb3.mono (Nat.le_of_lt hGlt))) (Nat.le_refl _) _
      go_roundw
      case rel => exact ⟨k + 1, by omega, by go_num, hR, hO, hN⟩
      case measure => simp [Go.RowKit.intOf]; omega
    · have hkk : k = nB t := by omega
      subst hkk
      have HD : Hid (digB t = strOfNums (outN (stN (padN t) (nB t)) 8)) := rfl
      have hin := stN_in (padN t) (nB t)
      have hl8 := stN_len (padN t) (nB t)
      generalize stN (padN t) (nB t) = st at *
      have h8 : (u8Row st).size = 8 := by rw [u8Row_size, hl8]
      have HI : Hid (∀ i, i < 8 → 0 ≤ st.getD i 0 ∧ st.getD i 0 ≤ 4294967295) := hin
      have HL8 : Hid (st.length = 8) := hl8
      clear hin hl8 hown hk hlt
      rename World => W3
      have XL : Hid ((loadVar 129 ⟨w.heap.size, 0, none⟩).run Tryz.prog (W3.alloc (.cells (zrow 32).toArray 5)) = .ok (.agg (u8Row st)) (W3.alloc (.cells (zrow 32).toArray 5))) :=
        run_loadVar_row (P := Tryz.prog) (W3.alloc (.cells (zrow 32).toArray 5)) w.heap.size 129 129 _ (0, 0) _ ((Below.heap_alloc _ _ _ hGlt).trans hrow.out) under8 rfl (by rw [h8]; exact info8)
      clear h8
      obtain ⟨i0, hi, hz0, hz1, hz2⟩ := info_parts infoU8q
      have hmk := run_make_32
      go_wp2_with (refine wpList_load_row rfl 129 _ rfl ⟨w.heap.size, 0, none⟩ _ rfl XL.out ?_)
      clear XL
      go_loopw [27, 6] (fun x v wr => ∃ (k g cap : Nat), k ≤ 8 ∧ x = .int .i64 k ∧ v = .slice (some ⟨g, 0, none⟩) (4 * k) cap ∧ wr.ownsRow W3.heap.size 5 1 (.slice (some ⟨g, 0, none⟩) (4 * k) cap) (4 * k) ((outN st k).map (Value.int .u8)) ∧ Below W3.heap.size W3 wr) (fun x _ _ => 8 - (Go.RowKit.intOf x).toNat)
      case atStart => exact ⟨0, W3.heap.size, 32, by omega, rfl, rfl, World.ownsRow_made W3 (zrow 32).toArray 32 (Nat.le_refl _) (by unfold maxLen; omega) rfl, (Below.refl _ _).alloc (Nat.le_refl _) _⟩
      case round =>
        obtain ⟨k, g, cap, hk, rfl, rfl, hown, hnx4⟩ := hrel
        have hsz := hnx4.size
        by_cases hlt : k < 8
        · have hidx := idxR st HL8.out k hlt
          obtain ⟨y0, y1⟩ := HI.out k hlt
          have HT2 : Hid (outN st (k + 1) = outN st k ++ four4 (st.getD k 0)) := rfl
          generalize st.getD k 0 = y at *
          have j5 : (k : Int) < 8 := by omega
          go_wp2_with (at_builtin; refine wpList_append_lies _ rfl _ _ 22 rfl W3.heap.size 5 i0 (.int .u8 0) 1 1 Tryz.underlying22 hi hz0 hz1 hz2 rfl (by omega) _ (4 * k) _ rfl (hown.alloc _) ⟨wr.heap.size, 0, none⟩ 4 4 [.int .u8 (y / 16777216), .int .u8 (y / 65536 % 256), .int .u8 (y / 256 % 256), .int .u8 (y % 256)] rfl rfl (World.news_of_block (cs := #[.int .u8 (y / 16777216), .int .u8 (y / 65536 % 256), .int .u8 (y / 256 % 256), .int .u8 (y % 256)]) (t := 5) (fr := (0, 0)) (heap_alloc_new wr _)) (by simp [Value.oneCell']) (by omega) (by unfold maxLen; omega) (by omega) (by simp; omega) (wr.heap.size + 1) (by simp) ?_; intro g2 cap2 w2 hown2 hgrow hat hltg)
          have hb2 : Below W3.heap.size W3 w2 := (hnx4.alloc hsz _).grown hgrow (by rw [size_allocN]; omega) (fun j hj => (hown.lt j hj).1)
          have ho2 : w2.ownsRow W3.heap.size 5 1 (.slice (some ⟨g2, 0, none⟩) (4 * (k + 1)) cap2) (4 * (k + 1)) ((outN st (k + 1)).map (Value.int .u8)) := by rw [HT2.out, four4_eqI y0 y1, List.map_append]; exact hown2
          go_roundw
          case rel => exact ⟨k + 1, g2, cap2, by omega, by go_num, rfl, ho2, hb2⟩
          case measure => simp [Go.RowKit.intOf]; omega
        · have hk8 : k = 8 := by omega
          subst hk8
          have hconv := conv_b (ownB_of_row hown (outN_len st 8)) 0 32 cap (by rw [outN_len]; omega)
          rw [List.drop_zero, List.take_of_length_le (by rw [outN_len]; omega)] at hconv
          rw [← HD.out] at hconv
          go_wp2
          go_ret
          exact ⟨rfl, hnx.out.trans (hnx4.mono hnx.out.size)⟩
end Go.Proofs.YtnjegmffjelnpaaGreatDoor
/-
  The specification's small parts of SHA-256: a number of 32 bits turned right ('turnR x k'), the keys of the rounds and the first state, each in new memory.
  Conditions: the number is from 0 to 2^32 - 1, k from 0 to 32.
-/
namespace Go.Proofs.YtnjegmffjelnpaaGreatDoor
open Go.RowKit Go.Lib
set_option linter.unusedVariables false

set_option maxHeartbeats 400000 in
theorem specTurn_any (x : Int) (k : Nat) (w : World) (h0 : 0 ≤ x) (h1 : x ≤ 4294967295) (hk : k ≤ 32) :
    Calls Tryz.prog 130 #[.int .u32 x, .int .u64 k] w fun e w' => e = .returned (.int .u32 (turnR x k)) ∧ w' = w := by
  go_enter Tryz.func130, Tryz.ntmps130
  go_wp2
  go_ret
  exact ⟨rfl, rfl⟩

theorem specTurn_c (x c : Int) (w : World) (h0 : 0 ≤ x) (h1 : x ≤ 4294967295) (c0 : 0 ≤ c) (c1 : c ≤ 32) :
    Calls Tryz.prog 130 #[.int .u32 x, .int .u64 c] w fun e w' => e = .returned (.int .u32 (turnR x c.toNat)) ∧ w' = w := by
  obtain ⟨k, rfl⟩ : ∃ k : Nat, c = k := ⟨c.toNat, by omega⟩
  exact specTurn_any x k w h0 h1 (by omega)

set_option maxHeartbeats 1000000 in
set_option maxRecDepth 20000 in
theorem specStart_any (w : World) :
    Calls Tryz.prog 110 #[] w fun e w' => e = .returned (.slice (some ⟨w.heap.size, 0, none⟩) 8 8) ∧ w' = w.alloc (.cells (startN.map (Value.int .i64)).toArray 2) := by
  go_enter Tryz.func110, Tryz.ntmps110
  go_wp2
  go_ret
  exact ⟨rfl, rfl⟩

set_option maxHeartbeats 4000000 in
set_option maxRecDepth 20000 in
theorem specKeys_any (w : World) :
    Calls Tryz.prog 131 #[] w fun e w' => e = .returned (.slice (some ⟨w.heap.size, 0, none⟩) 64 64) ∧ w' = w.alloc (.cells (keysN.map (Value.int .u32)).toArray 128) := by
  go_enter Tryz.func131, Tryz.ntmps131
  go_wp2
  go_ret
  exact ⟨rfl, rfl⟩
end Go.Proofs.YtnjegmffjelnpaaGreatDoor
