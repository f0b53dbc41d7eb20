/-
  Parts of one proof, laid as one text: Four, Joined, Seal, OwnB; what each says stands at its head.
-/
import Derived.Test.YtkhffoailfnepakGreatDoorRows
import Derived.Test.YtkhffoailfnepakGreatDoorBytesDigMath
import Derived.Test.YtkhffoailfnepakGreatDoorPutMathCrc
import Derived.Handy
import Derived.Laws.BytesArg
import Derived.WalkSmall
import Derived.ArgAppend
import Derived.Lib.LazyBuf
import Derived.Laws.OwnMore
import Derived.Deep.AppendLies
/-
  The four bytes of a number below 2^32, as the specification's l01Four and the program's sumOf make them: 'four n', in new memory; nothing that was there turns.
  Conditions: the number is from 0 to 2^32 - 1; the string fits the form's own reach.
-/
namespace Go.Proofs.YtkhffoailfnepakGreatDoor
open Go.RowKit Go.Lib
set_option linter.unusedVariables false

def fourN (n : Int) : List Int := [n % 256, n / 256 % 256, n / 65536 % 256, n / 16777216]
def fourV (n : Int) : Array Value := #[.int .u8 (n % 256), .int .u8 (n / 256 % 256), .int .u8 (n / 65536 % 256), .int .u8 (n / 16777216)]
def four (n : Int) : ByteArray := strOfNums (fourN n)
theorem four_size (n : Int) : (four n).size = 4 := strOfNums_size _

theorem four_cells (w : World) (n : Int) (t : TypeId) : ∀ i, i < 4 → (w.alloc (.cells (fourV n) t)).cell? ⟨w.heap.size, 0 + i, none⟩ = some (.int .u8 ((fourN n).getD i 0)) := by
  intro i hi
  rw [World.cell?_alloc_mark]
  match i, hi with
  | 0, _ => rfl
  | 1, _ => rfl
  | 2, _ => rfl
  | 3, _ => rfl

theorem four_conv (w : World) (n : Int) (t : TypeId) :
    (convert 72 9 (.slice (some ⟨w.heap.size, 0, none⟩) 4 4)).run Tryz.prog (w.alloc (.cells (fourV n) t)) = .ok (.string (four n)) (w.alloc (.cells (fourV n) t)) :=
  run_convert_bytes_arg (P := Tryz.prog) (w.alloc (.cells (fourV n) t)) 72 5 Tryz.underlying72 Tryz.underlying5 w.heap.size 0 4 4 (fourN n) rfl (four_cells w n t) 9 Tryz.underlying9

set_option maxHeartbeats 1000000 in
theorem specFour_any (n : Int) (w : World) (h0 : 0 ≤ n) (h1 : n ≤ 4294967295) :
    Calls Tryz.prog 59 #[.int .i64 n] w fun e w' => e = .returned (.string (four n)) ∧ Below w.heap.size w w' := by
  have hconv := four_conv w n 5
  unfold fourV at hconv
  go_enter Tryz.func59, Tryz.ntmps59
  go_wp2
  go_ret
  exact ⟨rfl, (Below.refl _ _).alloc (Nat.le_refl _) _⟩

set_option maxHeartbeats 1000000 in
theorem sumOf_any (s : ByteArray) (w : World) (hs : s.size ≤ maxLen)  :
    Calls Tryz.prog 86 #[.string s] w fun e w' => e = .returned (.string (four (crcB 0 s))) ∧ Below w.heap.size w w' := by
  have hb := crcB_bd 0 s
  go_enter Tryz.func86, Tryz.ntmps86
  go_wp2_with (go_at_call 91; refine (implCrc_any _ _ hs).mono ?_; rintro e w1 ⟨rfl, hw⟩)
  subst hw
  generalize hN : crcB 0 s = n at *
  have HN : Hid (crcB 0 s = n) := hN
  clear hN
  obtain ⟨n0, n1⟩ := hb
  have hconv := four_conv w1 n 155
  unfold fourV at hconv
  go_rounds 5
  go_ret
  exact ⟨ret_str (by rw [HN.out]), (Below.refl _ _).alloc (Nat.le_refl _) _⟩
end Go.Proofs.YtkhffoailfnepakGreatDoor
/-
  What 'joined' answers: the texts of its slice behind one another, in new memory; nothing that was there turns.
  Conditions: the slice's cells hold those texts; together they are at most 2^46 bytes long.
-/
namespace Go.Proofs.YtkhffoailfnepakGreatDoor
open Go.RowKit Go.Lib
set_option linter.unusedVariables false

theorem infoU8 : (Tryz.prog.info? 5).map (fun i => (i.zero, i.size, i.bytes)) = some (some (.int .u8 0), 1, 1) := by kernel_rfl
theorem sizeU8 : (Tryz.prog.info? 5).map (·.size) = some 1 := by kernel_rfl
theorem run_make_u8 (n : Nat) (hn : n ≤ 281474976710656) (w : World) :
    (Instr.makeSlice 72 (.int .i64 (n : Int)) (.int .i64 (n : Int))).run Tryz.prog w = .ok (.slice (some ⟨w.heap.size, 0, none⟩) n n) (w.alloc (.cells (zrow n).toArray 5)) := by
  obtain ⟨i0, hi, hz0, hz1, hz2⟩ := info_parts infoU8
  have := run_make (P := Tryz.prog) w 72 5 i0 (.int .u8 0) Tryz.underlying72 hi hz0 .i64 .i64 (n : Int) (n : Int) (by omega) (by omega) (by rw [hz2]; omega) (by omega)
  rw [this, hz1]
  simp only [Int.toNat_natCast, Nat.mul_one]
  rw [← madeZ]; rfl

set_option maxHeartbeats 1000000 in
theorem joined_any (b off n cap : Nat) (ss : List ByteArray) (w : World) (hn : ss.length = n) (hb : b < w.heap.size) (hnm : n ≤ 1048576) (hcap : n ≤ cap)
    (hc : ∀ i (h : i < ss.length), w.cell? ⟨b, off + i, none⟩ = some (.string ss[i])) (htot : sumN ss ss.length ≤ 70368744177664) :
    Calls Tryz.prog 72 #[.slice (some ⟨b, off, none⟩) n cap] w fun e w' => e = .returned (.string (cat ss)) ∧ Below w.heap.size w w' := by
  subst hn
  have HC : Hid (∀ i (h : i < ss.length), w.cell? ⟨b, off + i, none⟩ = some (.string ss[i])) := hc
  clear hc
  go_enter Tryz.func72, Tryz.ntmps72
  go_wp2
  go_loop [3, 12] (fun x i => ∃ k : Nat, k ≤ ss.length ∧ i = .int .i64 k ∧ x = .int .i64 (sumN ss k : Nat)) (fun _ i => ss.length - (intOf i).toNat)
  case atStart => exact ⟨0, Nat.zero_le _, rfl, rfl⟩
  case round =>
    obtain ⟨k, hk, rfl, rfl⟩ := hrel
    by_cases hlt : k < ss.length
    · have hck := HC.out k hlt
      have hle := sumN_le ss (k + 1)
      have HS : Hid (sumN ss (k + 1) = sumN ss k + ss[k].size) := sumN_succ ss k hlt
      have hsz : sumN ss k + ss[k].size ≤ 70368744177664 := by have := HS.out; omega
      clear hle
      generalize ss[k] = p at *
      go_wp2
      go_round
      case rel => exact ⟨k + 1, by omega, by go_num, by rw [HS.out]; go_num⟩
      case measure => simp [intOf]; omega
    · have hkk : k = ss.length := by omega
      subst hkk
      obtain ⟨tot, hT⟩ : ∃ tot, tot = sumN ss ss.length := ⟨_, rfl⟩
      have HT : Hid (tot = sumN ss ss.length) := hT
      rw [← hT] at htot ⊢
      clear hT
      have hmk := run_make_u8 tot (by omega)
      go_wp2
      go_loopw [7, 25] (fun x i wr => ∃ k : Nat, k ≤ ss.length ∧ i = .int .i64 k ∧ x = .int .i64 (sumN ss k : Nat) ∧ Hid (wr.heap[w.heap.size]? = some (.cells (rowAt ss k tot).toArray 5 (0, 0))) ∧ Below w.heap.size w wr) (fun _ i _ => ss.length - (intOf i).toNat)
      case atStart =>
        refine ⟨0, Nat.zero_le _, rfl, rfl, ?_, (Below.refl _ _).alloc (Nat.le_refl _) _⟩
        show _ = _
        rw [rowAt_zero]
        exact (MapKept.heap_alloc w _).1
      case round =>
        obtain ⟨k, hk, rfl, rfl, hrow, hnx⟩ := hrel
        have hBz : w.heap.size ≤ wr.heap.size := hnx.size
        by_cases hlt : k < ss.length
        · have hck : wr.cell? ⟨b, off + k, none⟩ = some (.string ss[k]) := (hnx.cell (p := ⟨b, off + k, none⟩) hb).trans (HC.out k hlt)
          have hle := sumN_le ss (k + 1)
          have HS : Hid (sumN ss (k + 1) = sumN ss k + ss[k].size) := sumN_succ ss k hlt
          have hsz : sumN ss k + ss[k].size ≤ tot := by have := HS.out; have := HT.out; omega
          have hlen := rowAt_len ss k tot (by omega)
          have HR : Hid (splice (rowAt ss k tot) (sumN ss k) (byteCells ss[k].data.toList) = rowAt ss (k + 1) tot) := rowAt_succ ss k tot hlt (by have := HS.out; omega)
          have HL : Hid ((rowAt ss k tot).length = tot) := hlen
          clear hle hlen
          generalize ss[k] = p at *
          generalize sumN ss k = m at *
          by_cases hm : m = tot
          · have hp0 : p.size = 0 := by omega
            have hcp := copy_str_none (P := Tryz.prog) wr 72 9 3 5 Tryz.underlying72 sizeU8 (some ⟨w.heap.size, 0, none⟩) 0 0 p hp0
            have HR' : Hid (rowAt ss (k + 1) tot = rowAt ss k tot) := by show _ = _; rw [← HR.out, splice_nil _ _ _ hp0]
            have HX : Hid (wr.heap[w.heap.size]? = some (.cells (rowAt ss (k + 1) tot).toArray 5 (0, 0))) := by show _ = _; rw [HR'.out]; exact hrow.out
            have HP : Hid (sumN ss (k + 1) = m) := by show _ = _; rw [HS.out]; omega
            clear hrow HR HR' HL HS
            subst hm
            go_wp2
            go_roundw
            case rel => exact ⟨k + 1, by omega, by go_num, by rw [HP.out], HX, hnx⟩
            case measure => simp [intOf]; omega
          · have hmlt : m < tot := by omega
            clear hm
            obtain ⟨w2, hcp, hrow2, hbel⟩ := copy_str (P := Tryz.prog) wr 72 9 3 5 Tryz.underlying72 sizeU8 w.heap.size m (tot - m) (tot - m) p (rowAt ss k tot) 5 hrow.out (by omega) (by rw [HL.out]; omega)
            have HW : Hid (w2.heap[w.heap.size]? = some (.cells (rowAt ss (k + 1) tot).toArray 5 (0, 0))) := by show _ = _; rw [← HR.out]; exact hrow2
            have hb2 := hbel w.heap.size w hnx (Nat.le_refl _)
            clear hbel hrow2 hrow HR HL
            go_wp2
            go_roundw
            case rel => exact ⟨k + 1, by omega, by go_num, by rw [HS.out]; go_num, HW, hb2⟩
            case measure => simp [intOf]; omega
        · have hkk : k = ss.length := by omega
          subst hkk
          have hrow' : wr.heap[w.heap.size]? = some (.cells (byteCells (catN ss ss.length)).toArray 5 (0, 0)) := by
            have := hrow.out; rw [HT.out, rowAt_all] at this; exact this
          have hconv := run_convert_bytes_back (P := Tryz.prog) wr 72 9 5 ⟨w.heap.size, 0, none⟩ tot (catN ss ss.length) Tryz.underlying72 Tryz.underlying5 Tryz.underlying9 (row_cell hrow')
          have hl : (catN ss ss.length).length = tot := by rw [HT.out]; rfl
          rw [hl, catN_all] at hconv
          clear hl hrow'
          go_wp2
          go_ret
          exact ⟨rfl, hnx⟩

theorem cat_two (a b : ByteArray) : cat [a, b] = a ++ b := by
  apply ByteArray.ext; simp [cat]
theorem cat_one (a : ByteArray) : cat [a] = a := by
  apply ByteArray.ext; simp [cat]
theorem new_texts (w : World) (ss : List ByteArray) (t : TypeId) (i : Nat) (h : i < ss.length) :
    (w.alloc (.cells (ss.map Value.string).toArray t)).cell? ⟨w.heap.size, 0 + i, none⟩ = some (.string ss[i]) := by
  rw [World.cell?_alloc_mark]; simp [h]

theorem joined_new (ss : List ByteArray) (w : World) (hn : ss.length ≤ 1048576) (htot : (cat ss).size ≤ 70368744177664) :
    Calls Tryz.prog 72 #[.slice (some ⟨w.heap.size, 0, none⟩) ss.length ss.length] (w.alloc (.cells (ss.map Value.string).toArray 9))
      fun e w' => e = .returned (.string (cat ss)) ∧ Below w.heap.size w w' := by
  refine (joined_any w.heap.size 0 ss.length ss.length ss _ rfl (by simp) hn (Nat.le_refl _) (new_texts w ss _) (by rw [cat_size] at htot; exact htot)).mono ?_
  rintro e w' ⟨he, hb⟩
  exact ⟨he, ((Below.refl _ _).alloc (Nat.le_refl _) _).trans (hb.mono (by simp))⟩

theorem joined_two (a b : ByteArray) (w : World) (h : a.size + b.size ≤ 70368744177664) :
    Calls Tryz.prog 72 #[.slice (some ⟨w.heap.size, 0, none⟩) 2 2] (w.alloc (.cells #[.string a, .string b] 9))
      fun e w' => e = .returned (.string (a ++ b)) ∧ Below w.heap.size w w' := by
  have := joined_new [a, b] w (by simp) (by rw [cat_two]; simpa using h)
  rw [cat_two] at this
  exact this

theorem joined_one (a : ByteArray) (w : World) (h : a.size ≤ 70368744177664) :
    Calls Tryz.prog 72 #[.slice (some ⟨w.heap.size, 0, none⟩) 1 1] (w.alloc (.cells #[.string a] 9))
      fun e w' => e = .returned (.string a) ∧ Below w.heap.size w w' := by
  have := joined_new [a] w (by simp) (by rw [cat_one]; exact h)
  rw [cat_one] at this
  exact this
end Go.Proofs.YtkhffoailfnepakGreatDoor
/-
  What Seal answers, in the program and in the specification: the text with its four bytes behind it, or the empty text.
  Conditions: the string fits the form's own reach.
-/
namespace Go.Proofs.YtkhffoailfnepakGreatDoor
open Go.RowKit Go.Lib
set_option linter.unusedVariables false

def sealB (s : ByteArray) : ByteArray := if 7996 < s.size then ByteArray.empty else s ++ four (crcV 0 s)

set_option maxHeartbeats 1000000 in
theorem specSeal_any (s : ByteArray) (w : World) (hs : s.size ≤ maxLen) :
    Calls Tryz.prog 42 #[.string s] w fun e w' => e = .returned (.string (sealB s)) ∧ Below w.heap.size w w' := by
  have hs' := hs
  unfold maxLen at hs'
  by_cases h : 7996 < s.size
  · have H : Hid (sealB s = ByteArray.empty) := if_pos h
    go_enter Tryz.func42, Tryz.ntmps42
    go_wp2_with fail
    go_ret
    exact ⟨ret_str (H.out.trans rfl).symm, Below.refl _ _⟩
  · have H : Hid (sealB s = s ++ four (crcV 0 s)) := if_neg h
    have hb := crcV_bd 0 s
    have h4 := four_size (crcV 0 s)
    go_enter Tryz.func42, Tryz.ntmps42
    go_wp2_with (first | (go_at_call 60; refine (specL01Crc_any _ _ _ hs (by omega) (by omega)).mono ?_; rintro e w' ⟨rfl, rfl⟩) | (go_at_call 59; refine (specFour_any _ _ (by omega) (by omega)).mono ?_; rintro e w' ⟨rfl, hbel⟩))
    go_ret
    exact ⟨ret_str (by rw [H.out]), hbel⟩

set_option maxHeartbeats 1000000 in
theorem implSeal_any (s : ByteArray) (w : World) (hs : s.size ≤ maxLen) :
    Calls Tryz.prog 79 #[.string s] w fun e w' => e = .returned (.string (sealB s)) ∧ Below w.heap.size w w' := by
  have hs' := hs
  unfold maxLen at hs'
  by_cases h : 7996 < s.size
  · have H : Hid (sealB s = ByteArray.empty) := if_pos h
    go_enter Tryz.func79, Tryz.ntmps79
    go_wp2_with fail
    go_ret
    exact ⟨ret_str (H.out.trans rfl).symm, Below.refl _ _⟩
  · have H : Hid (sealB s = s ++ four (crcV 0 s)) := if_neg h
    have HB : Hid (crcB 0 s = crcV 0 s) := if_neg (by omega)
    go_enter Tryz.func79, Tryz.ntmps79
    have h4 := four_size (crcB 0 s)
    go_wp2_with (first | (go_at_call 86; refine (sumOf_any _ _ hs).mono ?_; rintro e w1 ⟨rfl, hbel⟩) | (go_at_call 72; refine (joined_two _ _ _ (by omega)).mono ?_; rintro e w2 ⟨rfl, hbel2⟩))
    go_ret
    exact ⟨ret_str (by rw [H.out, HB.out]), hbel.trans (hbel2.mono hbel.size)⟩
end Go.Proofs.YtkhffoailfnepakGreatDoor
/-
  A row of bytes that the call made, one byte more at a time, also where the row came of a string ('[]byte(s)': the run-time's mark behind its last cell).
  Conditions: the row stays below 2^46 bytes.
-/
namespace Go.Proofs.YtkhffoailfnepakGreatDoor
open Go.RowKit Go.Lib
set_option linter.unusedVariables false

structure OwnB (w : World) (base g cap : Nat) (xs : List Int) : Prop where
  lo : base ≤ g
  hi : g < w.heap.size
  fit : xs.length ≤ cap
  max : cap ≤ maxLen
  room : ∀ j, j < cap → (w.cell? ⟨g, j, none⟩).isSome = true ∧ w.frozen? ⟨g, j, none⟩ = false
  cells : ∀ j (h : j < xs.length), w.cell? ⟨g, j, none⟩ = some (.int .u8 xs[j])

theorem OwnB.carry {w w' : World} {base g cap : Nat} {xs : List Int} (h : OwnB w base g cap xs) (hs : w.heap.size ≤ w'.heap.size) (hb : w'.heap[g]? = w.heap[g]?) : OwnB w' base g cap xs :=
  ⟨h.lo, Nat.lt_of_lt_of_le h.hi hs, h.fit, h.max, fun j hj => by
    have e1 : w'.cell? ⟨g, j, none⟩ = w.cell? ⟨g, j, none⟩ := World.cell?_of_block hb
    have e2 : w'.frozen? ⟨g, j, none⟩ = w.frozen? ⟨g, j, none⟩ := World.frozen?_of_block hb
    rw [e1, e2]; exact h.room j hj, fun j hj => by
    have e1 : w'.cell? ⟨g, j, none⟩ = w.cell? ⟨g, j, none⟩ := World.cell?_of_block hb
    rw [e1]; exact h.cells j hj⟩
theorem OwnB.drew {w : World} {base g cap : Nat} {xs : List Int} (h : OwnB w base g cap xs) : OwnB w.drew base g cap xs := h.carry (Nat.le_refl _) rfl
theorem OwnB.alloc {w : World} {base g cap : Nat} {xs : List Int} (h : OwnB w base g cap xs) (o : Obj) : OwnB (w.alloc o) base g cap xs :=
  h.carry (by simp) (Below.heap_alloc w o g h.hi)
theorem OwnB.below {w w' : World} {base g cap : Nat} {xs : List Int} (h : OwnB w base g cap xs) (hb : Below w.heap.size w w') : OwnB w' base g cap xs :=
  h.carry hb.size (hb.block g h.hi)

theorem ownB_of_row {w : World} {base g n cap : Nat} {xs : List Int} {T : TypeId} (h : w.ownsRow base T 1 (.slice (some ⟨g, 0, none⟩) n cap) n (xs.map (Value.int .u8))) (hx : xs.length = n) : OwnB w base g cap xs := by
  have hlt := h.lt g rfl
  rcases h.2 with ⟨h0, _⟩ | ⟨g2, cap2, cur, hv, hb, hg, hn, hc, hs, ht⟩
  · cases h0
  · cases hv
    refine ⟨hb, hlt.2, by omega, hc, fun j hj => ?_, fun j hj => ?_⟩
    · have : j < cur.size := by omega
      simp [World.cell?, World.frozen?, hg, this]
    · rw [h.cellAt j (by omega)]
      simp [List.getElem?_eq_getElem hj]

theorem ownB_of_string (w : World) (s : ByteArray) (T : TypeId) (hs : s.size ≤ maxLen) :
    OwnB (w.drew.alloc (.cells (bytesRow s (grownCap w s.size 0 T)) T ((bytesRow s (grownCap w s.size 0 T)).size, (bytesRow s (grownCap w s.size 0 T)).size + 1))) w.heap.size w.heap.size (grownCap w s.size 0 T) (bytesN s) := by
  have hge := grownCap_ge w s.size 0 T
  have hle := grownCap_le_maxLen w s.size 0 T hs
  generalize grownCap w s.size 0 T = C at *
  have hsz : (bytesRow s C).size = C := by
    have : s.data.size = s.size := rfl
    simp [bytesRow, this]; omega
  have hat : (w.drew.alloc (.cells (bytesRow s C) T ((bytesRow s C).size, (bytesRow s C).size + 1))).heap[w.heap.size]? = some (.cells (bytesRow s C) T ((bytesRow s C).size, (bytesRow s C).size + 1)) := heap_alloc_new w.drew _
  refine ⟨Nat.le_refl _, by simp, by rw [bytesN_len]; exact hge, hle, fun j hj => ?_, fun j hj => ?_⟩
  · rw [hsz] at hat ⊢
    refine ⟨?_, ?_⟩
    · have : j < (bytesRow s C).size := by omega
      simp only [World.cell?, hat]
      simp [this]
    · simp only [World.frozen?, hat]
      simp; omega
  · rw [bytesN_len] at hj
    have h2 : j < s.data.size := hj
    simp only [World.cell?, hat]
    simp [bytesRow, bytesN, Array.getElem?_append, hj]

theorem append_b {P : Program} (w : World) (t ty e : TypeId) (i : TypeInfo) (ht : P.underlying t = some (.slice e)) (hi : P.info? e = some i) (hz : i.zero = some (.int .u8 0)) (hz1 : i.size = 1) (hz2 : i.bytes = 1)
    (base g cap : Nat) (xs : List Int) (h : OwnB w base g cap xs) (ad : Addr) (c : Nat) (x : Int) (hx : w.cell? (ad.add 0) = some (.int .u8 x)) (hlen : xs.length < 70368744177664) (hB : base ≤ w.heap.size) :
    ∃ g' cap' w', (Builtin.append_ #[t, t] ty #[.slice (some ⟨g, 0, none⟩) xs.length cap, .slice (some ad) 1 c]).run P w = .ok (.slice (some ⟨g', 0, none⟩) (xs.length + 1) cap') w' ∧
      OwnB w' base g' cap' (xs ++ [x]) ∧ ∀ w0, Below base w0 w → Below base w0 w' := by
  have hnews : ∀ j u, [Value.int .u8 x][j]? = some u → w.cell? (ad.add j) = some u := fun j u hj => by
    match j with
    | 0 => simp at hj; rw [hx, hj]
    | j + 1 => simp at hj
  by_cases hroom : xs.length + 1 ≤ cap
  · have hr := run_append_room_cells (P := P) w t ty e i ht hi g 0 xs.length cap ad 1 c [.int .u8 x] (by rw [hz1]; rfl) hnews (by simp [Value.oneCell']) hroom
      (fun j hj => by rw [hz1]; have : j = 0 := by simpa using hj
                      subst this; simpa using (h.room xs.length (by omega)).1)
      (fun j hj => by rw [hz1]; have : j = 0 := by simpa using hj
                      subst this; simpa using (h.room xs.length (by omega)).2)
    rw [hz1, Nat.zero_add, Nat.mul_one] at hr
    have e0 : (w.setCells g xs.length [.int .u8 x]) = w.setCell ⟨g, xs.length, none⟩ (.int .u8 x) := rfl
    rw [e0] at hr
    have hcs : (w.cell? ⟨g, xs.length, none⟩).isSome = true := (h.room xs.length (by omega)).1
    have hin := World.cell?_setCells_in g [.int .u8 x] xs.length w (fun j hj => by have : j = 0 := by simpa using hj
                                                                                   subst this; exact hcs) 0 (by simp)
    rw [e0] at hin
    have hout : ∀ j, j ≠ xs.length → (w.setCell ⟨g, xs.length, none⟩ (.int .u8 x)).cell? ⟨g, j, none⟩ = w.cell? ⟨g, j, none⟩ := fun j hj => by
      have := World.cell?_setCells_out g [.int .u8 x] xs.length w ⟨g, j, none⟩ (fun _ _ => by simp; omega)
      rwa [e0] at this
    have hfz : ∀ a, (w.setCell ⟨g, xs.length, none⟩ (.int .u8 x)).frozen? a = w.frozen? a := fun a => by
      have := World.frozen?_setCells g [.int .u8 x] xs.length w a
      rwa [e0] at this
    refine ⟨g, cap, _, hr, ⟨h.lo, by simpa using h.hi, by simpa using hroom, h.max, fun j hj => ?_, fun j hj => ?_⟩, fun w0 hb => hb.setCell h.lo _⟩
    · rw [hfz]
      refine ⟨?_, (h.room j hj).2⟩
      by_cases hjn : j = xs.length
      · subst hjn; simp at hin; simp [hin]
      · rw [hout j hjn]; exact (h.room j hj).1
    · by_cases hjn : j = xs.length
      · subst hjn; simp at hin; simp [hin]
      · have hj' : j < xs.length := by simp at hj; omega
        rw [hout j hjn, h.cells j hj', List.getElem_append_left hj']
  · obtain ⟨v', w', hr, hown, hgr⟩ := run_append_arg_grows (P := P) w t ty e i (.int .u8 0) 1 1 ht hi hz hz1 hz2 rfl (by omega) ⟨g, 0, none⟩ xs.length cap (xs.map (Value.int .u8)) (by simp)
      (fun j u hj => by
        have hjl : j < xs.length := by
          rcases Nat.lt_or_ge j xs.length with hh | hh
          · exact hh
          · rw [List.getElem?_eq_none (by simpa using hh)] at hj; cases hj
        have e : (⟨g, 0, none⟩ : Addr).add j = ⟨g, j, none⟩ := by unfold Addr.add; split <;> simp_all
        rw [e, h.cells j hjl]
        simp [List.getElem?_eq_getElem hjl] at hj
        rw [← hj]) ad 1 c [.int .u8 x] rfl hnews (by omega) (by unfold maxLen; omega) (by omega)
    obtain ⟨g', cap', rfl, hbg, hlt⟩ := hown.form (by omega)
    have ho2 := ownB_of_row (xs := xs ++ [x]) (by rw [List.map_append]; exact hown) (by simp)
    refine ⟨g', cap', w', hr, ⟨Nat.le_trans hB hbg, ho2.hi, ho2.fit, ho2.max, ho2.room, ho2.cells⟩, fun w0 hb => hb.grown hgr hB (fun k hk => by cases hk)⟩

theorem wpList_append_run {P : Program} {w : World} {ops : Array Oper} {rest : List Oper} {o : Oper} {a : Act} {Q : Exit → Act → World → Prop} (hgd : o.guard = none) (s x : Operand) (t : TypeId)
    (ho : o.op = .call { callee := .builtin .append, args := #[s, x], argTypes := #[t, t] }) (v1 v2 v' : Value) (w' : World) (hs : a.eval s = v1) (hx : a.eval x = v2)
    (hr : (Builtin.append_ #[t, t] o.type #[v1, v2]).run P w = .ok v' w') (h : wpList P ops Q rest (a.put o.dst v') w') : wpList P ops Q (o :: rest) a w :=
  wpList_plain hgd fun _ hK => by
    unfold Oper.wp execOp
    simp only [ho, resolve, invoke, builtin, Sem.run_bind, Sem.run_pure, Result.andThen_ok, List.map_toArray, List.map_cons, List.map_nil, hs, hx, hr]
    exact hK _ _ h

theorem conv_b {w : World} {base g cap : Nat} {xs : List Int} (h : OwnB w base g cap xs) (off len c : Nat) (hl : off + len ≤ xs.length) :
    (convert 72 9 (.slice (some ⟨g, off, none⟩) len c)).run Tryz.prog w = .ok (.string (strOfNums ((xs.drop off).take len))) w :=
  run_convert_bytes_arg (P := Tryz.prog) w 72 5 Tryz.underlying72 Tryz.underlying5 g off len c ((xs.drop off).take len) (by simp; omega) (fun i hi => by
    rw [h.cells (off + i) (by omega), List.getD_eq_getElem?_getD, List.getElem?_take_of_lt hi, List.getElem?_drop, List.getElem?_eq_getElem (by omega)]; rfl) 9 Tryz.underlying9
end Go.Proofs.YtkhffoailfnepakGreatDoor
