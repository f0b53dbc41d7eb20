/-
  What 'joined' answers: the texts of its slice behind one another, in new memory; nothing that was there turns.
  Conditions: the slice's cells hold those texts; together they are at most 2^46 bytes long.
-/
import Derived.Test.YtnppgldafhpchaaDoorRows
import Derived.Test.YtnppgldafhpchaaDoorBytes
import Derived.Handy
namespace Go.Proofs.YtnppgldafhpchaaDoor
open Go.RowKit Go.Lib
set_option linter.unusedVariables false

theorem infoU8 : (Tryd.prog.info? 5).map (fun i => (i.zero, i.size, i.bytes)) = some (some (.int .u8 0), 1, 1) := by kernel_rfl
theorem sizeU8 : (Tryd.prog.info? 5).map (·.size) = some 1 := by kernel_rfl
theorem run_make_u8 (n : Nat) (hn : n ≤ 281474976710656) (w : World) :
    (Instr.makeSlice 59 (.int .i64 (n : Int)) (.int .i64 (n : Int))).run Tryd.prog w = .ok (.slice (some ⟨w.heap.size, 0, none⟩) n n) (w.alloc (.cells (zrow n).toArray 5)) := by
  obtain ⟨i0, hi, hz0, hz1, hz2⟩ := info_parts infoU8
  have := run_make (P := Tryd.prog) w 59 5 i0 (.int .u8 0) Tryd.underlying59 hi hz0 .i64 .i64 (n : Int) (n : Int) (by omega) (by omega) (by rw [hz2]; omega) (by omega)
  rw [this, hz1]
  simp only [Int.toNat_natCast, Nat.mul_one]
  rw [← madeZ]; rfl

set_option maxHeartbeats 1000000 in
theorem joined_any (b off n cap : Nat) (ss : List ByteArray) (w : World) (hn : ss.length = n) (hb : b < w.heap.size) (hnm : n ≤ 1048576) (hcap : n ≤ cap)
    (hc : ∀ i (h : i < ss.length), w.cell? ⟨b, off + i, none⟩ = some (.string ss[i])) (htot : sumN ss ss.length ≤ 70368744177664) :
    Calls Tryd.prog 42 #[.slice (some ⟨b, off, none⟩) n cap] w fun e w' => e = .returned (.string (cat ss)) ∧ Below w.heap.size w w' := by
  subst hn
  have HC : Hid (∀ i (h : i < ss.length), w.cell? ⟨b, off + i, none⟩ = some (.string ss[i])) := hc
  clear hc
  go_enter Tryd.func42, Tryd.ntmps42
  go_wp2
  go_loop [3, 12] (fun x i => ∃ k : Nat, k ≤ ss.length ∧ i = .int .i64 k ∧ x = .int .i64 (sumN ss k : Nat)) (fun _ i => ss.length - (intOf i).toNat)
  case atStart => exact ⟨0, Nat.zero_le _, rfl, rfl⟩
  case round =>
    obtain ⟨k, hk, rfl, rfl⟩ := hrel
    by_cases hlt : k < ss.length
    · have hck := HC.out k hlt
      have hle := sumN_le ss (k + 1)
      have HS : Hid (sumN ss (k + 1) = sumN ss k + ss[k].size) := sumN_succ ss k hlt
      have hsz : sumN ss k + ss[k].size ≤ 70368744177664 := by have := HS.out; omega
      clear hle
      generalize ss[k] = p at *
      go_wp2
      go_round
      case rel => exact ⟨k + 1, by omega, by go_num, by rw [HS.out]; go_num⟩
      case measure => simp [intOf]; omega
    · have hkk : k = ss.length := by omega
      subst hkk
      obtain ⟨tot, hT⟩ : ∃ tot, tot = sumN ss ss.length := ⟨_, rfl⟩
      have HT : Hid (tot = sumN ss ss.length) := hT
      rw [← hT] at htot ⊢
      clear hT
      have hmk := run_make_u8 tot (by omega)
      go_wp2
      go_loopw [7, 25] (fun x i wr => ∃ k : Nat, k ≤ ss.length ∧ i = .int .i64 k ∧ x = .int .i64 (sumN ss k : Nat) ∧ Hid (wr.heap[w.heap.size]? = some (.cells (rowAt ss k tot).toArray 5 (0, 0))) ∧ Below w.heap.size w wr) (fun _ i _ => ss.length - (intOf i).toNat)
      case atStart =>
        refine ⟨0, Nat.zero_le _, rfl, rfl, ?_, (Below.refl _ _).alloc (Nat.le_refl _) _⟩
        show _ = _
        rw [rowAt_zero]
        exact (MapKept.heap_alloc w _).1
      case round =>
        obtain ⟨k, hk, rfl, rfl, hrow, hnx⟩ := hrel
        have hBz : w.heap.size ≤ wr.heap.size := hnx.size
        by_cases hlt : k < ss.length
        · have hck : wr.cell? ⟨b, off + k, none⟩ = some (.string ss[k]) := (hnx.cell (p := ⟨b, off + k, none⟩) hb).trans (HC.out k hlt)
          have hle := sumN_le ss (k + 1)
          have HS : Hid (sumN ss (k + 1) = sumN ss k + ss[k].size) := sumN_succ ss k hlt
          have hsz : sumN ss k + ss[k].size ≤ tot := by have := HS.out; have := HT.out; omega
          have hlen := rowAt_len ss k tot (by omega)
          have HR : Hid (splice (rowAt ss k tot) (sumN ss k) (byteCells ss[k].data.toList) = rowAt ss (k + 1) tot) := rowAt_succ ss k tot hlt (by have := HS.out; omega)
          have HL : Hid ((rowAt ss k tot).length = tot) := hlen
          clear hle hlen
          generalize ss[k] = p at *
          generalize sumN ss k = m at *
          by_cases hm : m = tot
          · have hp0 : p.size = 0 := by omega
            have hcp := copy_str_none (P := Tryd.prog) wr 59 9 3 5 Tryd.underlying59 sizeU8 (some ⟨w.heap.size, 0, none⟩) 0 0 p hp0
            have HR' : Hid (rowAt ss (k + 1) tot = rowAt ss k tot) := by show _ = _; rw [← HR.out, splice_nil _ _ _ hp0]
            have HX : Hid (wr.heap[w.heap.size]? = some (.cells (rowAt ss (k + 1) tot).toArray 5 (0, 0))) := by show _ = _; rw [HR'.out]; exact hrow.out
            have HP : Hid (sumN ss (k + 1) = m) := by show _ = _; rw [HS.out]; omega
            clear hrow HR HR' HL HS
            subst hm
            go_wp2
            go_roundw
            case rel => exact ⟨k + 1, by omega, by go_num, by rw [HP.out], HX, hnx⟩
            case measure => simp [intOf]; omega
          · have hmlt : m < tot := by omega
            clear hm
            obtain ⟨w2, hcp, hrow2, hbel⟩ := copy_str (P := Tryd.prog) wr 59 9 3 5 Tryd.underlying59 sizeU8 w.heap.size m (tot - m) (tot - m) p (rowAt ss k tot) 5 hrow.out (by omega) (by rw [HL.out]; omega)
            have HW : Hid (w2.heap[w.heap.size]? = some (.cells (rowAt ss (k + 1) tot).toArray 5 (0, 0))) := by show _ = _; rw [← HR.out]; exact hrow2
            have hb2 := hbel w.heap.size w hnx (Nat.le_refl _)
            clear hbel hrow2 hrow HR HL
            go_wp2
            go_roundw
            case rel => exact ⟨k + 1, by omega, by go_num, by rw [HS.out]; go_num, HW, hb2⟩
            case measure => simp [intOf]; omega
        · have hkk : k = ss.length := by omega
          subst hkk
          have hrow' : wr.heap[w.heap.size]? = some (.cells (byteCells (catN ss ss.length)).toArray 5 (0, 0)) := by
            have := hrow.out; rw [HT.out, rowAt_all] at this; exact this
          have hconv := run_convert_bytes_back (P := Tryd.prog) wr 59 9 5 ⟨w.heap.size, 0, none⟩ tot (catN ss ss.length) Tryd.underlying59 Tryd.underlying5 Tryd.underlying9 (row_cell hrow')
          have hl : (catN ss ss.length).length = tot := by rw [HT.out]; rfl
          rw [hl, catN_all] at hconv
          clear hl hrow'
          go_wp2
          go_ret
          exact ⟨rfl, hnx⟩

theorem cat_two (a b : ByteArray) : cat [a, b] = a ++ b := by
  apply ByteArray.ext; simp [cat]
theorem cat_one (a : ByteArray) : cat [a] = a := by
  apply ByteArray.ext; simp [cat]
theorem new_texts (w : World) (ss : List ByteArray) (t : TypeId) (i : Nat) (h : i < ss.length) :
    (w.alloc (.cells (ss.map Value.string).toArray t)).cell? ⟨w.heap.size, 0 + i, none⟩ = some (.string ss[i]) := by
  rw [World.cell?_alloc_mark]; simp [h]

theorem joined_new (ss : List ByteArray) (w : World) (hn : ss.length ≤ 1048576) (htot : (cat ss).size ≤ 70368744177664) :
    Calls Tryd.prog 42 #[.slice (some ⟨w.heap.size, 0, none⟩) ss.length ss.length] (w.alloc (.cells (ss.map Value.string).toArray 9))
      fun e w' => e = .returned (.string (cat ss)) ∧ Below w.heap.size w w' := by
  refine (joined_any w.heap.size 0 ss.length ss.length ss _ rfl (by simp) hn (Nat.le_refl _) (new_texts w ss _) (by rw [cat_size] at htot; exact htot)).mono ?_
  rintro e w' ⟨he, hb⟩
  exact ⟨he, ((Below.refl _ _).alloc (Nat.le_refl _) _).trans (hb.mono (by simp))⟩

theorem joined_two (a b : ByteArray) (w : World) (h : a.size + b.size ≤ 70368744177664) :
    Calls Tryd.prog 42 #[.slice (some ⟨w.heap.size, 0, none⟩) 2 2] (w.alloc (.cells #[.string a, .string b] 9))
      fun e w' => e = .returned (.string (a ++ b)) ∧ Below w.heap.size w w' := by
  have := joined_new [a, b] w (by simp) (by rw [cat_two]; simpa using h)
  rw [cat_two] at this
  exact this

theorem joined_one (a : ByteArray) (w : World) (h : a.size ≤ 70368744177664) :
    Calls Tryd.prog 42 #[.slice (some ⟨w.heap.size, 0, none⟩) 1 1] (w.alloc (.cells #[.string a] 9))
      fun e w' => e = .returned (.string a) ∧ Below w.heap.size w w' := by
  have := joined_new [a] w (by simp) (by rw [cat_one]; exact h)
  rw [cat_one] at this
  exact this
end Go.Proofs.YtnppgldafhpchaaDoor
