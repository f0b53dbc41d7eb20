/-
  The law FnSeal, walked: whatever the codes, it returns true.
  Conditions: the codes' bytes are there.
-/
import Derived.Test.YtfjiidicnimeeaaRows
import Derived.Test.YtfjiidicnimeeaaBytes
import Derived.Test.YtfjiidicnimeeaaCrc
import Derived.Test.YtfjiidicnimeeaaCrcMath
import Derived.Test.YtfjiidicnimeeaaSeal
import Derived.Test.YtfjiidicnimeeaaUnsealI
import Derived.Test.YtfjiidicnimeeaaSealMath
import Derived.Test.YtfjiidicnimeeaaDrawSeal
import Derived.Handy
import Derived.WalkSpells
import Derived.Deep.RegionWith
import Derived.Deep.RegionHeld3
namespace Go.Proofs.Ytfjiidicnimeeaa
open Go.RowKit Go.Lib
set_option linter.unusedVariables false

/-- What '[]byte(s)' lays: the bytes; none of them is frozen. -/
theorem bytes_box (s : ByteArray) (gc : Nat) (T : TypeId) (w : World) :
    (∀ j (h : j < s.size), (w.alloc (.cells (bytesRow s gc) T ((bytesRow s gc).size, (bytesRow s gc).size + 1))).drew.cell? ⟨w.heap.size, j, none⟩ = some (.int .u8 (s[j].toNat : Int))) ∧
    (∀ j, j < s.size → (w.alloc (.cells (bytesRow s gc) T ((bytesRow s gc).size, (bytesRow s gc).size + 1))).drew.frozen? ⟨w.heap.size, j, none⟩ = false) := by
  constructor
  · intro j h
    show (w.alloc _).cell? _ = _
    rw [World.cell?_alloc_mark]
    have hd : j < (s.data.map (fun b => Value.int .u8 (b.toNat : Int))).size := by simpa using h
    unfold bytesRow
    rw [Array.getElem?_append_left hd, Array.getElem?_map, Array.getElem?_eq_getElem (show j < s.data.size from h)]
    rfl
  · intro j h
    show (w.alloc _).frozen? _ = _
    have e := (MapKept.heap_alloc w (.cells (bytesRow s gc) T ((bytesRow s gc).size, (bytesRow s gc).size + 1))).1
    unfold World.frozen?
    rw [e]
    have hz : s.size ≤ (bytesRow s gc).size := by
      unfold bytesRow; rw [Array.size_append, Array.size_map]; exact Nat.le_add_right _ _
    have hj : decide ((bytesRow s gc).size ≤ j) = false := by simp; omega
    show (decide ((bytesRow s gc).size ≤ j) && _) = false
    rw [hj]; rfl

theorem field_five (wx : World) : (Instr.field 27 (.agg #[.string ByteArray.empty, .int .i64 0, .int .i64 5]) 2).run Try.prog wx = .ok (.int .i64 5) wx := by kernel_rfl
def turnN (s : ByteArray) (k : Nat) (v : Int) : List Int := (s.data.toList.map (fun b => (b.toNat : Int))).set k v
theorem turnN_len (s : ByteArray) (k : Nat) (v : Int) : (turnN s k v).length = s.size := by unfold turnN; rw [List.length_set, List.length_map, ← size_eq]
theorem turned_str (s : ByteArray) (k : Nat) (v : Int) : strOfNums (turnN s k v) = ⟨(s.data.toList.set k (UInt8.ofNat v.toNat)).toArray⟩ := by
  unfold strOfNums turnN
  rw [List.map_set, List.map_map]
  have : ((fun n : Int => UInt8.ofNat n.toNat) ∘ fun b : UInt8 => (b.toNat : Int)) = id := by funext b; simp
  rw [this, List.map_id]
theorem turned_cells {s : ByteArray} {w : World} {q k : Nat} (h : ∀ j (hj : j < s.size), w.cell? ⟨q, j, none⟩ = some (.int .u8 (s[j].toNat : Int))) (hk : k < s.size) (v : Int) (j : Nat) (hj : j < s.size) :
    (w.setCell ⟨q, k, none⟩ (.int .u8 v)).drew.cell? ⟨q, 0 + j, none⟩ = some (.int .u8 ((turnN s k v).getD j 0)) := by
  rw [Nat.zero_add]
  show (w.setCell ⟨q, k, none⟩ (.int .u8 v)).cell? ⟨q, j, none⟩ = _
  have hl : j < (s.data.toList.map (fun b => (b.toNat : Int))).length := by rw [List.length_map, ← size_eq]; exact hj
  by_cases e : j = k
  · subst e
    rw [World.cell?_setCell_same _ _ _ (h j hj)]
    unfold turnN; simp [List.getD, List.getElem?_set_self hl]
  · rw [World.cell?_setCell_other _ _ _ _ (by simp; try omega), h j hj]
    unfold turnN
    rw [List.getD_eq_getElem?_getD, List.getElem?_set_ne (by omega), List.getElem?_map, List.getElem?_eq_getElem (by rw [← size_eq]; exact hj)]
    rfl
theorem turned_bad {s t : ByteArray} {k : Nat} {v : Int} (hs : s = sealB t) (h8 : t.size ≤ 7996) (hk : k < s.size) (v0 : 0 ≤ v) (v1 : v ≤ 255) (hv : v ≠ (s[k].toNat : Int)) :
    unsealB (strOfNums (turnN s k v)) = .agg #[.string ByteArray.empty, .int .i64 0, .int .i64 5] := by
  subst hs
  rw [turned_str]
  exact unseal_turned t h8 k _ hk (fun e => hv (by
    have := congrArg UInt8.toNat e
    simp at this
    omega))

set_option maxHeartbeats 4000000 in
theorem fnSeal_any (a0 : Option Addr) (len0 cap0 : Nat) (a1 : Option Addr) (len1 cap1 : Nat) (w : World) (hl0 : len0 ≤ 1048576) (hl1 : len1 ≤ 1048576)
    (hc0 : CodeAt w.heap.size a0 len0 w) (hc1 : CodeAt w.heap.size a1 len1 w) :
    Calls Try.prog 3 #[.slice a0 len0 cap0, .slice a1 len1 cap1] w fun e w' => e = .returned (.bool true) ∧ Below w.heap.size w w' := by
  have HC0 : Hid (CodeAt w.heap.size a0 len0 w) := hc0
  have HC1 : Hid (CodeAt w.heap.size a1 len1 w) := hc1
  clear hc0 hc1
  have d1 : decide (1048576 < (len0 : Int)) = false := by simp; omega
  have d2 : decide (1048576 < (len1 : Int)) = false := by simp; omega
  go_enter Try.func3, Try.ntmps3
  go_wp2_with fail
  refine (drawSeal_any w.heap.size a0 len0 cap0 w hl0 (Nat.le_refl _) HC0.out).mono ?_
  rintro e w1 ⟨⟨t, rfl, ht⟩, hb1⟩
  have hm : t.size ≤ maxLen := by unfold maxLen; omega
  go_wp2_with fail
  refine (implSeal_any t _ hm).mono ?_
  rintro e w2 ⟨rfl, hb2'⟩
  have hb2 : Below w.heap.size w w2 := hb1.trans (hb2'.mono hb1.size)
  clear hb1 hb2'
  go_wp2_with fail
  refine (specSeal_any t _ hm).mono ?_
  rintro e w3 ⟨rfl, hb3'⟩
  have hb3 : Below w.heap.size w w3 := hb2.trans (hb3'.mono hb2.size)
  clear hb2 hb3'
  by_cases h8 : t.size ≤ 7996
  · have hsz := sealB_size t h8
    obtain ⟨s, hs⟩ : ∃ s, s = sealB t := ⟨_, rfl⟩
    have HS : Hid (s = sealB t) := hs
    rw [← hs] at hsz ⊢
    have hs4 : 4 ≤ s.size := by omega
    have hs8 : s.size ≤ 8000 := by omega
    clear hs hsz
    have hne : s.toList.isEmpty = false := by
      have : s.toList.length = s.size := by rw [toList_data, ← size_eq]
      cases e : s.toList with
      | nil => rw [e] at this; simp at this; omega
      | cons => rfl
    have hcv := fun W => run_bytes_of_string (P := Try.prog) W 9 22 5 s Try.underlying9 Try.underlying22 Try.underlying5
    go_wp2_with fail
    have hbox := bytes_box s (grownCap w3 s.size 0 5) 5 w3
    have hb4 : Below w.heap.size w (w3.alloc (.cells (bytesRow s (grownCap w3 s.size 0 5)) 5 ((bytesRow s (grownCap w3 s.size 0 5)).size, (bytesRow s (grownCap w3 s.size 0 5)).size + 1))).drew := (hb3.alloc hb3.size _).drew
    have hq : w.heap.size ≤ w3.heap.size := hb3.size
    have hqs : w3.heap.size < (w3.alloc (.cells (bytesRow s (grownCap w3 s.size 0 5)) 5 ((bytesRow s (grownCap w3 s.size 0 5)).size, (bytesRow s (grownCap w3 s.size 0 5)).size + 1))).drew.heap.size := by show _ < (w3.alloc _).heap.size; simp
    clear hb3 hcv
    generalize (w3.alloc (.cells (bytesRow s (grownCap w3 s.size 0 5)) 5 ((bytesRow s (grownCap w3 s.size 0 5)).size, (bytesRow s (grownCap w3 s.size 0 5)).size + 1))).drew = W at *
    generalize grownCap w3 s.size 0 5 = gc at *
    generalize w3.heap.size = q at *
    refine (lwAt_any w.heap.size a1 len1 cap1 0 _ _ hl1 (by omega) (by omega) (HC1.out.below hb4)).mono ?_
    rintro e w5 ⟨⟨r, rfl, hr0, hr1, _⟩, hw5⟩
    have hr2 : r < (s.size : Int) := hr1 (by omega)
    subst hw5
    obtain ⟨k, rfl⟩ := Int.eq_ofNat_of_zero_le hr0
    have hk : k < s.size := by omega
    have hck := hbox.1 k hk
    have hfk := hbox.2 k hk
    have HBX : Hid ((∀ j (h : j < s.size), w5.cell? ⟨q, j, none⟩ = some (.int .u8 (s[j].toNat : Int))) ∧ (∀ j, j < s.size → w5.frozen? ⟨q, j, none⟩ = false)) := hbox
    clear hbox hr1 hr0
    have hcb : (s[k].toNat : Int) ≤ 255 := by have := s[k].toNat_lt; omega
    have i1 : (k : Int) < (s.size : Int) := by omega
    have i0 : (0 : Int) ≤ (k : Int) := by omega
    have HCW : Hid (∀ W', Below w.heap.size w W' → CodeAt w.heap.size a1 len1 W') := fun W' hb => HC1.out.below hb
    go_wp2_with fail
    go_region_with (go_at_call 7; refine (lwAt_any w.heap.size a1 len1 cap1 1 255 _ hl1 (by omega) (by omega) (by exact HCW.out _ (by first | exact hb4.drew | exact hb4))).mono ?_; rintro e w6 ⟨⟨r2, rfl, hr20, hr21, _⟩, hw6⟩; subst hw6; have hr22 : r2 < 255 := hr21 (by omega); clear hr21)
    all_goals go_wp2_with fail
    all_goals
      obtain ⟨x0, x1, xne⟩ := xor8 (s[k].toNat : Int) (1 + r2) (by omega) hcb (by omega) (by omega)
      have hb6 : Below w.heap.size w (w5.setCell ⟨q, k, none⟩ (.int .u8 (bits .xor .u8 (s[k].toNat : Int) (1 + r2)))).drew := (hb4.setCell hq _).drew
      have HCELL : Hid (∀ j, j < s.size → (w5.setCell ⟨q, k, none⟩ (.int .u8 (bits .xor .u8 (s[k].toNat : Int) (1 + r2)))).drew.cell? ⟨q, 0 + j, none⟩ = some (.int .u8 ((turnN s k (bits .xor .u8 (s[k].toNat : Int) (1 + r2))).getD j 0))) := turned_cells HBX.out.1 hk _
      have hq6 : q < (w5.setCell ⟨q, k, none⟩ (.int .u8 (bits .xor .u8 (s[k].toNat : Int) (1 + r2)))).drew.heap.size := by show q < (w5.setCell _ _).heap.size; simpa [World.setCell] using hqs
      clear hck hfk hb4 HBX
      have HX : Hid (bits .xor .u8 (s[k].toNat : Int) (1 + r2) ≠ (s[k].toNat : Int)) := xne
      clear xne
      generalize bits .xor .u8 (s[k].toNat : Int) (1 + r2) = v at *
      generalize (w5.setCell ⟨q, k, none⟩ (.int .u8 v)).drew = W6 at *
      have HUT : Hid (unsealB (strOfNums (turnN s k v)) = .agg #[.string ByteArray.empty, .int .i64 0, .int .i64 5]) := turned_bad HS.out h8 hk x0 x1 HX.out
      have HUS : Hid (unsealB s = .agg #[.string t, .int .i64 0, .int .i64 0]) := by show _ = _; rw [HS.out]; exact unseal_seal t h8
      have hsm : s.size ≤ maxLen := by unfold maxLen; omega
      have hsm2 : (strOfNums (turnN s k v)).size ≤ maxLen := by rw [strOfNums_size, turnN_len]; exact hsm
      refine (implUnseal_any s _ hsm).mono ?_
      rintro e w8 ⟨rfl, hb8'⟩
      rw [HUS.out]
      have hconv := run_convert_bytes_arg (P := Try.prog) w8 22 5 Try.underlying22 Try.underlying5 q 0 s.size gc (turnN s k v) (turnN_len s k v) (fun j hj => by
        rw [hb8'.cell (p := ⟨q, 0 + j, none⟩) hq6]; exact HCELL.out j hj) 9 Try.underlying9
      have hb8 := hb6.trans (hb8'.mono hb6.size)
      clear hb8' hb6 HCELL hq6
      go_wp2_with fail
      refine (implUnseal_any _ _ hsm2).mono ?_
      rintro e w9 ⟨rfl, hb9'⟩
      rw [HUT.out]
      have hb9 := hb8.trans (hb9'.mono hb8.size)
      clear hb9' hb8 hconv
      have hfd := field_five
      go_wp2_with fail
      refine (drawCrcMore_any w.heap.size a1 len1 cap1 _ hl1 hb9.size (HC1.out.below hb9)).mono ?_
      rintro e w7 ⟨⟨c, u, rfl, hu⟩, hb7'⟩
      have hb7 := hb9.trans (hb7'.mono hb9.size)
      clear hb7' hb9
      by_cases h9 : 8000 < t.size + u.size
      · go_wp2_with fail
        go_ret
        exact ⟨rfl, hb7⟩
      · have HM : Hid (crcB (crcB 0 t) u = crcB 0 (t ++ u)) := crcB_more t u (by omega)
        have hum : u.size ≤ maxLen := by unfold maxLen; omega
        have htu : (t ++ u).size ≤ maxLen := by unfold maxLen; simp; omega
        go_wp2_with (first | (go_at_call 10; refine (implCrcMore_any _ _ _ hum).mono ?_; rintro e w8 ⟨rfl, hw8⟩; subst hw8) | (go_at_call 11; refine (specCrcMore_any _ _ _ hum).mono ?_; rintro e w8 ⟨rfl, hw8⟩; subst hw8) | (go_at_call_of 12 (Value.string t); refine (implCrc_any _ _ hm).mono ?_; rintro e w8 ⟨rfl, hw8⟩; subst hw8) | (go_at_call 12; refine (implCrc_any _ _ htu).mono ?_; rintro e w8 ⟨rfl, hw8⟩; subst hw8))
        go_ret
        exact ⟨by simp [HM.out], hb7⟩
  · rw [show sealB t = ByteArray.empty from if_pos (by omega)]
    go_wp2_with fail
    refine (drawCrcMore_any w.heap.size a1 len1 cap1 _ hl1 hb3.size (HC1.out.below hb3)).mono ?_
    rintro e w7 ⟨⟨c, u, rfl, hu⟩, hb7'⟩
    have hb7 := hb3.trans (hb7'.mono hb3.size)
    clear hb7' hb3
    by_cases h9 : 8000 < t.size + u.size
    · go_wp2_with fail
      go_ret
      exact ⟨rfl, hb7⟩
    · have HM : Hid (crcB (crcB 0 t) u = crcB 0 (t ++ u)) := crcB_more t u (by omega)
      have hum : u.size ≤ maxLen := by unfold maxLen; omega
      have htu : (t ++ u).size ≤ maxLen := by unfold maxLen; simp; omega
      go_wp2_with (first | (go_at_call 10; refine (implCrcMore_any _ _ _ hum).mono ?_; rintro e w8 ⟨rfl, hw8⟩; subst hw8) | (go_at_call 11; refine (specCrcMore_any _ _ _ hum).mono ?_; rintro e w8 ⟨rfl, hw8⟩; subst hw8) | (go_at_call_of 12 (Value.string t); refine (implCrc_any _ _ hm).mono ?_; rintro e w8 ⟨rfl, hw8⟩; subst hw8) | (go_at_call 12; refine (implCrc_any _ _ htu).mono ?_; rintro e w8 ⟨rfl, hw8⟩; subst hw8))
      go_ret
      exact ⟨by simp [HM.out], hb7⟩
end Go.Proofs.Ytfjiidicnimeeaa
