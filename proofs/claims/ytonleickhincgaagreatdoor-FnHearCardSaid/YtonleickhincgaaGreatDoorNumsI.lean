/-
  The program's numsOf: the 64 words of a block, in new memory.
  Conditions: the slice holds the block's 64 bytes.
-/
import Derived.Test.YtonleickhincgaaGreatDoorRows
import Derived.Test.YtonleickhincgaaGreatDoorBytesDigMath
import Derived.Test.YtonleickhincgaaGreatDoorTurnI
import Derived.Test.YtonleickhincgaaGreatDoorWholeR
import Derived.Handy
import Derived.BigRegion
import Derived.Deep.QuietTactic
import Derived.BigQuiet
import Derived.StillTailTactics
import Derived.WalkSmall
import Derived.Laws.Rows
import Derived.Laws.Tables
import Derived.Deep.WholeRow
namespace Go.Proofs.YtonleickhincgaaGreatDoor
open Go.RowKit Go.Lib
set_option linter.unusedVariables false

theorem orN (a b : Nat) (ha : a < 4294967296) (hb : b < 4294967296) : bits .or .u32 (a : Int) (b : Int) = ((a ||| b : Nat) : Int) := by
  show IntKind.u32.wrap ((BitVec.ofInt 32 (a : Int) ||| BitVec.ofInt 32 (b : Int)).toNat : Int) = _
  rw [BitVec.ofInt_natCast, BitVec.ofInt_natCast, BitVec.toNat_or, BitVec.toNat_ofNat, BitVec.toNat_ofNat, Nat.mod_eq_of_lt (by omega), Nat.mod_eq_of_lt (by omega), IntKind.wrap_u32]
  have h : a ||| b < 2 ^ 32 := Nat.or_lt_two_pow (by omega) (by omega)
  omega
theorem or_add (x y : Int) (k : Nat) (hk : k ≤ 32) (x0 : 0 ≤ x) (y0 : 0 ≤ y) (y1 : y < 2 ^ k) (h : x * 2 ^ k + y < 4294967296) : bits .or .u32 (x * 2 ^ k) y = x * 2 ^ k + y := by
  obtain ⟨a, rfl⟩ : ∃ a : Nat, x = a := ⟨x.toNat, by omega⟩
  obtain ⟨b, rfl⟩ : ∃ b : Nat, y = b := ⟨y.toNat, by omega⟩
  have e : ((a : Int) * 2 ^ k) = ((2 ^ k * a : Nat) : Int) := by rw [Int.natCast_mul, Int.natCast_pow, Int.mul_comm]; rfl
  rw [e] at h ⊢
  have hb : b < 2 ^ k := by
    have : (b : Int) < ((2 ^ k : Nat) : Int) := by rw [Int.natCast_pow]; exact y1
    omega
  rw [orN _ _ (by omega) (by omega), ← Nat.two_pow_add_eq_or_of_lt hb]
  omega
def partW (c1 c2 c3 c4 : Int) : Nat → Int
  | 0 => 0
  | 1 => c1
  | 2 => c1 * 256 + c2
  | 3 => c1 * 65536 + c2 * 256 + c3
  | _ => c1 * 16777216 + c2 * 65536 + c3 * 256 + c4
theorem word4_sum {c1 c2 c3 c4 : Int} (h1 : 0 ≤ c1 ∧ c1 ≤ 255) (h2 : 0 ≤ c2 ∧ c2 ≤ 255) (h3 : 0 ≤ c3 ∧ c3 ≤ 255) (h4 : 0 ≤ c4 ∧ c4 ≤ 255) : word4 c1 c2 c3 c4 = partW c1 c2 c3 c4 4 := by
  unfold word4
  have a1 := or_add c1 (c2 * 65536) 24 (by omega) (by omega) (by omega) (by omega) (by omega)
  rw [show (2 : Int) ^ 24 = 16777216 from rfl] at a1
  rw [a1, show c1 * 16777216 + c2 * 65536 = (c1 * 256 + c2) * 2 ^ 16 by omega, or_add _ (c3 * 256) 16 (by omega) (by omega) (by omega) (by omega) (by omega)]
  rw [show (c1 * 256 + c2) * 2 ^ 16 + c3 * 256 = (c1 * 65536 + c2 * 256 + c3) * 2 ^ 8 by omega, or_add _ c4 8 (by omega) (by omega) (by omega) (by omega) (by omega)]
  show _ = c1 * 16777216 + c2 * 65536 + c3 * 256 + c4
  omega
theorem or_byte {x c : Int} (h0 : 0 ≤ x) (h1 : x < 16777216) (c0 : 0 ≤ c) (c1 : c ≤ 255) : bits .or .u32 (x * 256 % 4294967296) c = x * 256 + c := by
  rw [show x * 256 % 4294967296 = x * 2 ^ 8 by omega, or_add x c 8 (by omega) h0 c0 (by omega) (by omega)]; omega
def partB (b : ByteArray) (k j : Nat) : Int := partW (byteAt b (4 * k)) (byteAt b (4 * k + 1)) (byteAt b (4 * k + 2)) (byteAt b (4 * k + 3)) j
theorem partB_bd (b : ByteArray) (k j : Nat) : 0 ≤ partB b k j ∧ partB b k j ≤ 4294967295 := by
  have h1 := byteAt_bd b (4 * k); have h2 := byteAt_bd b (4 * k + 1); have h3 := byteAt_bd b (4 * k + 2); have h4 := byteAt_bd b (4 * k + 3)
  unfold partB
  match j with
  | 0 => simp [partW]
  | 1 => simp only [partW]; omega
  | 2 => simp only [partW]; omega
  | 3 => simp only [partW]; omega
  | j + 4 => simp only [partW]; omega
theorem partB_step (b : ByteArray) (k j : Nat) (hj : j < 4) : bits .or .u32 (partB b k j * 256 % 4294967296) (byteAt b (4 * k + j)) = partB b k (j + 1) := by
  have h1 := byteAt_bd b (4 * k); have h2 := byteAt_bd b (4 * k + 1); have h3 := byteAt_bd b (4 * k + 2); have h4 := byteAt_bd b (4 * k + 3)
  unfold partB
  match j, hj with
  | 0, _ => simp only [partW, Nat.add_zero]; rw [or_byte (by omega) (by omega) h1.1 h1.2]; omega
  | 1, _ => simp only [partW]; rw [or_byte (by omega) (by omega) h2.1 h2.2]
  | 2, _ => simp only [partW]; rw [or_byte (by omega) (by omega) h3.1 h3.2]; omega
  | 3, _ => simp only [partW]; rw [or_byte (by omega) (by omega) h4.1 h4.2]; omega
theorem partB_four (b : ByteArray) (k : Nat) : wordsTo b k ++ [partB b k 4] = wordsTo b (k + 1) := by
  show _ = wordsTo b k ++ [_]
  rw [word4_sum (byteAt_bd b _) (byteAt_bd b _) (byteAt_bd b _) (byteAt_bd b _)]; rfl
theorem uRow_zero (l : List Int) (h : l.length < 64) : uRow (l ++ [0]) = uRow l := by
  unfold uRow
  have e : 64 - l.length = (64 - (l.length + 1)) + 1 := by omega
  rw [List.length_append, List.length_singleton, e, List.replicate_succ]
  simp
theorem uRow_again (l : List Int) (u v : Int) (h : l.length < 64) : (uRow (l ++ [u])).toArray.setIfInBounds l.length (.int .u32 v) = (uRow (l ++ [v])).toArray := by
  unfold uRow
  simp [List.set_append_right]

theorem under64 : Tryz.prog.underlying 252 = some (.array (Tryz.prog.arrayLen 252) (Tryz.prog.elem 252)) := by kernel_rfl
theorem info64 : (Tryz.prog.info? 252).map (·.size) = some 64 := by kernel_rfl
theorem uRow_one (l : List Int) : (uRow l).toArray.all (·.oneCell') = true := by
  simp [uRow, Value.oneCell']
theorem ret_agg {a b : Array Value} (h : a = b) : Ending.returned (.agg a) = .returned (.agg b) := by rw [h]
theorem size_allocN (w : World) (o : Obj) : (w.alloc o).heap.size = w.heap.size + 1 := by simp
set_option maxHeartbeats 1000000 in
set_option maxRecDepth 20000 in
theorem numsI_any (w : World) (gb off cap : Nat) (b : ByteArray) (hcap : 64 ≤ cap) (hg : gb < w.heap.size)
   (hc : ∀ i, i < 64 → w.cell? ⟨gb, off + i, none⟩ = some (.int .u8 (byteAt b i))) :
    Calls Tryz.prog 213 #[.slice (some ⟨gb, off, none⟩) 64 cap] w fun e w' => e = .returned (.agg (uRow (schedTo b 48)).toArray) ∧ Below w.heap.size w w' := by
  have HC : Hid (∀ i, i < 64 → w.cell? ⟨gb, off + i, none⟩ = some (.int .u8 (byteAt b i))) := hc
  clear hc
  go_enter Tryz.func213, Tryz.ntmps213
  obtain ⟨W1, hW1⟩ : ∃ W1, W1 = w.alloc (.cells (uRow []).toArray 252) := ⟨_, rfl⟩
  have HB1 : Hid (Below w.heap.size w W1) := by show Below _ _ _; rw [hW1]; exact (Below.refl _ _).alloc (Nat.le_refl _) _
  have HR1 : Hid (W1.heap[w.heap.size]? = some (.cells (uRow []).toArray 252 (0, 0))) := by show _ = _; rw [hW1]; exact heap_alloc_new w _
  have HS1 : Hid (W1.heap.size = w.heap.size + 1) := by show _ = _; rw [hW1, size_allocN]
  have HG : Hid ((W1.alloc (.cells (uRow []).toArray 252)).heap[w.heap.size + 1]? = some (.cells (uRow []).toArray 252 (0, 0))) := by show _ = _; rw [← HS1.out]; exact heap_alloc_new W1 _
  have HGB : Hid (Below (w.heap.size + 1) W1 (W1.alloc (.cells (uRow []).toArray 252))) := by show Below _ _ _; exact (Below.refl _ _).alloc (Nat.le_of_eq HS1.out.symm) _
  rw [hW1] at HG HGB
  go_wp2
  go_loopw [12] (fun i wr => ∃ k : Nat, k ≤ 16 ∧ i = .int .i64 k ∧ Hid (wr.heap[w.heap.size + 1]? = some (.cells (uRow (wordsTo b k)).toArray 252 (0, 0))) ∧ Hid (Below (w.heap.size + 1) W1 wr)) (fun i _ => 16 - (Go.RowKit.intOf i).toNat)
  case atStart => exact ⟨0, by omega, rfl, HG, hW1 ▸ HGB⟩
  case round =>
    clear HG HGB hW1
    obtain ⟨k, hk, rfl, hrow, hnx⟩ := hrel
    by_cases hlt : k < 16
    · have q1 : (4 : Int) * k + 4 ≤ cap := by omega
      have q2 : ((4 : Int) * k).toNat = 4 * k := by omega
      have q3 : ((4 : Int) * k + 4).toNat = 4 * k + 4 := by omega
      have q4 : ¬ cap = 4 * k := by omega
      have q5 : 4 * k + 4 - 4 * k = 4 := by omega
      go_wp2
      clear q1 q2 q3 q4 q5
      go_loopw [23] (fun i wr => ∃ j : Nat, j ≤ 4 ∧ i = .int .i64 j ∧ Hid (wr.heap[w.heap.size + 1]? = some (.cells (uRow (wordsTo b k ++ [partB b k j])).toArray 252 (0, 0))) ∧ Hid (Below (w.heap.size + 1) W1 wr)) (fun i _ => 4 - (Go.RowKit.intOf i).toNat)
      case atStart => exact ⟨0, by omega, rfl, by show _ = _; rw [show partB b k 0 = 0 from rfl, uRow_zero _ (by rw [wordsTo_len]; omega)]; exact hrow.out, hnx⟩
      case round =>
        clear hrow hnx
        obtain ⟨j, hj, rfl, hrow, hnx⟩ := hrel
        by_cases hjl : j < 4
        · have hck := uRow_cell hrow.out (by rw [List.length_append, wordsTo_len]; show k + 1 ≤ 64; omega) k (by omega)
          have hfk := uRow_free hrow.out k
          have e1 : (wordsTo b k ++ [partB b k j]).getD k 0 = partB b k j := by
            rw [List.getD_eq_getElem?_getD, List.getElem?_append_right (by rw [wordsTo_len]; omega), wordsTo_len]; simp
          rw [e1] at hck
          have hcb : wr.cell? ⟨gb, off + 4 * k + j, none⟩ = some (.int .u8 (byteAt b (4 * k + j))) := by
            rw [hnx.out.cell (p := ⟨gb, off + 4 * k + j, none⟩) (by show gb < _; omega), HB1.out.cell (p := ⟨gb, off + 4 * k + j, none⟩) hg, Nat.add_assoc]
            exact HC.out (4 * k + j) (by omega)
          have hst := partB_step b k j hjl
          have bd := byteAt_bd b (4 * k + j)
          have pd := partB_bd b k j
          have HR : Hid (∀ x c, x = partB b k j → c = byteAt b (4 * k + j) → (wr.setCell ⟨w.heap.size + 1, k, none⟩ (.int .u32 (bits .or .u32 (x * 256 % 4294967296) c))).heap[w.heap.size + 1]? = some (.cells (uRow (wordsTo b k ++ [partB b k (j + 1)])).toArray 252 (0, 0))) := by
            show ∀ _, _
            rintro x c rfl rfl
            rw [hst]
            simp only [World.setCell, Array.getElem?_modify, hrow.out]
            have := uRow_again (wordsTo b k) (partB b k j) (partB b k (j + 1)) (by rw [wordsTo_len]; omega)
            rw [wordsTo_len] at this
            simp [this]
          have HR' := HR.out _ _ rfl rfl
          generalize byteAt b (4 * k + j) = c at *
          generalize partB b k j = x at *
          have HR2 : Hid ((wr.setCell ⟨w.heap.size + 1, k, none⟩ (.int .u32 (bits .or .u32 (x * 256 % 4294967296) c))).heap[w.heap.size + 1]? = some (.cells (uRow (wordsTo b k ++ [partB b k (j + 1)])).toArray 252 (0, 0))) := HR'
          have HN2 : Hid (Below (w.heap.size + 1) W1 (wr.setCell ⟨w.heap.size + 1, k, none⟩ (.int .u32 (bits .or .u32 (x * 256 % 4294967296) c)))) := hnx.out.setCell (Nat.le_refl _) _
          clear HR HR' hst e1 hrow
          obtain ⟨b0, b1⟩ := bd
          obtain ⟨p0, p1⟩ := pd
          have q6 : (k : Int) < 64 := by omega
          have q7 : (j : Int) < 4 := by omega
          go_wp2
          go_roundw
          case rel => exact ⟨j + 1, by omega, by go_num, HR2, HN2⟩
          case measure => simp [Go.RowKit.intOf]; omega
        · have hj4 : j = 4 := by omega
          subst hj4
          rw [partB_four] at hrow
          go_wp2
          go_roundw
          case rel => exact ⟨k + 1, by omega, by go_num, hrow, hnx⟩
          case measure => simp [Go.RowKit.intOf]; omega
    · have hk16 : k = 16 := by omega
      subst hk16
      rw [show ((16 : Nat) : Int) = (16 : Int) from rfl]
      clear hlt hk
      go_wp2
      go_loopw [7] (fun i wr => ∃ m : Nat, 16 ≤ m ∧ m ≤ 64 ∧ i = .int .i64 m ∧ Hid (wr.heap[w.heap.size + 1]? = some (.cells (uRow (schedTo b (m - 16))).toArray 252 (0, 0))) ∧ Hid (Below (w.heap.size + 1) W1 wr)) (fun i _ => 64 - (Go.RowKit.intOf i).toNat)
      case atStart => exact ⟨16, by omega, by omega, rfl, hrow, hnx⟩
      case round =>
        clear hrow hnx
        obtain ⟨m, hm, hk, rfl, hrow, hnx⟩ := hrel
        by_cases hlt : m < 64
        · have hx := uRow_cell hrow.out (by rw [schedTo_len]; omega) (m - 15) (by omega)
          have hy := uRow_cell hrow.out (by rw [schedTo_len]; omega) (m - 2) (by omega)
          have bx := schedTo_in b (m - 16) (m - 15)
          have bY := schedTo_in b (m - 16) (m - 2)
          have bz := schedTo_in b (m - 16) (m - 16)
          have bu := schedTo_in b (m - 16) (m - 7)
          obtain ⟨x, hxe⟩ : ∃ x, x = (schedTo b (m - 16)).getD (m - 15) 0 := ⟨_, rfl⟩
          obtain ⟨y, hye⟩ : ∃ y, y = (schedTo b (m - 16)).getD (m - 2) 0 := ⟨_, rfl⟩
          rw [← hxe] at hx bx
          rw [← hye] at hy bY
          have HX : Hid (x = (schedTo b (m - 16)).getD (m - 15) 0) := hxe
          have HY : Hid (y = (schedTo b (m - 16)).getD (m - 2) 0) := hye
          clear hxe hye
          obtain ⟨x0, x1⟩ := bx
          obtain ⟨y0, y1⟩ := bY
          have i1 : (15 : Int) ≤ (m : Int) := by omega
          have i2 : (m : Int) - 15 < 64 := by omega
          have i3 : (2 : Int) ≤ (m : Int) := by omega
          have i4 : (m : Int) - 2 < 64 := by omega
          have t3 : ((m : Int) - 15).toNat = m - 15 := by omega
          have t4 : ((m : Int) - 2).toNat = m - 2 := by omega
          have jw3 : IntKind.i64.wrap ((m : Int) - 15) = (m : Int) - 15 := by rw [IntKind.wrap_i64]; omega
          have jw4 : IntKind.i64.wrap ((m : Int) - 2) = (m : Int) - 2 := by rw [IntKind.wrap_i64]; omega
          have j1 : (16 : Int) ≤ (m : Int) := by omega
          have j2 : (m : Int) - 16 < 64 := by omega
          have j3 : (7 : Int) ≤ (m : Int) := by omega
          have j4 : (m : Int) - 7 < 64 := by omega
          have j5 : (m : Int) < 64 := by omega
          have t1 : ((m : Int) - 16).toNat = m - 16 := by omega
          have t2 : ((m : Int) - 7).toNat = m - 7 := by omega
          have jw1 : IntKind.i64.wrap ((m : Int) - 16) = (m : Int) - 16 := by rw [IntKind.wrap_i64]; omega
          have jw2 : IntKind.i64.wrap ((m : Int) - 7) = (m : Int) - 7 := by rw [IntKind.wrap_i64]; omega
          go_wp2
          go_quiet (fail)
          go_wp2_with (go_at_call 214; refine (turnI_c _ _ _ (by assumption) (by assumption) (by decide) (by decide)).mono ?_; rintro e w' ⟨rfl, rfl⟩)
          generalize hwq : wr.drewN nq = wq
          have hrow2 : Hid (wq.heap[w.heap.size + 1]? = some (.cells (uRow (schedTo b (m - 16))).toArray 252 (0, 0))) := by show _ = _; rw [← hwq]; exact hrow.out
          have hnx2 : Hid (Below (w.heap.size + 1) W1 wq) := by show Below _ _ _; rw [← hwq]; exact below_drewN hnx.out nq
          clear hwq hrow hnx hx hy
          have hz := uRow_cell hrow2.out (by rw [schedTo_len]; omega) (m - 16) (by omega)
          have hu := uRow_cell hrow2.out (by rw [schedTo_len]; omega) (m - 7) (by omega)
          have hv := uRow_cell hrow2.out (by rw [schedTo_len]; omega) m (by omega)
          have hf := uRow_free hrow2.out m
          have hq : Hid (schedTo b ((m - 16) + 1) = schedTo b (m - 16) ++ [((schedTo b (m - 16)).getD (m - 16) 0 + sigA ((schedTo b (m - 16)).getD (m - 15) 0) + (schedTo b (m - 16)).getD (m - 7) 0 + sigB ((schedTo b (m - 16)).getD (m - 2) 0)) % 4294967296]) := by
            show schedTo b ((m - 16) + 1) = _
            show _ ++ [nextW _ (16 + (m - 16))] = _
            rw [show 16 + (m - 16) = m from by omega]; rfl
          rw [← HX.out, ← HY.out] at hq
          generalize (schedTo b (m - 16)).getD (m - 16) 0 = z at *
          generalize (schedTo b (m - 16)).getD (m - 7) 0 = u at *
          generalize (schedTo b (m - 16)).getD m 0 = v at *
          obtain ⟨z0, z1⟩ := bz
          obtain ⟨u0, u1⟩ := bu
          have HW : Hid ((wq.setCell ⟨w.heap.size + 1, m, none⟩ (.int .u32 ((z + sigA x + u + sigB y) % 4294967296))).drew.heap[w.heap.size + 1]? = some (.cells (uRow (schedTo b (m + 1 - 16))).toArray 252 (0, 0))) := by
            show (wq.setCell ⟨w.heap.size + 1, m, none⟩ (.int .u32 ((z + sigA x + u + sigB y) % 4294967296))).heap[w.heap.size + 1]? = _
            rw [blk_set hrow2.out]
            have := uRow_set (schedTo b (m - 16)) ((z + sigA x + u + sigB y) % 4294967296) (by rw [schedTo_len]; omega)
            rw [schedTo_len, show 16 + (m - 16) = m from by omega] at this
            rw [this, show m + 1 - 16 = (m - 16) + 1 from by omega, hq.out]
          have HBl : Hid (Below (w.heap.size + 1) W1 (wq.setCell ⟨w.heap.size + 1, m, none⟩ (.int .u32 ((z + sigA x + u + sigB y) % 4294967296))).drew) := (hnx2.out.setCell (Nat.le_refl _) _).drew
          clear hq
          refine wp_region_still_tail 15 (by kernel_rfl) (by kernel_rfl) ?_
          simp only [List.take_succ_cons, List.take_zero, List.drop_succ_cons, List.drop_zero]
          repeat still_step
          refine wpStill_nil ?_
          go_wp2
          go_roundw
          case rel => exact ⟨m + 1, by omega, by omega, by go_num, HW, HBl⟩
          case measure => simp [Go.RowKit.intOf]; omega
        · have hm64 : m = 64 := by omega
          subst hm64
          rw [show ((64 : Nat) : Int) = (64 : Int) from rfl]
          clear hlt hk hm
          have h64 : (uRow (schedTo b 48)).toArray.size = 64 := by rw [List.size_toArray, uRow_len _ (by rw [schedTo_len]; omega)]
          have hRow : wr.heap[w.heap.size + 1]? = some (.cells (uRow (schedTo b 48)).toArray 252 (0, 0)) := hrow.out
          have hld := run_loadVar_row (P := Tryz.prog) wr (w.heap.size + 1) 252 252 _ (0, 0) _ hRow under64 rfl (by rw [h64]; exact info64)
          have hR0 : wr.heap[w.heap.size]? = some (.cells (uRow []).toArray 252 (0, 0)) := (hnx.out.block _ (Nat.lt_succ_self _)).trans HR1.out
          have hst := run_storeVar_row (P := Tryz.prog) wr w.heap.size 252 252 _ (uRow (schedTo b 48)).toArray hR0 (by rw [h64]; exact info64) (by rw [h64]; rfl) (uRow_one _)
          have hR1 := setRow_heap wr w.heap.size _ (uRow (schedTo b 48)).toArray 252 _ hR0
          have hld2 := run_loadVar_row (P := Tryz.prog) (wr.setRow w.heap.size (uRow (schedTo b 48)).toArray) w.heap.size 252 252 _ (0, 0) _ hR1 under64 rfl (by rw [h64]; exact info64)
          have hbe : Hid (Below w.heap.size w (wr.setRow w.heap.size (uRow (schedTo b 48)).toArray)) := below_setRow (HB1.out.trans (hnx.out.mono (Nat.le_succ _))) (Nat.le_refl _) _
          generalize hRE : (uRow (schedTo b 48)).toArray = row at *
          have HRE : Hid ((uRow (schedTo b 48)).toArray = row) := hRE
          clear hRE
          have HL : Hid ((loadVar 252 ⟨w.heap.size + 1, 0, none⟩).run Tryz.prog wr = .ok (.agg row) wr) := hld
          have HT : Hid ((storeVar 252 ⟨w.heap.size, 0, none⟩ (.agg row)).run Tryz.prog wr = .ok () (wr.setRow w.heap.size row)) := hst
          have HL2 : Hid ((loadVar 252 ⟨w.heap.size, 0, none⟩).run Tryz.prog (wr.setRow w.heap.size row) = .ok (.agg row) (wr.setRow w.heap.size row)) := hld2
          generalize wr.setRow w.heap.size row = wz at *
          clear hld hst hld2 hR0 hR1 hRow h64 hrow hnx HR1
          go_wp2_with (first | refine wpList_load_row rfl 252 _ rfl ⟨w.heap.size + 1, 0, none⟩ _ rfl HL.out ?_ | refine wpList_store_row rfl 252 _ _ rfl rfl ⟨w.heap.size, 0, none⟩ _ wz rfl rfl HT.out ?_)
          refine bodyPost_cell rfl rfl rfl HL2.out ⟨ret_agg HRE.out.symm, hbe.out⟩
end Go.Proofs.YtonleickhincgaaGreatDoor
