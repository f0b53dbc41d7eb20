/-
  What DrawMac, DrawDigest, DrawStretch and lwPad answer: two texts; a text; a text and an int64; 'padK'.
  Conditions: the code's bytes are there, at most 2^20 of them.
-/
import Derived.Test.YtjdgeiddbmmckaaDoorRows
import Derived.Test.YtjdgeiddbmmckaaDoorBytes
import Derived.Test.YtjdgeiddbmmckaaDoorSrc
import Derived.Test.YtjdgeiddbmmckaaDoorDraws
import Derived.Test.YtjdgeiddbmmckaaDoorDrawKit
import Derived.Test.YtjdgeiddbmmckaaDoorPadI
import Derived.Test.YtjdgeiddbmmckaaDoorMacMath
import Derived.Test.YtjdgeiddbmmckaaDoorMac2
import Derived.Handy
import Derived.WalkSpells
import Derived.Deep.RegionWith
namespace Go.Proofs.YtjdgeiddbmmckaaDoor
open Go.RowKit Go.Lib
set_option linter.unusedVariables false
set_option maxRecDepth 20000

set_option maxHeartbeats 1000000 in
theorem lwPad_any (key : ByteArray) (m : Int) (w : World) (hk : key.size ≤ 64) (m0 : 0 ≤ m) (m1 : m ≤ 255) :
    Calls Tryd.prog 15 #[.string key, .int .u8 m] w fun e w' => e = .returned (.string (padK key m)) ∧ Below w.heap.size w w' := by
  have hmk := run_make_64
  obtain ⟨w2, hcp, hrow2, hbel⟩ := copy_str (P := Tryd.prog) (w.alloc (.cells (zrow 64).toArray 5)) 22 9 3 5 Tryd.underlying22 sizeU8q w.heap.size 0 64 64 key (zrow 64) 5 (heap_alloc_new w _) (by omega) (by simp [zrow]; omega)
  have HB2 : Hid (Below w.heap.size w w2) := hbel w.heap.size w ((Below.refl _ _).alloc (Nat.le_refl _) _) (Nat.le_refl _)
  rw [pad_zero key 64 hk, kPart_zero key m hk] at hrow2
  have HR2 : Hid (w2.heap[w.heap.size]? = some (.cells (rowN (kPart key m 0)).toArray 5 (0, 0))) := hrow2
  have HP : Hid (padK key m = strOfNums (kPart key m 64)) := rfl
  clear hrow2 hbel
  go_enter Tryd.func15, Tryd.ntmps15
  go_wp2
  go_loopw [6] (fun x wr => ∃ k : Nat, k ≤ 64 ∧ x = .int .i64 k ∧ Hid (wr.heap[w.heap.size]? = some (.cells (rowN (kPart key m k)).toArray 5 (0, 0))) ∧ Hid (Below w.heap.size w wr)) (fun x _ => 64 - (intOf x).toNat)
  case atStart => exact ⟨0, by omega, rfl, HR2, HB2⟩
  case round =>
    clear HR2 HB2 hmk hcp
    obtain ⟨k, hk2, rfl, hrow, hnx⟩ := hrel
    by_cases hlt : k < 64
    · obtain ⟨hc, hf⟩ := kRow_cell hrow.out hlt
      have hbd := byteAt_bd key k
      have hset := kPart_set key m k hlt
      have H0 : ∀ x, x = byteAt key k → (wr.setCell ⟨w.heap.size, k, none⟩ (.int .u8 (bits .xor .u8 x m))).heap[w.heap.size]? = some (.cells (rowN (kPart key m (k + 1))).toArray 5 (0, 0)) := by
        rintro x rfl; rw [blk_set hrow.out, hset]
      have H1 := H0 _ rfl
      clear H0 hset
      generalize byteAt key k = c at *
      have HR : Hid ((wr.setCell ⟨w.heap.size, k, none⟩ (.int .u8 (bits .xor .u8 c m))).heap[w.heap.size]? = some (.cells (rowN (kPart key m (k + 1))).toArray 5 (0, 0))) := H1
      have HB : Hid (Below w.heap.size w (wr.setCell ⟨w.heap.size, k, none⟩ (.int .u8 (bits .xor .u8 c m)))) := hnx.out.setCell (Nat.le_refl _) _
      clear H1
      have j : (k : Int) < 64 := by omega
      go_wp2
      go_roundw
      case rel => exact ⟨k + 1, by omega, by go_num, HR, HB⟩
      case measure => simp [intOf]; omega
    · have hk64 : k = 64 := by omega
      subst hk64
      have hconv := conv_row hrow.out 64 64 (kPart_len _ _ _)
      rw [← HP.out] at hconv
      go_wp2
      go_ret
      exact ⟨rfl, hnx.out⟩


set_option maxHeartbeats 2000000 in
theorem drawMac_any (B : Nat) (a : Option Addr) (len cap : Nat) (w : World) (hlen : len ≤ 1048576) (hB : B ≤ w.heap.size) (hc : CodeAt B a len w) :
    Calls Tryd.prog 13 #[.slice a len cap] w fun e w' => (∃ k t : ByteArray, e = .returned (.tuple #[.string k, .string t]) ∧ k.size ≤ 65 ∧ t.size ≤ 99) ∧ Below w.heap.size w w' := by
  have HC : Hid (CodeAt B a len w) := hc
  clear hc
  go_enter Tryd.func13, Tryd.ntmps13
  go_wp2_with fail
  refine (source_any B a len cap w hlen hB HC.out).mono ?_
  rintro e w1 ⟨rfl, hs1, hb1⟩
  have H1 : Hid (Src 60 B w.heap.size a len cap w1) := hs1
  clear hs1
  go_wp2_with fail
  refine (n_any B w.heap.size a len cap 20 _ H1.out (by omega)).mono ?_
  rintro e w2 ⟨⟨r, rfl, hr0, hr1, _⟩, hs2, hg2⟩
  have hr2 : r < 20 := hr1 (by omega)
  have H2 : Hid (Src 60 B w.heap.size a len cap w2) := hs2
  have hb2 := below_touch hb1 hg2 (Nat.le_refl _)
  clear hs2 hg2 hb1 H1 hr1
  go_wp2_with fail
  refine (bytes_any B w.heap.size a len cap r _ H2.out (by omega)).mono ?_
  rintro e w3 ⟨⟨key, rfl, hkey⟩, hs3, hg3⟩
  have HK : Hid (key.size = r.toNat) := hkey
  have H3 : Hid (Src 60 B w.heap.size a len cap w3) := hs3
  have hb3 := below_touch hb2 hg3 (Nat.le_refl _)
  clear hs3 hg3 hb2 H2 hkey
  go_wp2_with fail
  refine (one_any B w.heap.size a len cap 6 _ H3.out (by omega)).mono ?_
  rintro e w4 ⟨⟨q, rfl⟩, hs4, hg4⟩
  have H4 : Hid (Src 60 B w.heap.size a len cap w4) := hs4
  have hb4 := below_touch hb3 hg4 (Nat.le_refl _)
  clear hs4 hg4 hb3 H3
  cases q
  · go_wp2_with fail
    refine (n_any B w.heap.size a len cap 100 _ H4.out (by omega)).mono ?_
    rintro e w5 ⟨⟨r5, rfl, hr50, hr51, _⟩, hs5, hg5⟩
    have hr52 : r5 < 100 := hr51 (by omega)
    have H5 : Hid (Src 60 B w.heap.size a len cap w5) := hs5
    have hb5 := below_touch hb4 hg5 (Nat.le_refl _)
    clear hs5 hg5 hb4 H4 hr51
    go_wp2_with fail
    refine (bytes_any B w.heap.size a len cap r5 _ H5.out (by omega)).mono ?_
    rintro e w6 ⟨⟨t, rfl, ht⟩, hs6, hg6⟩
    have HT : Hid (t.size = r5.toNat) := ht
    have hb6 := below_touch hb5 hg6 (Nat.le_refl _)
    clear hs6 hg6 hb5 H5 ht
    go_wp2_with fail
    go_ret2
    exact ⟨⟨key, t, rfl, by have := HK.out; omega, by have := HT.out; omega⟩, hb6⟩
  · go_wp2_with fail
    refine (n_any B w.heap.size a len cap 3 _ H4.out (by omega)).mono ?_
    rintro e w5 ⟨⟨r5, rfl, hr50, hr51, _⟩, hs5, hg5⟩
    have hr52 : r5 < 3 := hr51 (by omega)
    have H5 : Hid (Src 60 B w.heap.size a len cap w5) := hs5
    have hb5 := below_touch hb4 hg5 (Nat.le_refl _)
    clear hs5 hg5 hb4 H4 hr51
    obtain ⟨k, rfl⟩ := Int.eq_ofNat_of_zero_le hr50
    have hmk : ∀ W : World, (Instr.makeSlice 22 (.int .i64 (63 + (k : Int))) (.int .i64 (63 + (k : Int)))).run Tryd.prog W = .ok (.slice (some ⟨W.heap.size, 0, none⟩) (63 + k) (63 + k)) (W.alloc (.cells (zrow (63 + k)).toArray 5)) := by
      intro W
      have := run_make_u8s (63 + k) (by omega) W
      rw [show (((63 + k : Nat)) : Int) = 63 + (k : Int) by omega] at this
      exact this
    have hzc := zconv (63 + k) w5
    have HZ : Hid ((strOfNums (List.replicate (63 + k) 0)).size ≤ 65) := by show _ ≤ _; rw [strOfNums_size, List.length_replicate]; omega
    generalize strOfNums (List.replicate (63 + k) 0) = zs at *
    have H5a : Hid (Src 60 B w.heap.size a len cap (w5.alloc (.cells (zrow (63 + k)).toArray 5))) := H5.out.below ((Below.refl _ _).alloc (Nat.le_refl _) _)
    have hb5a : Below w.heap.size w (w5.alloc (.cells (zrow (63 + k)).toArray 5)) := hb5.alloc hb5.size _
    go_wp2_with fail
    refine (n_any B w.heap.size a len cap 100 _ H5a.out (by omega)).mono ?_
    rintro e w6 ⟨⟨r6, rfl, hr60, hr61, _⟩, hs6, hg6⟩
    have hr62 : r6 < 100 := hr61 (by omega)
    have H6 : Hid (Src 60 B w.heap.size a len cap w6) := hs6
    have hb6 := below_touch hb5a hg6 (Nat.le_refl _)
    clear hs6 hg6 hb5 hb5a H5 H5a hr61 hmk hzc
    go_wp2_with fail
    refine (bytes_any B w.heap.size a len cap r6 _ H6.out (by omega)).mono ?_
    rintro e w7 ⟨⟨t, rfl, ht⟩, hs7, hg7⟩
    have HT : Hid (t.size = r6.toNat) := ht
    have hb7 := below_touch hb6 hg7 (Nat.le_refl _)
    clear hs7 hg7 hb6 H6 ht
    go_wp2_with fail
    go_ret2
    exact ⟨⟨_, t, rfl, HZ.out, by have := HT.out; omega⟩, hb7⟩

set_option maxHeartbeats 2000000 in
theorem drawDigest_any (B : Nat) (a : Option Addr) (len cap : Nat) (w : World) (hlen : len ≤ 1048576) (hB : B ≤ w.heap.size) (hc : CodeAt B a len w) :
    Calls Tryd.prog 17 #[.slice a len cap] w fun e w' => (∃ t : ByteArray, e = .returned (.string t) ∧ t.size ≤ 199) ∧ Below w.heap.size w w' := by
  have HC : Hid (CodeAt B a len w) := hc
  clear hc
  go_enter Tryd.func17, Tryd.ntmps17
  go_wp2_with fail
  refine (source_any B a len cap w hlen hB HC.out).mono ?_
  rintro e w1 ⟨rfl, hs1, hb1⟩
  have H1 : Hid (Src 60 B w.heap.size a len cap w1) := hs1
  clear hs1
  go_wp2_with fail
  refine (n_any B w.heap.size a len cap 200 _ H1.out (by omega)).mono ?_
  rintro e w2 ⟨⟨r, rfl, hr0, hr1, _⟩, hs2, hg2⟩
  have hr2 : r < 200 := hr1 (by omega)
  have H2 : Hid (Src 60 B w.heap.size a len cap w2) := hs2
  have hb2 := below_touch hb1 hg2 (Nat.le_refl _)
  clear hs2 hg2 hb1 H1 hr1
  go_wp2_with fail
  refine (bytes_any B w.heap.size a len cap r _ H2.out (by omega)).mono ?_
  rintro e w3 ⟨⟨t, rfl, ht⟩, hs3, hg3⟩
  have HT : Hid (t.size = r.toNat) := ht
  have hb3 := below_touch hb2 hg3 (Nat.le_refl _)
  clear hs3 hg3 hb2 H2 ht
  go_wp2_with fail
  go_ret
  exact ⟨⟨t, rfl, by have := HT.out; omega⟩, hb3⟩

theorem edge5 (r : Int) (r0 : -9223372036854775808 ≤ r) (r1 : r ≤ 9223372036854775807) : ∀ k : Nat, k < 5 → ∃ v : Int, (#[.int .i64 0, .int .i64 1, .int .i64 100, .int .i64 101, .int .i64 r] : Array Value)[k]? = some (.int .i64 v) ∧ -9223372036854775808 ≤ v ∧ v ≤ 9223372036854775807
  | 0, _ => ⟨_, rfl, by omega, by omega⟩
  | 1, _ => ⟨_, rfl, by omega, by omega⟩
  | 2, _ => ⟨_, rfl, by omega, by omega⟩
  | 3, _ => ⟨_, rfl, by omega, by omega⟩
  | 4, _ => ⟨_, rfl, r0, r1⟩

set_option maxHeartbeats 2000000 in
theorem drawStretch_any (B : Nat) (a : Option Addr) (len cap : Nat) (w : World) (hlen : len ≤ 1048576) (hB : B ≤ w.heap.size) (hc : CodeAt B a len w) :
    Calls Tryd.prog 18 #[.slice a len cap] w fun e w' => (∃ (t : ByteArray) (n : Int), e = .returned (.tuple #[.string t, .int .i64 n]) ∧ t.size ≤ 8 ∧ -9223372036854775808 ≤ n ∧ n ≤ 9223372036854775807) ∧ Below w.heap.size w w' := by
  have HC : Hid (CodeAt B a len w) := hc
  clear hc
  go_enter Tryd.func18, Tryd.ntmps18
  go_wp2_with fail
  refine (source_any B a len cap w hlen hB HC.out).mono ?_
  rintro e w1 ⟨rfl, hs1, hb1⟩
  have H1 : Hid (Src 60 B w.heap.size a len cap w1) := hs1
  clear hs1
  go_wp2_with fail
  refine (n_any B w.heap.size a len cap 9 _ H1.out (by omega)).mono ?_
  rintro e w2 ⟨⟨r, rfl, hr0, hr1, _⟩, hs2, hg2⟩
  have hr2 : r < 9 := hr1 (by omega)
  have H2 : Hid (Src 60 B w.heap.size a len cap w2) := hs2
  have hb2 := below_touch hb1 hg2 (Nat.le_refl _)
  clear hs2 hg2 hb1 H1 hr1
  go_wp2_with fail
  refine (bytes_any B w.heap.size a len cap r _ H2.out (by omega)).mono ?_
  rintro e w3 ⟨⟨t, rfl, ht⟩, hs3, hg3⟩
  have HT : Hid (t.size = r.toNat) := ht
  have H3 : Hid (Src 60 B w.heap.size a len cap w3) := hs3
  have hb3 := below_touch hb2 hg3 (Nat.le_refl _)
  clear hs3 hg3 hb2 H2 ht
  go_wp2_with fail
  refine (one_any B w.heap.size a len cap 6 _ H3.out (by omega)).mono ?_
  rintro e w4 ⟨⟨q, rfl⟩, hs4, hg4⟩
  have H4 : Hid (Src 60 B w.heap.size a len cap w4) := hs4
  have hb4 := below_touch hb3 hg4 (Nat.le_refl _)
  clear hs4 hg4 hb3 H3
  cases q
  · go_wp2_with fail
    refine (n_any B w.heap.size a len cap 9 _ H4.out (by omega)).mono ?_
    rintro e w5 ⟨⟨r5, rfl, hr50, hr51, _⟩, hs5, hg5⟩
    have hr52 : r5 < 9 := hr51 (by omega)
    have hb5 := below_touch hb4 hg5 (Nat.le_refl _)
    clear hs5 hg5 hb4 H4 hr51
    go_wp2_with fail
    go_ret2
    exact ⟨⟨t, _, rfl, by have := HT.out; omega, by omega, by omega⟩, hb5⟩
  · have hp := H4.out.lt
    go_wp2_with fail
    go_region_with (first
      | (go_at_call 34; refine (edge_any B w.heap.size a len cap _ (H4.out.below ((Below.refl _ _).drew))).mono ?_; rintro e w5 ⟨⟨r5, rfl, r50, r51⟩, hs5, hg5⟩)
      | (go_at_call 28; refine (n_any B w.heap.size a len cap 5 _ (by first | exact hs5 | exact hs5.below ((Below.refl _ _).alloc (Nat.le_refl _) _)) (by omega)).mono ?_; rintro e w6 ⟨⟨r6, rfl, q0, q1, _⟩, hs6, hg6⟩; obtain ⟨k, rfl⟩ := Int.eq_ofNat_of_zero_le q0; have q2 := q1 (by omega); obtain ⟨v, hv, v0, v1⟩ := edge5 r5 r50 r51 k (by omega); first | (have hcell := hg6.cell_far ⟨w5.heap.size, k, none⟩ (by simp) (by simp; have := hs5.lt; omega); rw [World.cell?_alloc_mark, hv] at hcell) | skip))
    · go_wp2
      go_ret2
      exact ⟨⟨t, v, rfl, by have := HT.out; omega, v0, v1⟩, below_touch (below_touch hb4.drew hg5 (Nat.le_refl _) |>.alloc (Nat.le_trans hb4.size hg5.size) _) hg6 (Nat.le_refl _)⟩
    · go_wp2
      go_ret2
      exact ⟨⟨t, v, rfl, by have := HT.out; omega, v0, v1⟩, (below_touch (below_touch hb4.drew hg5 (Nat.le_refl _)) hg6 (Nat.le_refl _)).alloc (Nat.le_trans (Nat.le_trans hb4.size hg5.size) hg6.size) _⟩
end Go.Proofs.YtjdgeiddbmmckaaDoor
