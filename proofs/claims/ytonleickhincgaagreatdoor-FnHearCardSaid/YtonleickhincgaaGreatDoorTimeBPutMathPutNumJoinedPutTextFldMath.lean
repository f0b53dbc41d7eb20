/-
  Parts of one proof, laid as one text: TimeB, PutMath, PutNum, Joined, PutText, FldMath; what each says stands at its head.
-/
import Derived.Test.YtonleickhincgaaGreatDoorRows
import Derived.Handy
import Derived.WalkKit
import Derived.ProofKit
import Derived.Below
import Derived.Laws.BitsAllLaws
import Derived.Laws.BytesArg
import Derived.Lib.Strings
import Derived.Test.YtonleickhincgaaGreatDoorBytesDigMath
import Derived.WalkSpells
import Derived.Deep.AppendLies
import Derived.Test.YtonleickhincgaaGreatDoorTreeMathSlABxKSlBOwnS
import Derived.Test.YtonleickhincgaaGreatDoorNameRight
import Derived.OwnWalk
/-
  A time, as a plain test.
-/
namespace Go.Proofs.YtonleickhincgaaGreatDoor

def timeB (at_ : Int) : Bool := decide (0 ≤ at_ ∧ at_ ≤ 1000000)
end Go.Proofs.YtonleickhincgaaGreatDoor
/-
  The bytes of a number, in plain mathematics: 'fold' lays the sign at the foot, 'putI' cuts into groups of seven bits.
-/
namespace Go.Proofs.YtonleickhincgaaGreatDoor
open Go.RowKit Go.Lib
set_option linter.unusedVariables false

def foldN (n : Int) : Int := if 0 ≤ n then 2 * n else -2 * n - 1
def putI : Nat → Int → List Int
  | 0, u => [u]
  | f + 1, u => if u < 128 then [u] else (u % 128 + 128) :: putI f (u / 128)
def putB (n : Int) : ByteArray := strOfNums (putI 9 (foldN n))

theorem foldN_bd {n : Int} (h0 : -9223372036854775808 ≤ n) (h1 : n ≤ 9223372036854775807) : 0 ≤ foldN n ∧ foldN n ≤ 18446744073709551615 := by
  unfold foldN; split <;> omega

/-- What a loop over the groups knows: k groups are done ('pre'), 'u' is left. -/
def PutTo (u0 : Int) (k : Nat) (pre : List Int) (u : Int) : Prop :=
  k ≤ 9 ∧ pre.length = k ∧ 0 ≤ u ∧ u * 128 ^ k < 18446744073709551616 ∧ putI 9 u0 = pre ++ putI (9 - k) u ∧ (∀ x ∈ pre, 0 ≤ x ∧ x ≤ 255) ∧ u ≤ u0

theorem putTo_start {u0 : Int} (h0 : 0 ≤ u0) (h1 : u0 ≤ 18446744073709551615) : PutTo u0 0 [] u0 :=
  ⟨by omega, rfl, h0, by simp; omega, rfl, by simp, Int.le_refl _⟩

theorem putTo_more {u0 : Int} {k : Nat} {pre : List Int} {u : Int} (h : PutTo u0 k pre u) (hu : 128 ≤ u) : k ≤ 8 := by
  obtain ⟨hk, _, _, hb, _⟩ := h
  rcases Nat.lt_or_ge 8 k with h9 | h9
  · have : k = 9 := by omega
    subst this
    have : (128 : Int) ^ 9 = 9223372036854775808 := by decide
    rw [this] at hb; omega
  · exact h9

theorem putTo_step {u0 : Int} {k : Nat} {pre : List Int} {u : Int} (h : PutTo u0 k pre u) (hu : 128 ≤ u) : PutTo u0 (k + 1) (pre ++ [u % 128 + 128]) (u / 128) := by
  have hk := putTo_more h hu
  obtain ⟨_, hl, h0, hb, hp, hx, hle⟩ := h
  refine ⟨by omega, by simp [hl], by omega, ?_, ?_, ?_, by omega⟩
  · have e : (128 : Int) ^ (k + 1) = 128 ^ k * 128 := Int.pow_succ _ _
    have hpos : (0 : Int) < 128 ^ k := Int.pow_pos (by decide)
    have hd : u / 128 * 128 ≤ u := Int.ediv_mul_le _ (by decide)
    have : u / 128 * (128 ^ k * 128) = (u / 128 * 128) * 128 ^ k := by rw [Int.mul_comm (128 ^ k) 128, ← Int.mul_assoc]
    rw [e, this]
    exact Int.lt_of_le_of_lt (Int.mul_le_mul_of_nonneg_right hd (Int.le_of_lt hpos)) hb
  · rw [hp, List.append_assoc]
    have : 9 - k = (9 - (k + 1)) + 1 := by omega
    rw [this, putI, if_neg (by omega)]; rfl
  · intro x hx'
    rcases List.mem_append.1 hx' with h | h
    · exact hx x h
    · simp at h; subst h; omega

theorem putTo_end {u0 : Int} {k : Nat} {pre : List Int} {u : Int} (h : PutTo u0 k pre u) (hu : u < 128) : putI 9 u0 = pre ++ [u] := by
  obtain ⟨hk, hl, h0, hb, hp, _⟩ := h
  rw [hp]
  congr 1
  cases e : 9 - k with
  | zero => rfl
  | succ m => rw [putI, if_pos hu]

theorem or128 (x : Int) (h0 : 0 ≤ x) : bits .or .u8 (x % 256) 128 = x % 128 + 128 := by
  have key : ∀ y : Fin 256, bits .or .u8 ((y.val : Nat) : Int) 128 = ((y.val % 128 + 128 : Nat) : Int) := by decide +kernel
  have hy : (x % 256).toNat < 256 := by omega
  have := key ⟨(x % 256).toNat, hy⟩
  simp only at this
  rw [show (((x % 256).toNat : Nat) : Int) = x % 256 by omega] at this
  rw [this]; omega

theorem u64max : IntKind.u64.max = 18446744073709551615 := by decide
theorem fold_xor (n : Int) (h0 : n < 0) (h1 : -9223372036854775808 ≤ n) :
    bits .xor .u64 IntKind.u64.max (IntKind.u64.wrap (IntKind.u64.wrap n * 2)) = foldN n := by
  have e1 : IntKind.u64.wrap (IntKind.u64.wrap n * 2) = ((2 * n + 18446744073709551616).toNat : Int) := by
    simp [IntKind.wrap, IntKind.bits, IntKind.signed]; omega
  rw [e1, u64max]
  generalize hm : (2 * n + 18446744073709551616).toNat = m
  have hm' : m < 18446744073709551616 := by omega
  have : bits .xor .u64 18446744073709551615 (m : Int) = 18446744073709551615 - (m : Int) := by
    show IntKind.u64.wrap ((BitVec.ofInt 64 18446744073709551615 ^^^ BitVec.ofInt 64 (m : Int)).toNat : Int) = _
    have h2 : BitVec.ofInt 64 18446744073709551615 = BitVec.allOnes 64 := by decide
    rw [h2, BitVec.allOnes_xor, BitVec.toNat_not, BitVec.ofInt_natCast, BitVec.toNat_ofNat, Nat.mod_eq_of_lt (by omega)]
    simp [IntKind.wrap, IntKind.bits, IntKind.signed]; omega
  rw [this]; unfold foldN; rw [if_neg (by omega)]; omega

/-- The program's array of ten bytes, the first of them laid. -/
def arr10 (pre : List Int) : List Value := pre.map (Value.int .u8) ++ List.replicate (10 - pre.length) (.int .u8 0)
theorem arr10_nil : (arr10 []).toArray = #[.int .u8 0, .int .u8 0, .int .u8 0, .int .u8 0, .int .u8 0, .int .u8 0, .int .u8 0, .int .u8 0, .int .u8 0, .int .u8 0] := rfl
theorem arr10_set (pre : List Int) (x : Int) (h : pre.length < 10) : ((arr10 pre).toArray.setIfInBounds pre.length (.int .u8 x)) = (arr10 (pre ++ [x])).toArray := by
  rw [List.setIfInBounds_toArray]
  congr 1
  unfold arr10
  rw [List.set_append_right _ _ (by simp)]
  have e : 10 - pre.length = (10 - (pre ++ [x]).length) + 1 := by simp; omega
  rw [e, List.replicate_succ]
  simp
theorem arr10_cell {w : World} {g : Nat} {T : TypeId} {pre : List Int} (h : w.heap[g]? = some (.cells (arr10 pre).toArray T (0, 0))) (hl : pre.length < 10) :
    w.cell? ⟨g, pre.length, none⟩ = some (.int .u8 0) ∧ w.frozen? ⟨g, pre.length, none⟩ = false := by
  have e : 10 - pre.length = (9 - pre.length) + 1 := by omega
  constructor
  · simp [World.cell?, h, arr10]; rw [e, List.replicate_succ]; simp
  · simp [World.frozen?, h]
theorem arr10_at {w : World} {g : Nat} {T : TypeId} {pre : List Int} (h : w.heap[g]? = some (.cells (arr10 pre).toArray T (0, 0))) (i : Nat) (hi : i < pre.length) :
    w.cell? ⟨g, 0 + i, none⟩ = some (.int .u8 (pre.getD i 0)) := by
  simp [World.cell?, h, arr10, List.getElem?_append_left, hi]
end Go.Proofs.YtonleickhincgaaGreatDoor
/-
  What PutNum answers, in the program and in the specification: the bytes 'putB n', in new memory.
  Conditions: n is an int64.
-/
namespace Go.Proofs.YtonleickhincgaaGreatDoor
open Go.RowKit Go.Lib
set_option linter.unusedVariables false

theorem ret_intP {k : IntKind} {a b : Int} (h : a = b) : Ending.returned (.int k a) = .returned (.int k b) := by rw [h]
theorem infoU8p : (Tryz.prog.info? 5).map (fun i => (i.zero, i.size, i.bytes)) = some (some (.int .u8 0), 1, 1) := by kernel_rfl

set_option maxHeartbeats 400000 in
theorem specFold_any (n : Int) (w : World) (h0 : -9223372036854775808 ≤ n) (h1 : n ≤ 9223372036854775807) :
    Calls Tryz.prog 167 #[.int .i64 n] w fun e w' => e = .returned (.int .u64 (foldN n)) ∧ w' = w := by
  by_cases hn : 0 ≤ n
  · have H : Hid (foldN n = 2 * n) := if_pos hn
    go_enter Tryz.func167, Tryz.ntmps167
    go_wp2
    go_ret
    exact ⟨ret_intP H.out.symm, rfl⟩
  · have H : Hid (foldN n = -2 * n - 1) := if_neg hn
    go_enter Tryz.func167, Tryz.ntmps167
    go_wp2
    go_ret
    exact ⟨ret_intP (by rw [H.out]; omega), rfl⟩

theorem own_conv {w : World} {base g k cap : Nat} {xs : List Int} (h : w.ownsRow base 5 1 (.slice (some ⟨g, 0, none⟩) k cap) k (xs.map (Value.int .u8))) (hl : xs.length = k) :
    (convert 22 9 (.slice (some ⟨g, 0, none⟩) k cap)).run Tryz.prog w = .ok (.string (strOfNums xs)) w :=
  run_convert_bytes_arg (P := Tryz.prog) w 22 5 Tryz.underlying22 Tryz.underlying5 g 0 k cap xs hl (fun i hi => by
    rw [Nat.zero_add, h.cellAt i (by omega)]
    have : i < xs.length := by omega
    simp [List.getD, List.getElem?_eq_getElem this]) 9 Tryz.underlying9

set_option maxHeartbeats 1000000 in
theorem specPutNum_any (n : Int) (w : World) (h0 : -9223372036854775808 ≤ n) (h1 : n ≤ 9223372036854775807) :
    Calls Tryz.prog 122 #[.int .i64 n] w fun e w' => e = .returned (.string (putB n)) ∧ Below w.heap.size w w' := by
  have hfb := foldN_bd h0 h1
  obtain ⟨i0, hi, hz0, hz1, hz2⟩ := info_parts infoU8p
  go_enter Tryz.func122, Tryz.ntmps122
  go_wp2_with (go_at_call 167; refine (specFold_any _ _ h0 h1).mono ?_; rintro e w1 ⟨rfl, hw⟩)
  subst hw
  go_loopw [3, 4] (fun x v wr => ∃ (k : Nat) (pre : List Int) (u : Int) (g cap : Nat), x = .int .u64 u ∧ v = .slice (some ⟨g, 0, none⟩) k cap ∧ Hid (PutTo (foldN n) k pre u) ∧ wr.ownsRow w1.heap.size 5 1 (.slice (some ⟨g, 0, none⟩) k cap) k (pre.map (Value.int .u8)) ∧ Below w1.heap.size w1 wr) (fun x _ _ => (Go.RowKit.intOf x).toNat)
  case atStart =>
    exact ⟨0, [], foldN n, w1.heap.size, 0, rfl, rfl, putTo_start hfb.1 hfb.2, World.ownsRow_made w1 #[] 0 (Nat.le_refl _) (by unfold maxLen; omega) rfl, (Below.refl _ _).alloc (Nat.le_refl _) _⟩
  case round =>
    obtain ⟨k, pre, u, g, cap, rfl, rfl, HP, hown, hnx⟩ := hrel
    have hk : k ≤ 9 := HP.out.1
    have hu0 : 0 ≤ u := HP.out.2.2.1
    have hu1 : u ≤ 18446744073709551615 := by have := HP.out.2.2.2.2.2.2; omega
    have hlen : pre.length = k := HP.out.2.1
    have HL : Hid (pre.length = k) := hlen
    have hsz : w1.heap.size ≤ wr.heap.size := hnx.size
    clear hlen
    by_cases hlt : 128 ≤ u
    · have HQ : Hid (PutTo (foldN n) (k + 1) (pre ++ [u % 128 + 128]) (u / 128)) := putTo_step HP.out hlt
      go_wp2_with (at_builtin; refine wpList_append_lies _ rfl _ _ 22 rfl w1.heap.size 5 i0 (.int .u8 0) 1 1 Tryz.underlying22 hi hz0 hz1 hz2 rfl (by omega) _ k _ rfl (hown.alloc _) ⟨wr.heap.size, 0, none⟩ 1 1 [.int .u8 (u % 128 + 128)] rfl rfl (World.news_of_block (cs := #[.int .u8 (u % 128 + 128)]) (t := 5) (fr := (0, 0)) (heap_alloc_new wr _)) (by simp [Value.oneCell']) (by omega) (by unfold maxLen; omega) (by omega) (by simp; omega) (wr.heap.size + 1) (by simp) ?_; intro g2 cap2 w2 hown2 hgrow hat hltg)
      have hb2 : Below w1.heap.size w1 w2 := (hnx.alloc hsz _).grown hgrow (by simp; omega) (fun j hj => (hown.lt j hj).1)
      have ho2 : w2.ownsRow w1.heap.size 5 1 (.slice (some ⟨g2, 0, none⟩) (k + 1) cap2) (k + 1) ((pre ++ [u % 128 + 128]).map (Value.int .u8)) := by rw [List.map_append]; exact hown2
      go_roundw
      case rel => exact ⟨k + 1, pre ++ [u % 128 + 128], u / 128, g2, cap2, rfl, rfl, HQ, ho2, hb2⟩
      case measure => simp [Go.RowKit.intOf]; omega
    · have HE : Hid (putB n = strOfNums (pre ++ [u])) := by show putB n = _; unfold putB; rw [putTo_end HP.out (by omega)]
      go_wp2_with (at_builtin; refine wpList_append_lies _ rfl _ _ 22 rfl w1.heap.size 5 i0 (.int .u8 0) 1 1 Tryz.underlying22 hi hz0 hz1 hz2 rfl (by omega) _ k _ rfl (hown.alloc _) ⟨wr.heap.size, 0, none⟩ 1 1 [.int .u8 u] rfl rfl (World.news_of_block (cs := #[.int .u8 u]) (t := 5) (fr := (0, 0)) (heap_alloc_new wr _)) (by simp [Value.oneCell']) (by omega) (by unfold maxLen; omega) (by omega) (by simp; omega) (wr.heap.size + 1) (by simp) ?_; intro g2 cap2 w2 hown2 hgrow hat hltg; have hconv := own_conv (xs := pre ++ [u]) (by rw [List.map_append]; exact hown2) (by rw [List.length_append, HL.out]; rfl))
      go_ret
      exact ⟨ret_str HE.out.symm, (hnx.alloc hsz _).grown hgrow (by simp; omega) (fun j hj => (hown.lt j hj).1)⟩

theorem heap_set {w : World} {g i : Nat} {cs : Array Value} {T : TypeId} (hg : w.heap[g]? = some (.cells cs T (0, 0))) (v : Value) : (w.setCell ⟨g, i, none⟩ v).heap[g]? = some (.cells (cs.setIfInBounds i v) T (0, 0)) := by
  simp [World.setCell, Array.getElem?_modify, hg]

theorem arr_conv {w : World} {g k : Nat} {pre : List Int} (h : w.heap[g]? = some (.cells (arr10 pre).toArray 258 (0, 0))) (hl : pre.length = k) :
    (convert 22 9 (.slice (some ⟨g, 0, none⟩) k 10)).run Tryz.prog w = .ok (.string (strOfNums pre)) w :=
  run_convert_bytes_arg (P := Tryz.prog) w 22 5 Tryz.underlying22 Tryz.underlying5 g 0 k 10 pre hl (fun i hi => arr10_at h i (by omega)) 9 Tryz.underlying9

theorem len10 : Tryz.prog.arrayLen 258 = 10 := by kernel_rfl
theorem under10 : Tryz.prog.underlying 258 = some (.array (Tryz.prog.arrayLen 258) (Tryz.prog.elem 258)) := by kernel_rfl
theorem size10 (wx : World) : (sizeOf (Tryz.prog.elem 258)).run Tryz.prog wx = .ok 1 wx := by kernel_rfl
theorem arr_slice (g k : Nat) (hk : k ≤ 9) (wx : World) :
    (Instr.sliceAt 258 (.pointer (some ⟨g, 0, none⟩)) none (some (.int .i64 ((k : Int) + 1))) none).run Tryz.prog wx = .ok (.slice (some ⟨g, 0, none⟩) (k + 1) 10) wx := by
  have h10 := len10
  rw [run_sliceAt_array_h (P := Tryz.prog) wx 258 ⟨g, 0, none⟩ under10 .i64 ((k : Int) + 1) (by omega) (by rw [h10]; omega), size10, h10]
  simp [Result.andThen, slicedAt, Addr.add]

set_option maxHeartbeats 1000000 in
theorem implPutNum_any (n : Int) (w : World) (h0 : -9223372036854775808 ≤ n) (h1 : n ≤ 9223372036854775807) :
    Calls Tryz.prog 209 #[.int .i64 n] w fun e w' => e = .returned (.string (putB n)) ∧ Below w.heap.size w w' := by
  have hfb := foldN_bd h0 h1
  have HF : Hid (putB n = strOfNums (putI 9 (foldN n))) := rfl
  have HS : Hid ((w.alloc (.cells (arr10 []).toArray 258)).heap[w.heap.size]? = some (.cells (arr10 []).toArray 258 (0, 0))) := (MapKept.heap_alloc w _).1
  rw [arr10_nil] at HS
  obtain ⟨u0, hu⟩ : ∃ u0, u0 = foldN n := ⟨_, rfl⟩
  have HU : Hid (u0 = foldN n) := hu
  rw [← hu] at hfb HF
  by_cases hn : 0 ≤ n
  · have hx : n * 2 = u0 := by rw [hu]; unfold foldN; rw [if_pos hn]; omega
    have HX : Hid (n * 2 = u0) := hx
    clear hu hx
    go_enter Tryz.func209, Tryz.ntmps209
    go_wp2
    go_loopw [3, 5] (fun x i wr => ∃ (k : Nat) (pre : List Int) (u : Int), x = .int .u64 u ∧ i = .int .i64 k ∧ Hid (PutTo u0 k pre u) ∧ Hid (wr.heap[w.heap.size]? = some (.cells (arr10 pre).toArray 258 (0, 0))) ∧ Below w.heap.size w wr) (fun x _ _ => (Go.RowKit.intOf x).toNat)
    case atStart => exact ⟨0, [], u0, by rw [HX.out], rfl, putTo_start hfb.1 hfb.2, HS, (Below.refl _ _).alloc (Nat.le_refl _) _⟩
    case round =>
      obtain ⟨k, pre, u, rfl, rfl, HP, hrow, hnx⟩ := hrel
      have hk : k ≤ 9 := HP.out.1
      have hu0 : 0 ≤ u := HP.out.2.2.1
      have hu1 : u ≤ 18446744073709551615 := by have := HP.out.2.2.2.2.2.2; omega
      have hlen : pre.length = k := HP.out.2.1
      have hsz : w.heap.size < wr.heap.size := lt_of_block hrow.out
      obtain ⟨hck, hfk⟩ := arr10_cell hrow.out (by omega)
      rw [hlen] at hck hfk
      by_cases hlt : 128 ≤ u
      · have HQ : Hid (PutTo u0 (k + 1) (pre ++ [u % 128 + 128]) (u / 128)) := putTo_step HP.out hlt
        have HO : Hid (bits .or .u8 (u % 256) 128 = u % 128 + 128) := or128 u hu0
        have HR : Hid ((wr.setCell ⟨w.heap.size, k, none⟩ (.int .u8 (bits .or .u8 (u % 256) 128))).heap[w.heap.size]? = some (.cells (arr10 (pre ++ [u % 128 + 128])).toArray 258 (0, 0))) := by
          show _ = _; rw [HO.out, heap_set hrow.out, ← hlen, arr10_set _ _ (by omega)]
        clear hlen
        have hb2 : Below w.heap.size w (wr.setCell ⟨w.heap.size, k, none⟩ (.int .u8 (bits .or .u8 (u % 256) 128))) := hnx.setCell (Nat.le_refl _) _
        go_wp2
        go_roundw
        case rel => exact ⟨k + 1, pre ++ [u % 128 + 128], u / 128, rfl, by go_num, HQ, HR, hb2⟩
        case measure => simp [Go.RowKit.intOf]; omega
      · have HE : Hid (putB n = strOfNums (pre ++ [u])) := by show putB n = _; rw [HF.out, putTo_end HP.out (by omega)]
        have HR : (wr.setCell ⟨w.heap.size, k, none⟩ (.int .u8 u)).heap[w.heap.size]? = some (.cells (arr10 (pre ++ [u])).toArray 258 (0, 0)) := by
          rw [heap_set hrow.out, ← hlen, arr10_set _ _ (by omega)]
        have hconv := arr_conv HR (k := k + 1) (by simp [hlen])
        have hsl := arr_slice w.heap.size k hk
        clear hlen HR
        go_wp2
        go_ret
        exact ⟨ret_str HE.out.symm, hnx.setCell (Nat.le_refl _) _⟩
  · have hx : bits .xor .u64 IntKind.u64.max (IntKind.u64.wrap (IntKind.u64.wrap n * 2)) = u0 := by rw [hu]; exact fold_xor n (by omega) h0
    have HX : Hid (bits .xor .u64 IntKind.u64.max (IntKind.u64.wrap (IntKind.u64.wrap n * 2)) = u0) := hx
    clear hu hx
    go_enter Tryz.func209, Tryz.ntmps209
    go_wp2
    go_loopw [3, 5] (fun x i wr => ∃ (k : Nat) (pre : List Int) (u : Int), x = .int .u64 u ∧ i = .int .i64 k ∧ Hid (PutTo u0 k pre u) ∧ Hid (wr.heap[w.heap.size]? = some (.cells (arr10 pre).toArray 258 (0, 0))) ∧ Below w.heap.size w wr) (fun x _ _ => (Go.RowKit.intOf x).toNat)
    case atStart => exact ⟨0, [], u0, by rw [HX.out], rfl, putTo_start hfb.1 hfb.2, HS, (Below.refl _ _).alloc (Nat.le_refl _) _⟩
    case round =>
      obtain ⟨k, pre, u, rfl, rfl, HP, hrow, hnx⟩ := hrel
      have hk : k ≤ 9 := HP.out.1
      have hu0 : 0 ≤ u := HP.out.2.2.1
      have hu1 : u ≤ 18446744073709551615 := by have := HP.out.2.2.2.2.2.2; omega
      have hlen : pre.length = k := HP.out.2.1
      have hsz : w.heap.size < wr.heap.size := lt_of_block hrow.out
      obtain ⟨hck, hfk⟩ := arr10_cell hrow.out (by omega)
      rw [hlen] at hck hfk
      by_cases hlt : 128 ≤ u
      · have HQ : Hid (PutTo u0 (k + 1) (pre ++ [u % 128 + 128]) (u / 128)) := putTo_step HP.out hlt
        have HO : Hid (bits .or .u8 (u % 256) 128 = u % 128 + 128) := or128 u hu0
        have HR : Hid ((wr.setCell ⟨w.heap.size, k, none⟩ (.int .u8 (bits .or .u8 (u % 256) 128))).heap[w.heap.size]? = some (.cells (arr10 (pre ++ [u % 128 + 128])).toArray 258 (0, 0))) := by
          show _ = _; rw [HO.out, heap_set hrow.out, ← hlen, arr10_set _ _ (by omega)]
        clear hlen
        have hb2 : Below w.heap.size w (wr.setCell ⟨w.heap.size, k, none⟩ (.int .u8 (bits .or .u8 (u % 256) 128))) := hnx.setCell (Nat.le_refl _) _
        go_wp2
        go_roundw
        case rel => exact ⟨k + 1, pre ++ [u % 128 + 128], u / 128, rfl, by go_num, HQ, HR, hb2⟩
        case measure => simp [Go.RowKit.intOf]; omega
      · have HE : Hid (putB n = strOfNums (pre ++ [u])) := by show putB n = _; rw [HF.out, putTo_end HP.out (by omega)]
        have HR : (wr.setCell ⟨w.heap.size, k, none⟩ (.int .u8 u)).heap[w.heap.size]? = some (.cells (arr10 (pre ++ [u])).toArray 258 (0, 0)) := by
          rw [heap_set hrow.out, ← hlen, arr10_set _ _ (by omega)]
        have hconv := arr_conv HR (k := k + 1) (by simp [hlen])
        have hsl := arr_slice w.heap.size k hk
        clear hlen HR
        go_wp2
        go_ret
        exact ⟨ret_str HE.out.symm, hnx.setCell (Nat.le_refl _) _⟩
end Go.Proofs.YtonleickhincgaaGreatDoor
/-
  What 'joined' answers: the texts of its slice behind one another, in new memory; nothing that was there turns.
  Conditions: the slice's cells hold those texts; together they are at most 2^46 bytes long.
-/
namespace Go.Proofs.YtonleickhincgaaGreatDoor
open Go.RowKit Go.Lib
set_option linter.unusedVariables false

theorem infoU8 : (Tryz.prog.info? 5).map (fun i => (i.zero, i.size, i.bytes)) = some (some (.int .u8 0), 1, 1) := by kernel_rfl
theorem sizeU8 : (Tryz.prog.info? 5).map (·.size) = some 1 := by kernel_rfl
theorem run_make_u8 (n : Nat) (hn : n ≤ 281474976710656) (w : World) :
    (Instr.makeSlice 22 (.int .i64 (n : Int)) (.int .i64 (n : Int))).run Tryz.prog w = .ok (.slice (some ⟨w.heap.size, 0, none⟩) n n) (w.alloc (.cells (zrow n).toArray 5)) := by
  obtain ⟨i0, hi, hz0, hz1, hz2⟩ := info_parts infoU8
  have := run_make (P := Tryz.prog) w 22 5 i0 (.int .u8 0) Tryz.underlying22 hi hz0 .i64 .i64 (n : Int) (n : Int) (by omega) (by omega) (by rw [hz2]; omega) (by omega)
  rw [this, hz1]
  simp only [Int.toNat_natCast, Nat.mul_one]
  rw [← madeZ]; rfl

set_option maxHeartbeats 1000000 in
theorem joined_any (b off n cap : Nat) (ss : List ByteArray) (w : World) (hn : ss.length = n) (hb : b < w.heap.size) (hnm : n ≤ 1048576) (hcap : n ≤ cap)
    (hc : ∀ i (h : i < ss.length), w.cell? ⟨b, off + i, none⟩ = some (.string ss[i])) (htot : sumN ss ss.length ≤ 70368744177664) :
    Calls Tryz.prog 37 #[.slice (some ⟨b, off, none⟩) n cap] w fun e w' => e = .returned (.string (cat ss)) ∧ Below w.heap.size w w' := by
  subst hn
  have HC : Hid (∀ i (h : i < ss.length), w.cell? ⟨b, off + i, none⟩ = some (.string ss[i])) := hc
  clear hc
  go_enter Tryz.func37, Tryz.ntmps37
  go_wp2
  go_loop [3, 12] (fun x i => ∃ k : Nat, k ≤ ss.length ∧ i = .int .i64 k ∧ x = .int .i64 (sumN ss k : Nat)) (fun _ i => ss.length - (Go.RowKit.intOf i).toNat)
  case atStart => exact ⟨0, Nat.zero_le _, rfl, rfl⟩
  case round =>
    obtain ⟨k, hk, rfl, rfl⟩ := hrel
    by_cases hlt : k < ss.length
    · have hck := HC.out k hlt
      have hle := sumN_le ss (k + 1)
      have HS : Hid (sumN ss (k + 1) = sumN ss k + ss[k].size) := sumN_succ ss k hlt
      have hsz : sumN ss k + ss[k].size ≤ 70368744177664 := by have := HS.out; omega
      clear hle
      generalize ss[k] = p at *
      go_wp2
      go_round
      case rel => exact ⟨k + 1, by omega, by go_num, by rw [HS.out]; go_num⟩
      case measure => simp [Go.RowKit.intOf]; omega
    · have hkk : k = ss.length := by omega
      subst hkk
      obtain ⟨tot, hT⟩ : ∃ tot, tot = sumN ss ss.length := ⟨_, rfl⟩
      have HT : Hid (tot = sumN ss ss.length) := hT
      rw [← hT] at htot ⊢
      clear hT
      have hmk := run_make_u8 tot (by omega)
      go_wp2
      go_loopw [7, 25] (fun x i wr => ∃ k : Nat, k ≤ ss.length ∧ i = .int .i64 k ∧ x = .int .i64 (sumN ss k : Nat) ∧ Hid (wr.heap[w.heap.size]? = some (.cells (rowAt ss k tot).toArray 5 (0, 0))) ∧ Below w.heap.size w wr) (fun _ i _ => ss.length - (Go.RowKit.intOf i).toNat)
      case atStart =>
        refine ⟨0, Nat.zero_le _, rfl, rfl, ?_, (Below.refl _ _).alloc (Nat.le_refl _) _⟩
        show _ = _
        rw [rowAt_zero]
        exact (MapKept.heap_alloc w _).1
      case round =>
        obtain ⟨k, hk, rfl, rfl, hrow, hnx⟩ := hrel
        have hBz : w.heap.size ≤ wr.heap.size := hnx.size
        by_cases hlt : k < ss.length
        · have hck : wr.cell? ⟨b, off + k, none⟩ = some (.string ss[k]) := (hnx.cell (p := ⟨b, off + k, none⟩) hb).trans (HC.out k hlt)
          have hle := sumN_le ss (k + 1)
          have HS : Hid (sumN ss (k + 1) = sumN ss k + ss[k].size) := sumN_succ ss k hlt
          have hsz : sumN ss k + ss[k].size ≤ tot := by have := HS.out; have := HT.out; omega
          have hlen := rowAt_len ss k tot (by omega)
          have HR : Hid (splice (rowAt ss k tot) (sumN ss k) (byteCells ss[k].data.toList) = rowAt ss (k + 1) tot) := rowAt_succ ss k tot hlt (by have := HS.out; omega)
          have HL : Hid ((rowAt ss k tot).length = tot) := hlen
          clear hle hlen
          generalize ss[k] = p at *
          generalize sumN ss k = m at *
          by_cases hm : m = tot
          · have hp0 : p.size = 0 := by omega
            have hcp := copy_str_none (P := Tryz.prog) wr 22 9 3 5 Tryz.underlying22 sizeU8 (some ⟨w.heap.size, 0, none⟩) 0 0 p hp0
            have HR' : Hid (rowAt ss (k + 1) tot = rowAt ss k tot) := by show _ = _; rw [← HR.out, splice_nil _ _ _ hp0]
            have HX : Hid (wr.heap[w.heap.size]? = some (.cells (rowAt ss (k + 1) tot).toArray 5 (0, 0))) := by show _ = _; rw [HR'.out]; exact hrow.out
            have HP : Hid (sumN ss (k + 1) = m) := by show _ = _; rw [HS.out]; omega
            clear hrow HR HR' HL HS
            subst hm
            go_wp2
            go_roundw
            case rel => exact ⟨k + 1, by omega, by go_num, by rw [HP.out], HX, hnx⟩
            case measure => simp [Go.RowKit.intOf]; omega
          · have hmlt : m < tot := by omega
            clear hm
            obtain ⟨w2, hcp, hrow2, hbel⟩ := copy_str (P := Tryz.prog) wr 22 9 3 5 Tryz.underlying22 sizeU8 w.heap.size m (tot - m) (tot - m) p (rowAt ss k tot) 5 hrow.out (by omega) (by rw [HL.out]; omega)
            have HW : Hid (w2.heap[w.heap.size]? = some (.cells (rowAt ss (k + 1) tot).toArray 5 (0, 0))) := by show _ = _; rw [← HR.out]; exact hrow2
            have hb2 := hbel w.heap.size w hnx (Nat.le_refl _)
            clear hbel hrow2 hrow HR HL
            go_wp2
            go_roundw
            case rel => exact ⟨k + 1, by omega, by go_num, by rw [HS.out]; go_num, HW, hb2⟩
            case measure => simp [Go.RowKit.intOf]; omega
        · have hkk : k = ss.length := by omega
          subst hkk
          have hrow' : wr.heap[w.heap.size]? = some (.cells (byteCells (catN ss ss.length)).toArray 5 (0, 0)) := by
            have := hrow.out; rw [HT.out, rowAt_all] at this; exact this
          have hconv := run_convert_bytes_back (P := Tryz.prog) wr 22 9 5 ⟨w.heap.size, 0, none⟩ tot (catN ss ss.length) Tryz.underlying22 Tryz.underlying5 Tryz.underlying9 (row_cell hrow')
          have hl : (catN ss ss.length).length = tot := by rw [HT.out]; rfl
          rw [hl, catN_all] at hconv
          clear hl hrow'
          go_wp2
          go_ret
          exact ⟨rfl, hnx⟩

theorem cat_two (a b : ByteArray) : cat [a, b] = a ++ b := by
  apply ByteArray.ext; simp [cat]
theorem cat_one (a : ByteArray) : cat [a] = a := by
  apply ByteArray.ext; simp [cat]
theorem new_texts (w : World) (ss : List ByteArray) (t : TypeId) (i : Nat) (h : i < ss.length) :
    (w.alloc (.cells (ss.map Value.string).toArray t)).cell? ⟨w.heap.size, 0 + i, none⟩ = some (.string ss[i]) := by
  rw [World.cell?_alloc_mark]; simp [h]

theorem joined_new (ss : List ByteArray) (w : World) (hn : ss.length ≤ 1048576) (htot : (cat ss).size ≤ 70368744177664) :
    Calls Tryz.prog 37 #[.slice (some ⟨w.heap.size, 0, none⟩) ss.length ss.length] (w.alloc (.cells (ss.map Value.string).toArray 9))
      fun e w' => e = .returned (.string (cat ss)) ∧ Below w.heap.size w w' := by
  refine (joined_any w.heap.size 0 ss.length ss.length ss _ rfl (by simp) hn (Nat.le_refl _) (new_texts w ss _) (by rw [cat_size] at htot; exact htot)).mono ?_
  rintro e w' ⟨he, hb⟩
  exact ⟨he, ((Below.refl _ _).alloc (Nat.le_refl _) _).trans (hb.mono (by simp))⟩

theorem joined_two (a b : ByteArray) (w : World) (h : a.size + b.size ≤ 70368744177664) :
    Calls Tryz.prog 37 #[.slice (some ⟨w.heap.size, 0, none⟩) 2 2] (w.alloc (.cells #[.string a, .string b] 9))
      fun e w' => e = .returned (.string (a ++ b)) ∧ Below w.heap.size w w' := by
  have := joined_new [a, b] w (by simp) (by rw [cat_two]; simpa using h)
  rw [cat_two] at this
  exact this

theorem joined_one (a : ByteArray) (w : World) (h : a.size ≤ 70368744177664) :
    Calls Tryz.prog 37 #[.slice (some ⟨w.heap.size, 0, none⟩) 1 1] (w.alloc (.cells #[.string a] 9))
      fun e w' => e = .returned (.string a) ∧ Below w.heap.size w w' := by
  have := joined_new [a] w (by simp) (by rw [cat_one]; exact h)
  rw [cat_one] at this
  exact this
end Go.Proofs.YtonleickhincgaaGreatDoor
/-
  What PutText answers, in the program and in the specification: the length's bytes and the text behind them, or the empty text.
  Conditions: the string fits the form's own reach.
-/
namespace Go.Proofs.YtonleickhincgaaGreatDoor
open Go.RowKit Go.Lib
set_option linter.unusedVariables false

def putTextB (s : ByteArray) : ByteArray := if 8000 < s.size then ByteArray.empty else putB (s.size : Int) ++ s

theorem putI_len : ∀ (f : Nat) (u : Int), (putI f u).length ≤ f + 1
  | 0, u => Nat.le_refl _
  | f + 1, u => by
    unfold putI; split
    · simp
    · have := putI_len f (u / 128); simp; omega
theorem putB_size (n : Int) : (putB n).size ≤ 10 := by unfold putB; rw [strOfNums_size]; exact putI_len 9 _

set_option maxRecDepth 100000 in
set_option maxHeartbeats 1000000 in
theorem specPutText_any (s : ByteArray) (w : World) (hs : s.size ≤ maxLen) :
    Calls Tryz.prog 123 #[.string s] w fun e w' => e = .returned (.string (putTextB s)) ∧ Below w.heap.size w w' := by
  have hs' := hs
  unfold maxLen at hs'
  by_cases h : 8000 < s.size
  · have H : Hid (putTextB s = ByteArray.empty) := if_pos h
    go_enter Tryz.func123, Tryz.ntmps123
    go_wp2_with fail
    go_ret
    exact ⟨ret_str (H.out.trans rfl).symm, Below.refl _ _⟩
  · have H : Hid (putTextB s = putB (s.size : Int) ++ s) := if_neg h
    have hp := putB_size (s.size : Int)
    go_enter Tryz.func123, Tryz.ntmps123
    go_wp2_with (go_at_call 122; refine (specPutNum_any _ _ (by omega) (by omega)).mono ?_; rintro e w1 ⟨rfl, hb1⟩)
    go_ret
    exact ⟨ret_str (by rw [H.out]), hb1⟩

set_option maxRecDepth 100000 in
set_option maxHeartbeats 1000000 in
theorem implPutText_any (s : ByteArray) (w : World) (hs : s.size ≤ maxLen) :
    Calls Tryz.prog 229 #[.string s] w fun e w' => e = .returned (.string (putTextB s)) ∧ Below w.heap.size w w' := by
  have hs' := hs
  unfold maxLen at hs'
  by_cases h : 8000 < s.size
  · have H : Hid (putTextB s = ByteArray.empty) := if_pos h
    go_enter Tryz.func229, Tryz.ntmps229
    go_wp2_with fail
    go_ret
    exact ⟨ret_str (H.out.trans rfl).symm, Below.refl _ _⟩
  · have H : Hid (putTextB s = putB (s.size : Int) ++ s) := if_neg h
    have hp := putB_size (s.size : Int)
    go_enter Tryz.func229, Tryz.ntmps229
    go_wp2_with (first | (go_at_call 209; refine (implPutNum_any _ _ (by omega) (by omega)).mono ?_; rintro e w1 ⟨rfl, hb1⟩) | (go_at_call 37; refine (joined_two _ _ _ (by omega)).mono ?_; rintro e w2 ⟨rfl, hb2⟩))
    go_ret
    exact ⟨ret_str (by rw [H.out]), hb1.trans (hb2.mono hb1.size)⟩
end Go.Proofs.YtonleickhincgaaGreatDoor
/-
  Rows of fields as plain functions: a field's digest, when a field and a row are right, a row's leaf, what forgetting leaves; cells that hold fields.
-/
namespace Go.Proofs.YtonleickhincgaaGreatDoor
open Go.RowKit Go.Lib
set_option linter.unusedVariables false

/-- A field of a row. -/
structure Fld where
  n : ByteArray
  c : ByteArray
  s : ByteArray
  v : ByteArray
  g : Bool
/-- The cells that a slice of fields leads to hold these (of none nothing is asked: also nil). -/
def FldAt (w : World) (p : Option Addr) (fs : List Fld) : Prop :=
  ∀ i (h : i < fs.length), ∃ b off, p = some ⟨b, off, none⟩ ∧ b < w.heap.size ∧ w.cell? ⟨b, off + i * 5, none⟩ = some (.string fs[i].n) ∧ w.cell? ⟨b, off + i * 5 + 1, none⟩ = some (.string fs[i].c) ∧ w.cell? ⟨b, off + i * 5 + 2, none⟩ = some (.string fs[i].s) ∧ w.cell? ⟨b, off + i * 5 + 3, none⟩ = some (.string fs[i].v) ∧ w.cell? ⟨b, off + i * 5 + 4, none⟩ = some (.bool fs[i].g)
theorem FldAt.below {w w' : World} {p : Option Addr} {fs : List Fld} (h : FldAt w p fs) (hb : Below w.heap.size w w') : FldAt w' p fs := by
  intro i hi
  obtain ⟨b, off, rfl, h1, h2, h3, h4, h5, h6⟩ := h i hi
  exact ⟨b, off, rfl, Nat.lt_of_lt_of_le h1 hb.size, (hb.cell (p := ⟨b, off + i * 5, none⟩) h1).trans h2, (hb.cell (p := ⟨b, off + i * 5 + 1, none⟩) h1).trans h3, (hb.cell (p := ⟨b, off + i * 5 + 2, none⟩) h1).trans h4, (hb.cell (p := ⟨b, off + i * 5 + 3, none⟩) h1).trans h5, (hb.cell (p := ⟨b, off + i * 5 + 4, none⟩) h1).trans h6⟩
theorem FldAt.nil (w : World) (p : Option Addr) : FldAt w p [] := fun i h => by simp at h
theorem FldAt.at {w : World} {b off : Nat} {fs : List Fld} (h : FldAt w (some ⟨b, off, none⟩) fs) (i : Nat) (hi : i < fs.length) : w.cell? ⟨b, off + i * 5, none⟩ = some (.string fs[i].n) ∧ w.cell? ⟨b, off + i * 5 + 1, none⟩ = some (.string fs[i].c) ∧ w.cell? ⟨b, off + i * 5 + 2, none⟩ = some (.string fs[i].s) ∧ w.cell? ⟨b, off + i * 5 + 3, none⟩ = some (.string fs[i].v) ∧ w.cell? ⟨b, off + i * 5 + 4, none⟩ = some (.bool fs[i].g) := by
  obtain ⟨b', off', h0, h1, h2⟩ := h i hi
  cases h0; exact h2
theorem FldAt.some_of {w : World} {p : Option Addr} {fs : List Fld} (h : FldAt w p fs) (h0 : 0 < fs.length) : ∃ b off, p = some ⟨b, off, none⟩ ∧ b < w.heap.size := by
  obtain ⟨b, off, rfl, hb, -⟩ := h 0 h0
  exact ⟨b, off, rfl, hb⟩
def fldCells (f : Fld) : List Value := [.string f.n, .string f.c, .string f.s, .string f.v, .bool f.g]
def fldRow (fs : List Fld) : List Value := fs.flatMap fldCells
theorem fldRow_len (fs : List Fld) : (fldRow fs).length = fs.length * 5 := by
  induction fs with
  | nil => rfl
  | cons f fs ih => unfold fldRow at *; rw [List.flatMap_cons, List.length_append, ih]; simp [fldCells]; omega
theorem fldRow_append (fs gs : List Fld) : fldRow (fs ++ gs) = fldRow fs ++ fldRow gs := by simp [fldRow]
theorem fldRow_at (fs : List Fld) : ∀ (i : Nat) (h : i < fs.length), (fldRow fs)[i * 5]? = some (.string fs[i].n) ∧ (fldRow fs)[i * 5 + 1]? = some (.string fs[i].c) ∧ (fldRow fs)[i * 5 + 2]? = some (.string fs[i].s) ∧ (fldRow fs)[i * 5 + 3]? = some (.string fs[i].v) ∧ (fldRow fs)[i * 5 + 4]? = some (.bool fs[i].g) := by
  induction fs with
  | nil => intro i h; simp at h
  | cons f fs ih =>
    intro i h
    match i with
    | 0 => exact ⟨rfl, rfl, rfl, rfl, rfl⟩
    | i + 1 =>
      have := ih i (by simpa using h)
      rw [show (i + 1) * 5 = i * 5 + 5 by omega]
      exact this
theorem ownF_form {w : World} {base : Nat} {v : Value} {l : List Fld} (h : w.ownsRow base 122 5 v l.length (fldRow l)) : ∃ p cap, v = .slice p l.length cap ∧ l.length ≤ cap ∧ FldAt w p l := by
  rcases h.2 with ⟨rfl, h0⟩ | ⟨g, cap, cur, rfl, h2, h3, h4, h5, h6, h7⟩
  · have hl : l = [] := List.length_eq_zero_iff.1 h0
    subst hl
    exact ⟨none, 0, rfl, Nat.le_refl _, FldAt.nil _ _⟩
  · refine ⟨some ⟨g, 0, none⟩, cap, rfl, h4, fun i hi => ⟨g, 0, rfl, lt_of_block h3, ?_⟩⟩
    have h8 := fldRow_at l i hi
    rw [← h7, List.getElem?_take_of_lt (by omega), List.getElem?_take_of_lt (by omega), List.getElem?_take_of_lt (by omega), List.getElem?_take_of_lt (by omega), List.getElem?_take_of_lt (by omega)] at h8
    rw [Nat.zero_add]
    simpa [World.cell?, h3] using h8

/-! ### A field's digest -/
def cmOk (n s v : ByteArray) : Bool := nrB n && (decide (1 ≤ s.size ∧ s.size ≤ 8) && decide (v.size ≤ 16))
def two1 : ByteArray := ⟨#[2]⟩
def cmT (n s v : ByteArray) : ByteArray := two1 ++ putTextB n ++ putTextB s ++ putTextB v
def cmB (n s v : ByteArray) : ByteArray := if cmOk n s v = true then digB (cmT n s v) else ByteArray.empty
theorem cmB_size (n s v : ByteArray) : (cmB n s v).size ≤ 32 := by
  unfold cmB; split
  · rw [digB_size]; exact Nat.le_refl _
  · simp
theorem putTextB_le (s : ByteArray) (h : s.size ≤ 8000) : (putTextB s).size ≤ s.size + 10 := by
  unfold putTextB
  rw [if_neg (by omega), ByteArray.size_append]
  have : (putB (s.size : Int)).size ≤ 10 := by unfold putB; rw [strOfNums_size]; exact putI_len 9 _
  omega
theorem nrB_le {s : ByteArray} (h : nrB s = true) : 1 ≤ s.size ∧ s.size ≤ 20 := by
  unfold nrB at h
  rw [decide_eq_true_iff] at h
  exact ⟨h.1, h.2.1⟩
/-! ### When a field and a row are right -/
def emB (s : ByteArray) : Bool := s.toList == ByteArray.empty.toList
def fdB (f : Fld) : Bool := nrB f.n && (decide (f.c.size = 32) && (if f.g = true then emB f.s && emB f.v else f.c.toList == (cmB f.n f.s f.v).toList))
theorem toL_iff (a b : ByteArray) : (a.toList == b.toList) = true ↔ a = b := by
  rw [beq_iff_eq]
  constructor
  · intro h; apply ByteArray.ext; apply Array.ext'; simpa [toList_data] using h
  · rintro rfl; rfl
theorem emB_iff (s : ByteArray) : emB s = true ↔ s = ByteArray.empty := toL_iff s _
theorem emB_isEmpty (s : ByteArray) : s.toList.isEmpty = emB s := by
  have e : ByteArray.empty.toList = [] := by simp [toList_data]
  unfold emB
  rw [e]
  cases s.toList <;> rfl
theorem fdB_parts {f : Fld} (h : fdB f = true) : nrB f.n = true ∧ f.c.size = 32 ∧ (f.g = true → f.s = ByteArray.empty ∧ f.v = ByteArray.empty) ∧ (f.g = false → f.c = cmB f.n f.s f.v ∧ cmOk f.n f.s f.v = true) := by
  unfold fdB at h
  rw [Bool.and_eq_true, Bool.and_eq_true, decide_eq_true_iff] at h
  obtain ⟨h1, h2, h3⟩ := h
  refine ⟨h1, h2, fun hg => ?_, fun hg => ?_⟩
  · rw [if_pos hg, Bool.and_eq_true, emB_iff, emB_iff] at h3; exact h3
  · rw [if_neg (by rw [hg]; exact Bool.false_ne_true), toL_iff] at h3
    refine ⟨h3, ?_⟩
    cases hk : cmOk f.n f.s f.v with
    | true => rfl
    | false =>
      unfold cmB at h3
      rw [if_neg (by rw [hk]; exact Bool.false_ne_true)] at h3
      rw [h3] at h2; simp at h2
/-- The names rise. -/
def rise : List Fld → Bool
  | [] => true
  | [_] => true
  | a :: b :: r => Op.bytesLess a.n.toList b.n.toList && rise (b :: r)
def rwB (k : ByteArray) (at_ : Int) (fs : List Fld) : Bool := nrB k && (timeB at_ && (decide (1 ≤ fs.length ∧ fs.length ≤ 3) && (fs.all fdB && rise fs)))
theorem rwB_parts {k : ByteArray} {at_ : Int} {fs : List Fld} (h : rwB k at_ fs = true) : nrB k = true ∧ (0 ≤ at_ ∧ at_ ≤ 1000000) ∧ (1 ≤ fs.length ∧ fs.length ≤ 3) ∧ (∀ f ∈ fs, fdB f = true) ∧ rise fs = true := by
  unfold rwB timeB at h
  rw [Bool.and_eq_true, Bool.and_eq_true, Bool.and_eq_true, Bool.and_eq_true, decide_eq_true_iff, decide_eq_true_iff, List.all_eq_true] at h
  exact ⟨h.1, h.2.1, h.2.2.1, h.2.2.2.1, h.2.2.2.2⟩
theorem rwB_of {k : ByteArray} {at_ : Int} {fs : List Fld} (h1 : nrB k = true) (h2 : 0 ≤ at_ ∧ at_ ≤ 1000000) (h3 : 1 ≤ fs.length ∧ fs.length ≤ 3) (h4 : ∀ f ∈ fs, fdB f = true) (h5 : rise fs = true) : rwB k at_ fs = true := by
  unfold rwB timeB
  rw [h1, decide_eq_true h2, decide_eq_true h3, h5, List.all_eq_true.2 h4]; rfl
/-! ### The leaf -/
def fdT (f : Fld) : ByteArray := putTextB f.n ++ putTextB f.c
def lfTo (t : ByteArray) : List Fld → ByteArray
  | [] => t
  | f :: r => lfTo (t ++ putTextB f.n ++ putTextB f.c) r
def lfT (k : ByteArray) (at_ : Int) (fs : List Fld) : ByteArray := lfTo (putTextB k ++ putB at_ ++ putB (fs.length : Int)) fs
def one101 : ByteArray := ⟨#[101]⟩
def lfB (k : ByteArray) (at_ : Int) (fs : List Fld) : ByteArray := if rwB k at_ fs = true then one101 ++ digB (lfT k at_ fs) else ByteArray.empty
/-- The name and the digest are the same. -/
def same2 (fs gs : List Fld) : Prop := fs.map (fun f => (f.n, f.c)) = gs.map (fun f => (f.n, f.c))
theorem same2.len {fs gs : List Fld} (h : same2 fs gs) : fs.length = gs.length := by simpa using congrArg List.length h
theorem lfTo_same : ∀ {fs gs : List Fld} (t : ByteArray), same2 fs gs → lfTo t fs = lfTo t gs
  | [], [], _, _ => rfl
  | [], _ :: _, _, h => by cases h
  | _ :: _, [], _, h => by cases h
  | f :: fs, g :: gs, t, h => by
    unfold same2 at h
    simp only [List.map_cons, List.cons.injEq, Prod.mk.injEq] at h
    obtain ⟨⟨h1, h2⟩, h3⟩ := h
    show lfTo (t ++ putTextB f.n ++ putTextB f.c) fs = lfTo (t ++ putTextB g.n ++ putTextB g.c) gs
    rw [h1, h2]
    exact lfTo_same _ h3
theorem lfT_same {k : ByteArray} {at_ : Int} {fs gs : List Fld} (h : same2 fs gs) : lfT k at_ fs = lfT k at_ gs := by
  unfold lfT; rw [h.len]; exact lfTo_same _ h
theorem rise_same : ∀ {fs gs : List Fld}, same2 fs gs → rise fs = rise gs
  | [], [], _ => rfl
  | [], _ :: _, h => by cases h
  | _ :: _, [], h => by cases h
  | [_], [_], _ => rfl
  | [_], _ :: _ :: _, h => by simp [same2] at h
  | _ :: _ :: _, [_], h => by simp [same2] at h
  | a :: b :: r, c :: d :: s, h => by
    unfold same2 at h
    simp only [List.map_cons, List.cons.injEq, Prod.mk.injEq] at h
    obtain ⟨⟨h1, h2⟩, ⟨h3, h4⟩, h5⟩ := h
    show (Op.bytesLess a.n.toList b.n.toList && rise (b :: r)) = (Op.bytesLess c.n.toList d.n.toList && rise (d :: s))
    rw [h1, h3, rise_same (fs := b :: r) (gs := d :: s) (by unfold same2; simp [h3, h4, h5])]
/-! ### What forgetting leaves -/
def goneF (f : Fld) : Fld := ⟨f.n, f.c, ByteArray.empty, ByteArray.empty, true⟩
theorem fdB_gone {f : Fld} (h : fdB f = true) : fdB (goneF f) = true := by
  obtain ⟨h1, h2, -⟩ := fdB_parts h
  have e1 : emB ByteArray.empty = true := (emB_iff _).2 rfl
  show (nrB f.n && (decide (f.c.size = 32) && (emB ByteArray.empty && emB ByteArray.empty))) = true
  rw [h1, decide_eq_true h2, e1]; rfl
theorem same2_set {fs : List Fld} (i : Nat) (f : Fld) (h : ∀ (hi : i < fs.length), f.n = fs[i].n ∧ f.c = fs[i].c) : same2 (fs.set i f) fs := by
  unfold same2
  apply List.ext_getElem
  · simp
  · intro j h1 h2
    simp only [List.getElem_map, List.getElem_set]
    by_cases hij : i = j
    · subst hij
      have := h (by simpa using h2)
      simp [this.1, this.2]
    · simp [hij]
theorem rwB_same {k : ByteArray} {at_ : Int} {fs gs : List Fld} (h : same2 gs fs) (hr : rwB k at_ fs = true) (hg : ∀ f ∈ gs, fdB f = true) : rwB k at_ gs = true := by
  obtain ⟨h1, h2, h3, h4, h5⟩ := rwB_parts hr
  exact rwB_of h1 h2 (by rw [h.len]; exact h3) hg (by rw [rise_same h]; exact h5)
theorem forget_right {k : ByteArray} {at_ : Int} {fs : List Fld} (hr : rwB k at_ fs = true) (i : Nat) (hi : i < fs.length) : rwB k at_ (fs.set i (goneF fs[i])) = true := by
  refine rwB_same (same2_set i _ (fun _ => ⟨rfl, rfl⟩)) hr (fun f hf => ?_)
  rcases List.mem_or_eq_of_mem_set hf with h | h
  · exact (rwB_parts hr).2.2.2.1 f h
  · rw [h]; exact fdB_gone ((rwB_parts hr).2.2.2.1 _ (List.getElem_mem hi))
theorem forget_leaf {k : ByteArray} {at_ : Int} {fs : List Fld} (hr : rwB k at_ fs = true) (i : Nat) (hi : i < fs.length) : lfB k at_ (fs.set i (goneF fs[i])) = lfB k at_ fs := by
  unfold lfB
  rw [if_pos hr, if_pos (forget_right hr i hi), lfT_same (same2_set i _ (fun _ => ⟨rfl, rfl⟩))]
end Go.Proofs.YtonleickhincgaaGreatDoor
