/-
  Parts of one proof, laid as one text: TimeB, PutMath, PutNum, PutText, FldMath, FldRise, ScanMath; what each says stands at its head.
-/
import Derived.Test.YtnknnfgimiljjaaGreatDoorRows
import Derived.Handy
import Derived.WalkKit
import Derived.ProofKit
import Derived.Below
import Derived.Laws.BitsAllLaws
import Derived.Laws.BytesArg
import Derived.Lib.Strings
import Derived.Test.YtnknnfgimiljjaaGreatDoorBytesDigMath
import Derived.WalkSpells
import Derived.Deep.AppendLies
import Derived.Test.YtnknnfgimiljjaaGreatDoorTreeMathSlABxKSlBOwnSJoinedOwnB
import Derived.Test.YtnknnfgimiljjaaGreatDoorNameRight
import Derived.OwnWalk
import Derived.Laws.Bits64b
/-
  A time, as a plain test.
-/
namespace Go.Proofs.YtnknnfgimiljjaaGreatDoor

def timeB (at_ : Int) : Bool := decide (0 ≤ at_ ∧ at_ ≤ 1000000)
end Go.Proofs.YtnknnfgimiljjaaGreatDoor
/-
  The bytes of a number, in plain mathematics: 'fold' lays the sign at the foot, 'putI' cuts into groups of seven bits.
-/
namespace Go.Proofs.YtnknnfgimiljjaaGreatDoor
open Go.RowKit Go.Lib
set_option linter.unusedVariables false

def foldN (n : Int) : Int := if 0 ≤ n then 2 * n else -2 * n - 1
def putI : Nat → Int → List Int
  | 0, u => [u]
  | f + 1, u => if u < 128 then [u] else (u % 128 + 128) :: putI f (u / 128)
def putB (n : Int) : ByteArray := strOfNums (putI 9 (foldN n))

theorem foldN_bd {n : Int} (h0 : -9223372036854775808 ≤ n) (h1 : n ≤ 9223372036854775807) : 0 ≤ foldN n ∧ foldN n ≤ 18446744073709551615 := by
  unfold foldN; split <;> omega

/-- What a loop over the groups knows: k groups are done ('pre'), 'u' is left. -/
def PutTo (u0 : Int) (k : Nat) (pre : List Int) (u : Int) : Prop :=
  k ≤ 9 ∧ pre.length = k ∧ 0 ≤ u ∧ u * 128 ^ k < 18446744073709551616 ∧ putI 9 u0 = pre ++ putI (9 - k) u ∧ (∀ x ∈ pre, 0 ≤ x ∧ x ≤ 255) ∧ u ≤ u0

theorem putTo_start {u0 : Int} (h0 : 0 ≤ u0) (h1 : u0 ≤ 18446744073709551615) : PutTo u0 0 [] u0 :=
  ⟨by omega, rfl, h0, by simp; omega, rfl, by simp, Int.le_refl _⟩

theorem putTo_more {u0 : Int} {k : Nat} {pre : List Int} {u : Int} (h : PutTo u0 k pre u) (hu : 128 ≤ u) : k ≤ 8 := by
  obtain ⟨hk, _, _, hb, _⟩ := h
  rcases Nat.lt_or_ge 8 k with h9 | h9
  · have : k = 9 := by omega
    subst this
    have : (128 : Int) ^ 9 = 9223372036854775808 := by decide
    rw [this] at hb; omega
  · exact h9

theorem putTo_step {u0 : Int} {k : Nat} {pre : List Int} {u : Int} (h : PutTo u0 k pre u) (hu : 128 ≤ u) : PutTo u0 (k + 1) (pre ++ [u % 128 + 128]) (u / 128) := by
  have hk := putTo_more h hu
  obtain ⟨_, hl, h0, hb, hp, hx, hle⟩ := h
  refine ⟨by omega, by simp [hl], by omega, ?_, ?_, ?_, by omega⟩
  · have e : (128 : Int) ^ (k + 1) = 128 ^ k * 128 := Int.pow_succ _ _
    have hpos : (0 : Int) < 128 ^ k := Int.pow_pos (by decide)
    have hd : u / 128 * 128 ≤ u := Int.ediv_mul_le _ (by decide)
    have : u / 128 * (128 ^ k * 128) = (u / 128 * 128) * 128 ^ k := by rw [Int.mul_comm (128 ^ k) 128, ← Int.mul_assoc]
    rw [e, this]
    exact Int.lt_of_le_of_lt (Int.mul_le_mul_of_nonneg_right hd (Int.le_of_lt hpos)) hb
  · rw [hp, List.append_assoc]
    have : 9 - k = (9 - (k + 1)) + 1 := by omega
    rw [this, putI, if_neg (by omega)]; rfl
  · intro x hx'
    rcases List.mem_append.1 hx' with h | h
    · exact hx x h
    · simp at h; subst h; omega

theorem putTo_end {u0 : Int} {k : Nat} {pre : List Int} {u : Int} (h : PutTo u0 k pre u) (hu : u < 128) : putI 9 u0 = pre ++ [u] := by
  obtain ⟨hk, hl, h0, hb, hp, _⟩ := h
  rw [hp]
  congr 1
  cases e : 9 - k with
  | zero => rfl
  | succ m => rw [putI, if_pos hu]

theorem or128 (x : Int) (h0 : 0 ≤ x) : bits .or .u8 (x % 256) 128 = x % 128 + 128 := by
  have key : ∀ y : Fin 256, bits .or .u8 ((y.val : Nat) : Int) 128 = ((y.val % 128 + 128 : Nat) : Int) := by decide +kernel
  have hy : (x % 256).toNat < 256 := by omega
  have := key ⟨(x % 256).toNat, hy⟩
  simp only at this
  rw [show (((x % 256).toNat : Nat) : Int) = x % 256 by omega] at this
  rw [this]; omega

theorem u64max : IntKind.u64.max = 18446744073709551615 := by decide
theorem fold_xor (n : Int) (h0 : n < 0) (h1 : -9223372036854775808 ≤ n) :
    bits .xor .u64 IntKind.u64.max (IntKind.u64.wrap (IntKind.u64.wrap n * 2)) = foldN n := by
  have e1 : IntKind.u64.wrap (IntKind.u64.wrap n * 2) = ((2 * n + 18446744073709551616).toNat : Int) := by
    simp [IntKind.wrap, IntKind.bits, IntKind.signed]; omega
  rw [e1, u64max]
  generalize hm : (2 * n + 18446744073709551616).toNat = m
  have hm' : m < 18446744073709551616 := by omega
  have : bits .xor .u64 18446744073709551615 (m : Int) = 18446744073709551615 - (m : Int) := by
    show IntKind.u64.wrap ((BitVec.ofInt 64 18446744073709551615 ^^^ BitVec.ofInt 64 (m : Int)).toNat : Int) = _
    have h2 : BitVec.ofInt 64 18446744073709551615 = BitVec.allOnes 64 := by decide
    rw [h2, BitVec.allOnes_xor, BitVec.toNat_not, BitVec.ofInt_natCast, BitVec.toNat_ofNat, Nat.mod_eq_of_lt (by omega)]
    simp [IntKind.wrap, IntKind.bits, IntKind.signed]; omega
  rw [this]; unfold foldN; rw [if_neg (by omega)]; omega

/-- The program's array of ten bytes, the first of them laid. -/
def arr10 (pre : List Int) : List Value := pre.map (Value.int .u8) ++ List.replicate (10 - pre.length) (.int .u8 0)
theorem arr10_nil : (arr10 []).toArray = #[.int .u8 0, .int .u8 0, .int .u8 0, .int .u8 0, .int .u8 0, .int .u8 0, .int .u8 0, .int .u8 0, .int .u8 0, .int .u8 0] := rfl
theorem arr10_set (pre : List Int) (x : Int) (h : pre.length < 10) : ((arr10 pre).toArray.setIfInBounds pre.length (.int .u8 x)) = (arr10 (pre ++ [x])).toArray := by
  rw [List.setIfInBounds_toArray]
  congr 1
  unfold arr10
  rw [List.set_append_right _ _ (by simp)]
  have e : 10 - pre.length = (10 - (pre ++ [x]).length) + 1 := by simp; omega
  rw [e, List.replicate_succ]
  simp
theorem arr10_cell {w : World} {g : Nat} {T : TypeId} {pre : List Int} (h : w.heap[g]? = some (.cells (arr10 pre).toArray T (0, 0))) (hl : pre.length < 10) :
    w.cell? ⟨g, pre.length, none⟩ = some (.int .u8 0) ∧ w.frozen? ⟨g, pre.length, none⟩ = false := by
  have e : 10 - pre.length = (9 - pre.length) + 1 := by omega
  constructor
  · simp [World.cell?, h, arr10]; rw [e, List.replicate_succ]; simp
  · simp [World.frozen?, h]
theorem arr10_at {w : World} {g : Nat} {T : TypeId} {pre : List Int} (h : w.heap[g]? = some (.cells (arr10 pre).toArray T (0, 0))) (i : Nat) (hi : i < pre.length) :
    w.cell? ⟨g, 0 + i, none⟩ = some (.int .u8 (pre.getD i 0)) := by
  simp [World.cell?, h, arr10, List.getElem?_append_left, hi]
end Go.Proofs.YtnknnfgimiljjaaGreatDoor
/-
  What PutNum answers, in the program and in the specification: the bytes 'putB n', in new memory.
  Conditions: n is an int64.
-/
namespace Go.Proofs.YtnknnfgimiljjaaGreatDoor
open Go.RowKit Go.Lib
set_option linter.unusedVariables false

theorem ret_intP {k : IntKind} {a b : Int} (h : a = b) : Ending.returned (.int k a) = .returned (.int k b) := by rw [h]
theorem infoU8p : (Tryz.prog.info? 5).map (fun i => (i.zero, i.size, i.bytes)) = some (some (.int .u8 0), 1, 1) := by kernel_rfl

set_option maxHeartbeats 400000 in
theorem specFold_any (n : Int) (w : World) (h0 : -9223372036854775808 ≤ n) (h1 : n ≤ 9223372036854775807) :
    Calls Tryz.prog 131 #[.int .i64 n] w fun e w' => e = .returned (.int .u64 (foldN n)) ∧ w' = w := by
  by_cases hn : 0 ≤ n
  · have H : Hid (foldN n = 2 * n) := if_pos hn
    go_enter Tryz.func131, Tryz.ntmps131
    go_wp2
    go_ret
    exact ⟨ret_intP H.out.symm, rfl⟩
  · have H : Hid (foldN n = -2 * n - 1) := if_neg hn
    go_enter Tryz.func131, Tryz.ntmps131
    go_wp2
    go_ret
    exact ⟨ret_intP (by rw [H.out]; omega), rfl⟩

theorem own_conv {w : World} {base g k cap : Nat} {xs : List Int} (h : w.ownsRow base 5 1 (.slice (some ⟨g, 0, none⟩) k cap) k (xs.map (Value.int .u8))) (hl : xs.length = k) :
    (convert 22 9 (.slice (some ⟨g, 0, none⟩) k cap)).run Tryz.prog w = .ok (.string (strOfNums xs)) w :=
  run_convert_bytes_arg (P := Tryz.prog) w 22 5 Tryz.underlying22 Tryz.underlying5 g 0 k cap xs hl (fun i hi => by
    rw [Nat.zero_add, h.cellAt i (by omega)]
    have : i < xs.length := by omega
    simp [List.getD, List.getElem?_eq_getElem this]) 9 Tryz.underlying9

set_option maxHeartbeats 1000000 in
theorem specPutNum_any (n : Int) (w : World) (h0 : -9223372036854775808 ≤ n) (h1 : n ≤ 9223372036854775807) :
    Calls Tryz.prog 86 #[.int .i64 n] w fun e w' => e = .returned (.string (putB n)) ∧ Below w.heap.size w w' := by
  have hfb := foldN_bd h0 h1
  obtain ⟨i0, hi, hz0, hz1, hz2⟩ := info_parts infoU8p
  go_enter Tryz.func86, Tryz.ntmps86
  go_wp2_with (go_at_call 131; refine (specFold_any _ _ h0 h1).mono ?_; rintro e w1 ⟨rfl, hw⟩)
  subst hw
  go_loopw [3, 4] (fun x v wr => ∃ (k : Nat) (pre : List Int) (u : Int) (g cap : Nat), x = .int .u64 u ∧ v = .slice (some ⟨g, 0, none⟩) k cap ∧ Hid (PutTo (foldN n) k pre u) ∧ wr.ownsRow w1.heap.size 5 1 (.slice (some ⟨g, 0, none⟩) k cap) k (pre.map (Value.int .u8)) ∧ Below w1.heap.size w1 wr) (fun x _ _ => (Go.RowKit.intOf x).toNat)
  case atStart =>
    exact ⟨0, [], foldN n, w1.heap.size, 0, rfl, rfl, putTo_start hfb.1 hfb.2, World.ownsRow_made w1 #[] 0 (Nat.le_refl _) (by unfold maxLen; omega) rfl, (Below.refl _ _).alloc (Nat.le_refl _) _⟩
  case round =>
    obtain ⟨k, pre, u, g, cap, rfl, rfl, HP, hown, hnx⟩ := hrel
    have hk : k ≤ 9 := HP.out.1
    have hu0 : 0 ≤ u := HP.out.2.2.1
    have hu1 : u ≤ 18446744073709551615 := by have := HP.out.2.2.2.2.2.2; omega
    have hlen : pre.length = k := HP.out.2.1
    have HL : Hid (pre.length = k) := hlen
    have hsz : w1.heap.size ≤ wr.heap.size := hnx.size
    clear hlen
    by_cases hlt : 128 ≤ u
    · have HQ : Hid (PutTo (foldN n) (k + 1) (pre ++ [u % 128 + 128]) (u / 128)) := putTo_step HP.out hlt
      go_wp2_with (at_builtin; refine wpList_append_lies _ rfl _ _ 22 rfl w1.heap.size 5 i0 (.int .u8 0) 1 1 Tryz.underlying22 hi hz0 hz1 hz2 rfl (by omega) _ k _ rfl (hown.alloc _) ⟨wr.heap.size, 0, none⟩ 1 1 [.int .u8 (u % 128 + 128)] rfl rfl (World.news_of_block (cs := #[.int .u8 (u % 128 + 128)]) (t := 5) (fr := (0, 0)) (heap_alloc_new wr _)) (by simp [Value.oneCell']) (by omega) (by unfold maxLen; omega) (by omega) (by simp; omega) (wr.heap.size + 1) (by simp) ?_; intro g2 cap2 w2 hown2 hgrow hat hltg)
      have hb2 : Below w1.heap.size w1 w2 := (hnx.alloc hsz _).grown hgrow (by simp; omega) (fun j hj => (hown.lt j hj).1)
      have ho2 : w2.ownsRow w1.heap.size 5 1 (.slice (some ⟨g2, 0, none⟩) (k + 1) cap2) (k + 1) ((pre ++ [u % 128 + 128]).map (Value.int .u8)) := by rw [List.map_append]; exact hown2
      go_roundw
      case rel => exact ⟨k + 1, pre ++ [u % 128 + 128], u / 128, g2, cap2, rfl, rfl, HQ, ho2, hb2⟩
      case measure => simp [Go.RowKit.intOf]; omega
    · have HE : Hid (putB n = strOfNums (pre ++ [u])) := by show putB n = _; unfold putB; rw [putTo_end HP.out (by omega)]
      go_wp2_with (at_builtin; refine wpList_append_lies _ rfl _ _ 22 rfl w1.heap.size 5 i0 (.int .u8 0) 1 1 Tryz.underlying22 hi hz0 hz1 hz2 rfl (by omega) _ k _ rfl (hown.alloc _) ⟨wr.heap.size, 0, none⟩ 1 1 [.int .u8 u] rfl rfl (World.news_of_block (cs := #[.int .u8 u]) (t := 5) (fr := (0, 0)) (heap_alloc_new wr _)) (by simp [Value.oneCell']) (by omega) (by unfold maxLen; omega) (by omega) (by simp; omega) (wr.heap.size + 1) (by simp) ?_; intro g2 cap2 w2 hown2 hgrow hat hltg; have hconv := own_conv (xs := pre ++ [u]) (by rw [List.map_append]; exact hown2) (by rw [List.length_append, HL.out]; rfl))
      go_ret
      exact ⟨ret_str HE.out.symm, (hnx.alloc hsz _).grown hgrow (by simp; omega) (fun j hj => (hown.lt j hj).1)⟩

theorem heap_set {w : World} {g i : Nat} {cs : Array Value} {T : TypeId} (hg : w.heap[g]? = some (.cells cs T (0, 0))) (v : Value) : (w.setCell ⟨g, i, none⟩ v).heap[g]? = some (.cells (cs.setIfInBounds i v) T (0, 0)) := by
  simp [World.setCell, Array.getElem?_modify, hg]

theorem arr_conv {w : World} {g k : Nat} {pre : List Int} (h : w.heap[g]? = some (.cells (arr10 pre).toArray 109 (0, 0))) (hl : pre.length = k) :
    (convert 22 9 (.slice (some ⟨g, 0, none⟩) k 10)).run Tryz.prog w = .ok (.string (strOfNums pre)) w :=
  run_convert_bytes_arg (P := Tryz.prog) w 22 5 Tryz.underlying22 Tryz.underlying5 g 0 k 10 pre hl (fun i hi => arr10_at h i (by omega)) 9 Tryz.underlying9

theorem len10 : Tryz.prog.arrayLen 109 = 10 := by kernel_rfl
theorem under10 : Tryz.prog.underlying 109 = some (.array (Tryz.prog.arrayLen 109) (Tryz.prog.elem 109)) := by kernel_rfl
theorem size10 (wx : World) : (sizeOf (Tryz.prog.elem 109)).run Tryz.prog wx = .ok 1 wx := by kernel_rfl
theorem arr_slice (g k : Nat) (hk : k ≤ 9) (wx : World) :
    (Instr.sliceAt 109 (.pointer (some ⟨g, 0, none⟩)) none (some (.int .i64 ((k : Int) + 1))) none).run Tryz.prog wx = .ok (.slice (some ⟨g, 0, none⟩) (k + 1) 10) wx := by
  have h10 := len10
  rw [run_sliceAt_array_h (P := Tryz.prog) wx 109 ⟨g, 0, none⟩ under10 .i64 ((k : Int) + 1) (by omega) (by rw [h10]; omega), size10, h10]
  simp [Result.andThen, slicedAt, Addr.add]

set_option maxHeartbeats 1000000 in
theorem implPutNum_any (n : Int) (w : World) (h0 : -9223372036854775808 ≤ n) (h1 : n ≤ 9223372036854775807) :
    Calls Tryz.prog 45 #[.int .i64 n] w fun e w' => e = .returned (.string (putB n)) ∧ Below w.heap.size w w' := by
  have hfb := foldN_bd h0 h1
  have HF : Hid (putB n = strOfNums (putI 9 (foldN n))) := rfl
  have HS : Hid ((w.alloc (.cells (arr10 []).toArray 109)).heap[w.heap.size]? = some (.cells (arr10 []).toArray 109 (0, 0))) := (MapKept.heap_alloc w _).1
  rw [arr10_nil] at HS
  obtain ⟨u0, hu⟩ : ∃ u0, u0 = foldN n := ⟨_, rfl⟩
  have HU : Hid (u0 = foldN n) := hu
  rw [← hu] at hfb HF
  by_cases hn : 0 ≤ n
  · have hx : n * 2 = u0 := by rw [hu]; unfold foldN; rw [if_pos hn]; omega
    have HX : Hid (n * 2 = u0) := hx
    clear hu hx
    go_enter Tryz.func45, Tryz.ntmps45
    go_wp2
    go_loopw [3, 5] (fun x i wr => ∃ (k : Nat) (pre : List Int) (u : Int), x = .int .u64 u ∧ i = .int .i64 k ∧ Hid (PutTo u0 k pre u) ∧ Hid (wr.heap[w.heap.size]? = some (.cells (arr10 pre).toArray 109 (0, 0))) ∧ Below w.heap.size w wr) (fun x _ _ => (Go.RowKit.intOf x).toNat)
    case atStart => exact ⟨0, [], u0, by rw [HX.out], rfl, putTo_start hfb.1 hfb.2, HS, (Below.refl _ _).alloc (Nat.le_refl _) _⟩
    case round =>
      obtain ⟨k, pre, u, rfl, rfl, HP, hrow, hnx⟩ := hrel
      have hk : k ≤ 9 := HP.out.1
      have hu0 : 0 ≤ u := HP.out.2.2.1
      have hu1 : u ≤ 18446744073709551615 := by have := HP.out.2.2.2.2.2.2; omega
      have hlen : pre.length = k := HP.out.2.1
      have hsz : w.heap.size < wr.heap.size := lt_of_block hrow.out
      obtain ⟨hck, hfk⟩ := arr10_cell hrow.out (by omega)
      rw [hlen] at hck hfk
      by_cases hlt : 128 ≤ u
      · have HQ : Hid (PutTo u0 (k + 1) (pre ++ [u % 128 + 128]) (u / 128)) := putTo_step HP.out hlt
        have HO : Hid (bits .or .u8 (u % 256) 128 = u % 128 + 128) := or128 u hu0
        have HR : Hid ((wr.setCell ⟨w.heap.size, k, none⟩ (.int .u8 (bits .or .u8 (u % 256) 128))).heap[w.heap.size]? = some (.cells (arr10 (pre ++ [u % 128 + 128])).toArray 109 (0, 0))) := by
          show _ = _; rw [HO.out, heap_set hrow.out, ← hlen, arr10_set _ _ (by omega)]
        clear hlen
        have hb2 : Below w.heap.size w (wr.setCell ⟨w.heap.size, k, none⟩ (.int .u8 (bits .or .u8 (u % 256) 128))) := hnx.setCell (Nat.le_refl _) _
        go_wp2
        go_roundw
        case rel => exact ⟨k + 1, pre ++ [u % 128 + 128], u / 128, rfl, by go_num, HQ, HR, hb2⟩
        case measure => simp [Go.RowKit.intOf]; omega
      · have HE : Hid (putB n = strOfNums (pre ++ [u])) := by show putB n = _; rw [HF.out, putTo_end HP.out (by omega)]
        have HR : (wr.setCell ⟨w.heap.size, k, none⟩ (.int .u8 u)).heap[w.heap.size]? = some (.cells (arr10 (pre ++ [u])).toArray 109 (0, 0)) := by
          rw [heap_set hrow.out, ← hlen, arr10_set _ _ (by omega)]
        have hconv := arr_conv HR (k := k + 1) (by simp [hlen])
        have hsl := arr_slice w.heap.size k hk
        clear hlen HR
        go_wp2
        go_ret
        exact ⟨ret_str HE.out.symm, hnx.setCell (Nat.le_refl _) _⟩
  · have hx : bits .xor .u64 IntKind.u64.max (IntKind.u64.wrap (IntKind.u64.wrap n * 2)) = u0 := by rw [hu]; exact fold_xor n (by omega) h0
    have HX : Hid (bits .xor .u64 IntKind.u64.max (IntKind.u64.wrap (IntKind.u64.wrap n * 2)) = u0) := hx
    clear hu hx
    go_enter Tryz.func45, Tryz.ntmps45
    go_wp2
    go_loopw [3, 5] (fun x i wr => ∃ (k : Nat) (pre : List Int) (u : Int), x = .int .u64 u ∧ i = .int .i64 k ∧ Hid (PutTo u0 k pre u) ∧ Hid (wr.heap[w.heap.size]? = some (.cells (arr10 pre).toArray 109 (0, 0))) ∧ Below w.heap.size w wr) (fun x _ _ => (Go.RowKit.intOf x).toNat)
    case atStart => exact ⟨0, [], u0, by rw [HX.out], rfl, putTo_start hfb.1 hfb.2, HS, (Below.refl _ _).alloc (Nat.le_refl _) _⟩
    case round =>
      obtain ⟨k, pre, u, rfl, rfl, HP, hrow, hnx⟩ := hrel
      have hk : k ≤ 9 := HP.out.1
      have hu0 : 0 ≤ u := HP.out.2.2.1
      have hu1 : u ≤ 18446744073709551615 := by have := HP.out.2.2.2.2.2.2; omega
      have hlen : pre.length = k := HP.out.2.1
      have hsz : w.heap.size < wr.heap.size := lt_of_block hrow.out
      obtain ⟨hck, hfk⟩ := arr10_cell hrow.out (by omega)
      rw [hlen] at hck hfk
      by_cases hlt : 128 ≤ u
      · have HQ : Hid (PutTo u0 (k + 1) (pre ++ [u % 128 + 128]) (u / 128)) := putTo_step HP.out hlt
        have HO : Hid (bits .or .u8 (u % 256) 128 = u % 128 + 128) := or128 u hu0
        have HR : Hid ((wr.setCell ⟨w.heap.size, k, none⟩ (.int .u8 (bits .or .u8 (u % 256) 128))).heap[w.heap.size]? = some (.cells (arr10 (pre ++ [u % 128 + 128])).toArray 109 (0, 0))) := by
          show _ = _; rw [HO.out, heap_set hrow.out, ← hlen, arr10_set _ _ (by omega)]
        clear hlen
        have hb2 : Below w.heap.size w (wr.setCell ⟨w.heap.size, k, none⟩ (.int .u8 (bits .or .u8 (u % 256) 128))) := hnx.setCell (Nat.le_refl _) _
        go_wp2
        go_roundw
        case rel => exact ⟨k + 1, pre ++ [u % 128 + 128], u / 128, rfl, by go_num, HQ, HR, hb2⟩
        case measure => simp [Go.RowKit.intOf]; omega
      · have HE : Hid (putB n = strOfNums (pre ++ [u])) := by show putB n = _; rw [HF.out, putTo_end HP.out (by omega)]
        have HR : (wr.setCell ⟨w.heap.size, k, none⟩ (.int .u8 u)).heap[w.heap.size]? = some (.cells (arr10 (pre ++ [u])).toArray 109 (0, 0)) := by
          rw [heap_set hrow.out, ← hlen, arr10_set _ _ (by omega)]
        have hconv := arr_conv HR (k := k + 1) (by simp [hlen])
        have hsl := arr_slice w.heap.size k hk
        clear hlen HR
        go_wp2
        go_ret
        exact ⟨ret_str HE.out.symm, hnx.setCell (Nat.le_refl _) _⟩
end Go.Proofs.YtnknnfgimiljjaaGreatDoor
/-
  What PutText answers, in the program and in the specification: the length's bytes and the text behind them, or the empty text.
  Conditions: the string fits the form's own reach.
-/
namespace Go.Proofs.YtnknnfgimiljjaaGreatDoor
open Go.RowKit Go.Lib
set_option linter.unusedVariables false

def putTextB (s : ByteArray) : ByteArray := if 8000 < s.size then ByteArray.empty else putB (s.size : Int) ++ s

theorem putI_len : ∀ (f : Nat) (u : Int), (putI f u).length ≤ f + 1
  | 0, u => Nat.le_refl _
  | f + 1, u => by
    unfold putI; split
    · simp
    · have := putI_len f (u / 128); simp; omega
theorem putB_size (n : Int) : (putB n).size ≤ 10 := by unfold putB; rw [strOfNums_size]; exact putI_len 9 _

set_option maxRecDepth 100000 in
set_option maxHeartbeats 1000000 in
theorem specPutText_any (s : ByteArray) (w : World) (hs : s.size ≤ maxLen) :
    Calls Tryz.prog 87 #[.string s] w fun e w' => e = .returned (.string (putTextB s)) ∧ Below w.heap.size w w' := by
  have hs' := hs
  unfold maxLen at hs'
  by_cases h : 8000 < s.size
  · have H : Hid (putTextB s = ByteArray.empty) := if_pos h
    go_enter Tryz.func87, Tryz.ntmps87
    go_wp2_with fail
    go_ret
    exact ⟨ret_str (H.out.trans rfl).symm, Below.refl _ _⟩
  · have H : Hid (putTextB s = putB (s.size : Int) ++ s) := if_neg h
    have hp := putB_size (s.size : Int)
    go_enter Tryz.func87, Tryz.ntmps87
    go_wp2_with (go_at_call 86; refine (specPutNum_any _ _ (by omega) (by omega)).mono ?_; rintro e w1 ⟨rfl, hb1⟩)
    go_ret
    exact ⟨ret_str (by rw [H.out]), hb1⟩

set_option maxRecDepth 100000 in
set_option maxHeartbeats 1000000 in
theorem implPutText_any (s : ByteArray) (w : World) (hs : s.size ≤ maxLen) :
    Calls Tryz.prog 47 #[.string s] w fun e w' => e = .returned (.string (putTextB s)) ∧ Below w.heap.size w w' := by
  have hs' := hs
  unfold maxLen at hs'
  by_cases h : 8000 < s.size
  · have H : Hid (putTextB s = ByteArray.empty) := if_pos h
    go_enter Tryz.func47, Tryz.ntmps47
    go_wp2_with fail
    go_ret
    exact ⟨ret_str (H.out.trans rfl).symm, Below.refl _ _⟩
  · have H : Hid (putTextB s = putB (s.size : Int) ++ s) := if_neg h
    have hp := putB_size (s.size : Int)
    go_enter Tryz.func47, Tryz.ntmps47
    go_wp2_with (first | (go_at_call 45; refine (implPutNum_any _ _ (by omega) (by omega)).mono ?_; rintro e w1 ⟨rfl, hb1⟩) | (go_at_call 44; refine (joined_two _ _ _ (by omega)).mono ?_; rintro e w2 ⟨rfl, hb2⟩))
    go_ret
    exact ⟨ret_str (by rw [H.out]), hb1.trans (hb2.mono hb1.size)⟩
end Go.Proofs.YtnknnfgimiljjaaGreatDoor
/-
  Rows of fields as plain functions: a field's digest, when a field and a row are right, a row's leaf, what forgetting leaves; cells that hold fields.
-/
namespace Go.Proofs.YtnknnfgimiljjaaGreatDoor
open Go.RowKit Go.Lib
set_option linter.unusedVariables false

/-- A field of a row. -/
structure Fld where
  n : ByteArray
  c : ByteArray
  s : ByteArray
  v : ByteArray
  g : Bool
/-- The cells that a slice of fields leads to hold these (of none nothing is asked: also nil). -/
def FldAt (w : World) (p : Option Addr) (fs : List Fld) : Prop :=
  ∀ i (h : i < fs.length), ∃ b off, p = some ⟨b, off, none⟩ ∧ b < w.heap.size ∧ w.cell? ⟨b, off + i * 5, none⟩ = some (.string fs[i].n) ∧ w.cell? ⟨b, off + i * 5 + 1, none⟩ = some (.string fs[i].c) ∧ w.cell? ⟨b, off + i * 5 + 2, none⟩ = some (.string fs[i].s) ∧ w.cell? ⟨b, off + i * 5 + 3, none⟩ = some (.string fs[i].v) ∧ w.cell? ⟨b, off + i * 5 + 4, none⟩ = some (.bool fs[i].g)
theorem FldAt.below {w w' : World} {p : Option Addr} {fs : List Fld} (h : FldAt w p fs) (hb : Below w.heap.size w w') : FldAt w' p fs := by
  intro i hi
  obtain ⟨b, off, rfl, h1, h2, h3, h4, h5, h6⟩ := h i hi
  exact ⟨b, off, rfl, Nat.lt_of_lt_of_le h1 hb.size, (hb.cell (p := ⟨b, off + i * 5, none⟩) h1).trans h2, (hb.cell (p := ⟨b, off + i * 5 + 1, none⟩) h1).trans h3, (hb.cell (p := ⟨b, off + i * 5 + 2, none⟩) h1).trans h4, (hb.cell (p := ⟨b, off + i * 5 + 3, none⟩) h1).trans h5, (hb.cell (p := ⟨b, off + i * 5 + 4, none⟩) h1).trans h6⟩
theorem FldAt.nil (w : World) (p : Option Addr) : FldAt w p [] := fun i h => by simp at h
theorem FldAt.at {w : World} {b off : Nat} {fs : List Fld} (h : FldAt w (some ⟨b, off, none⟩) fs) (i : Nat) (hi : i < fs.length) : w.cell? ⟨b, off + i * 5, none⟩ = some (.string fs[i].n) ∧ w.cell? ⟨b, off + i * 5 + 1, none⟩ = some (.string fs[i].c) ∧ w.cell? ⟨b, off + i * 5 + 2, none⟩ = some (.string fs[i].s) ∧ w.cell? ⟨b, off + i * 5 + 3, none⟩ = some (.string fs[i].v) ∧ w.cell? ⟨b, off + i * 5 + 4, none⟩ = some (.bool fs[i].g) := by
  obtain ⟨b', off', h0, h1, h2⟩ := h i hi
  cases h0; exact h2
theorem FldAt.some_of {w : World} {p : Option Addr} {fs : List Fld} (h : FldAt w p fs) (h0 : 0 < fs.length) : ∃ b off, p = some ⟨b, off, none⟩ ∧ b < w.heap.size := by
  obtain ⟨b, off, rfl, hb, -⟩ := h 0 h0
  exact ⟨b, off, rfl, hb⟩
def fldCells (f : Fld) : List Value := [.string f.n, .string f.c, .string f.s, .string f.v, .bool f.g]
def fldRow (fs : List Fld) : List Value := fs.flatMap fldCells
theorem fldRow_len (fs : List Fld) : (fldRow fs).length = fs.length * 5 := by
  induction fs with
  | nil => rfl
  | cons f fs ih => unfold fldRow at *; rw [List.flatMap_cons, List.length_append, ih]; simp [fldCells]; omega
theorem fldRow_append (fs gs : List Fld) : fldRow (fs ++ gs) = fldRow fs ++ fldRow gs := by simp [fldRow]
theorem fldRow_at (fs : List Fld) : ∀ (i : Nat) (h : i < fs.length), (fldRow fs)[i * 5]? = some (.string fs[i].n) ∧ (fldRow fs)[i * 5 + 1]? = some (.string fs[i].c) ∧ (fldRow fs)[i * 5 + 2]? = some (.string fs[i].s) ∧ (fldRow fs)[i * 5 + 3]? = some (.string fs[i].v) ∧ (fldRow fs)[i * 5 + 4]? = some (.bool fs[i].g) := by
  induction fs with
  | nil => intro i h; simp at h
  | cons f fs ih =>
    intro i h
    match i with
    | 0 => exact ⟨rfl, rfl, rfl, rfl, rfl⟩
    | i + 1 =>
      have := ih i (by simpa using h)
      rw [show (i + 1) * 5 = i * 5 + 5 by omega]
      exact this
theorem ownF_form {w : World} {base : Nat} {v : Value} {l : List Fld} (h : w.ownsRow base 72 5 v l.length (fldRow l)) : ∃ p cap, v = .slice p l.length cap ∧ l.length ≤ cap ∧ FldAt w p l := by
  rcases h.2 with ⟨rfl, h0⟩ | ⟨g, cap, cur, rfl, h2, h3, h4, h5, h6, h7⟩
  · have hl : l = [] := List.length_eq_zero_iff.1 h0
    subst hl
    exact ⟨none, 0, rfl, Nat.le_refl _, FldAt.nil _ _⟩
  · refine ⟨some ⟨g, 0, none⟩, cap, rfl, h4, fun i hi => ⟨g, 0, rfl, lt_of_block h3, ?_⟩⟩
    have h8 := fldRow_at l i hi
    rw [← h7, List.getElem?_take_of_lt (by omega), List.getElem?_take_of_lt (by omega), List.getElem?_take_of_lt (by omega), List.getElem?_take_of_lt (by omega), List.getElem?_take_of_lt (by omega)] at h8
    rw [Nat.zero_add]
    simpa [World.cell?, h3] using h8

/-! ### A field's digest -/
def cmOk (n s v : ByteArray) : Bool := nrB n && (decide (1 ≤ s.size ∧ s.size ≤ 8) && decide (v.size ≤ 16))
def two1 : ByteArray := ⟨#[2]⟩
def cmT (n s v : ByteArray) : ByteArray := two1 ++ putTextB n ++ putTextB s ++ putTextB v
def cmB (n s v : ByteArray) : ByteArray := if cmOk n s v = true then digB (cmT n s v) else ByteArray.empty
theorem cmB_size (n s v : ByteArray) : (cmB n s v).size ≤ 32 := by
  unfold cmB; split
  · rw [digB_size]; exact Nat.le_refl _
  · simp
theorem putTextB_le (s : ByteArray) (h : s.size ≤ 8000) : (putTextB s).size ≤ s.size + 10 := by
  unfold putTextB
  rw [if_neg (by omega), ByteArray.size_append]
  have : (putB (s.size : Int)).size ≤ 10 := by unfold putB; rw [strOfNums_size]; exact putI_len 9 _
  omega
theorem nrB_le {s : ByteArray} (h : nrB s = true) : 1 ≤ s.size ∧ s.size ≤ 20 := by
  unfold nrB at h
  rw [decide_eq_true_iff] at h
  exact ⟨h.1, h.2.1⟩
/-! ### When a field and a row are right -/
def emB (s : ByteArray) : Bool := s.toList == ByteArray.empty.toList
def fdB (f : Fld) : Bool := nrB f.n && (decide (f.c.size = 32) && (if f.g = true then emB f.s && emB f.v else f.c.toList == (cmB f.n f.s f.v).toList))
theorem toL_iff (a b : ByteArray) : (a.toList == b.toList) = true ↔ a = b := by
  rw [beq_iff_eq]
  constructor
  · intro h; apply ByteArray.ext; apply Array.ext'; simpa [toList_data] using h
  · rintro rfl; rfl
theorem emB_iff (s : ByteArray) : emB s = true ↔ s = ByteArray.empty := toL_iff s _
theorem emB_isEmpty (s : ByteArray) : s.toList.isEmpty = emB s := by
  have e : ByteArray.empty.toList = [] := by simp [toList_data]
  unfold emB
  rw [e]
  cases s.toList <;> rfl
theorem fdB_parts {f : Fld} (h : fdB f = true) : nrB f.n = true ∧ f.c.size = 32 ∧ (f.g = true → f.s = ByteArray.empty ∧ f.v = ByteArray.empty) ∧ (f.g = false → f.c = cmB f.n f.s f.v ∧ cmOk f.n f.s f.v = true) := by
  unfold fdB at h
  rw [Bool.and_eq_true, Bool.and_eq_true, decide_eq_true_iff] at h
  obtain ⟨h1, h2, h3⟩ := h
  refine ⟨h1, h2, fun hg => ?_, fun hg => ?_⟩
  · rw [if_pos hg, Bool.and_eq_true, emB_iff, emB_iff] at h3; exact h3
  · rw [if_neg (by rw [hg]; exact Bool.false_ne_true), toL_iff] at h3
    refine ⟨h3, ?_⟩
    cases hk : cmOk f.n f.s f.v with
    | true => rfl
    | false =>
      unfold cmB at h3
      rw [if_neg (by rw [hk]; exact Bool.false_ne_true)] at h3
      rw [h3] at h2; simp at h2
/-- The names rise. -/
def rise : List Fld → Bool
  | [] => true
  | [_] => true
  | a :: b :: r => Op.bytesLess a.n.toList b.n.toList && rise (b :: r)
def rwB (k : ByteArray) (at_ : Int) (fs : List Fld) : Bool := nrB k && (timeB at_ && (decide (1 ≤ fs.length ∧ fs.length ≤ 3) && (fs.all fdB && rise fs)))
theorem rwB_parts {k : ByteArray} {at_ : Int} {fs : List Fld} (h : rwB k at_ fs = true) : nrB k = true ∧ (0 ≤ at_ ∧ at_ ≤ 1000000) ∧ (1 ≤ fs.length ∧ fs.length ≤ 3) ∧ (∀ f ∈ fs, fdB f = true) ∧ rise fs = true := by
  unfold rwB timeB at h
  rw [Bool.and_eq_true, Bool.and_eq_true, Bool.and_eq_true, Bool.and_eq_true, decide_eq_true_iff, decide_eq_true_iff, List.all_eq_true] at h
  exact ⟨h.1, h.2.1, h.2.2.1, h.2.2.2.1, h.2.2.2.2⟩
theorem rwB_of {k : ByteArray} {at_ : Int} {fs : List Fld} (h1 : nrB k = true) (h2 : 0 ≤ at_ ∧ at_ ≤ 1000000) (h3 : 1 ≤ fs.length ∧ fs.length ≤ 3) (h4 : ∀ f ∈ fs, fdB f = true) (h5 : rise fs = true) : rwB k at_ fs = true := by
  unfold rwB timeB
  rw [h1, decide_eq_true h2, decide_eq_true h3, h5, List.all_eq_true.2 h4]; rfl
/-! ### The leaf -/
def fdT (f : Fld) : ByteArray := putTextB f.n ++ putTextB f.c
def lfTo (t : ByteArray) : List Fld → ByteArray
  | [] => t
  | f :: r => lfTo (t ++ putTextB f.n ++ putTextB f.c) r
def lfT (k : ByteArray) (at_ : Int) (fs : List Fld) : ByteArray := lfTo (putTextB k ++ putB at_ ++ putB (fs.length : Int)) fs
def one101 : ByteArray := ⟨#[101]⟩
def lfB (k : ByteArray) (at_ : Int) (fs : List Fld) : ByteArray := if rwB k at_ fs = true then one101 ++ digB (lfT k at_ fs) else ByteArray.empty
/-- The name and the digest are the same. -/
def same2 (fs gs : List Fld) : Prop := fs.map (fun f => (f.n, f.c)) = gs.map (fun f => (f.n, f.c))
theorem same2.len {fs gs : List Fld} (h : same2 fs gs) : fs.length = gs.length := by simpa using congrArg List.length h
theorem lfTo_same : ∀ {fs gs : List Fld} (t : ByteArray), same2 fs gs → lfTo t fs = lfTo t gs
  | [], [], _, _ => rfl
  | [], _ :: _, _, h => by cases h
  | _ :: _, [], _, h => by cases h
  | f :: fs, g :: gs, t, h => by
    unfold same2 at h
    simp only [List.map_cons, List.cons.injEq, Prod.mk.injEq] at h
    obtain ⟨⟨h1, h2⟩, h3⟩ := h
    show lfTo (t ++ putTextB f.n ++ putTextB f.c) fs = lfTo (t ++ putTextB g.n ++ putTextB g.c) gs
    rw [h1, h2]
    exact lfTo_same _ h3
theorem lfT_same {k : ByteArray} {at_ : Int} {fs gs : List Fld} (h : same2 fs gs) : lfT k at_ fs = lfT k at_ gs := by
  unfold lfT; rw [h.len]; exact lfTo_same _ h
theorem rise_same : ∀ {fs gs : List Fld}, same2 fs gs → rise fs = rise gs
  | [], [], _ => rfl
  | [], _ :: _, h => by cases h
  | _ :: _, [], h => by cases h
  | [_], [_], _ => rfl
  | [_], _ :: _ :: _, h => by simp [same2] at h
  | _ :: _ :: _, [_], h => by simp [same2] at h
  | a :: b :: r, c :: d :: s, h => by
    unfold same2 at h
    simp only [List.map_cons, List.cons.injEq, Prod.mk.injEq] at h
    obtain ⟨⟨h1, h2⟩, ⟨h3, h4⟩, h5⟩ := h
    show (Op.bytesLess a.n.toList b.n.toList && rise (b :: r)) = (Op.bytesLess c.n.toList d.n.toList && rise (d :: s))
    rw [h1, h3, rise_same (fs := b :: r) (gs := d :: s) (by unfold same2; simp [h3, h4, h5])]
/-! ### What forgetting leaves -/
def goneF (f : Fld) : Fld := ⟨f.n, f.c, ByteArray.empty, ByteArray.empty, true⟩
theorem fdB_gone {f : Fld} (h : fdB f = true) : fdB (goneF f) = true := by
  obtain ⟨h1, h2, -⟩ := fdB_parts h
  have e1 : emB ByteArray.empty = true := (emB_iff _).2 rfl
  show (nrB f.n && (decide (f.c.size = 32) && (emB ByteArray.empty && emB ByteArray.empty))) = true
  rw [h1, decide_eq_true h2, e1]; rfl
theorem same2_set {fs : List Fld} (i : Nat) (f : Fld) (h : ∀ (hi : i < fs.length), f.n = fs[i].n ∧ f.c = fs[i].c) : same2 (fs.set i f) fs := by
  unfold same2
  apply List.ext_getElem
  · simp
  · intro j h1 h2
    simp only [List.getElem_map, List.getElem_set]
    by_cases hij : i = j
    · subst hij
      have := h (by simpa using h2)
      simp [this.1, this.2]
    · simp [hij]
theorem rwB_same {k : ByteArray} {at_ : Int} {fs gs : List Fld} (h : same2 gs fs) (hr : rwB k at_ fs = true) (hg : ∀ f ∈ gs, fdB f = true) : rwB k at_ gs = true := by
  obtain ⟨h1, h2, h3, h4, h5⟩ := rwB_parts hr
  exact rwB_of h1 h2 (by rw [h.len]; exact h3) hg (by rw [rise_same h]; exact h5)
theorem forget_right {k : ByteArray} {at_ : Int} {fs : List Fld} (hr : rwB k at_ fs = true) (i : Nat) (hi : i < fs.length) : rwB k at_ (fs.set i (goneF fs[i])) = true := by
  refine rwB_same (same2_set i _ (fun _ => ⟨rfl, rfl⟩)) hr (fun f hf => ?_)
  rcases List.mem_or_eq_of_mem_set hf with h | h
  · exact (rwB_parts hr).2.2.2.1 f h
  · rw [h]; exact fdB_gone ((rwB_parts hr).2.2.2.1 _ (List.getElem_mem hi))
theorem forget_leaf {k : ByteArray} {at_ : Int} {fs : List Fld} (hr : rwB k at_ fs = true) (i : Nat) (hi : i < fs.length) : lfB k at_ (fs.set i (goneF fs[i])) = lfB k at_ fs := by
  unfold lfB
  rw [if_pos hr, if_pos (forget_right hr i hi), lfT_same (same2_set i _ (fun _ => ⟨rfl, rfl⟩))]
end Go.Proofs.YtnknnfgimiljjaaGreatDoor
/-
  When names rise; a row that is not right; texts that are not too long.
-/
namespace Go.Proofs.YtnknnfgimiljjaaGreatDoor
open Go.RowKit Go.Lib
set_option linter.unusedVariables false

theorem rise_iff : ∀ (fs : List Fld), rise fs = true ↔ ∀ j (h0 : 0 < j) (h : j < fs.length), Op.bytesLess (fs[j - 1]'(by omega)).n.toList fs[j].n.toList = true
  | [] => ⟨fun _ j h0 h => by simp at h, fun _ => rfl⟩
  | [a] => ⟨fun _ j h0 h => by simp at h; omega, fun _ => rfl⟩
  | a :: b :: r => by
    have ih := rise_iff (b :: r)
    show (Op.bytesLess a.n.toList b.n.toList && rise (b :: r)) = true ↔ _
    rw [Bool.and_eq_true, ih]
    constructor
    · rintro ⟨h1, h2⟩ j h0 h
      match j, h0 with
      | 1, _ => exact h1
      | j + 2, _ => exact h2 (j + 1) (by omega) (by simpa using h)
    · intro h
      exact ⟨h 1 (by omega) (by simp), fun j h0 hj => by
        obtain ⟨m, rfl⟩ : ∃ m, j = m + 1 := ⟨j - 1, by omega⟩
        exact h (m + 1 + 1) (by omega) (by simpa using hj)⟩
theorem rwB_not_all {k : ByteArray} {at_ : Int} {fs : List Fld} {i : Nat} (hi : i < fs.length) (h : fdB fs[i] = false) : rwB k at_ fs = false := by
  cases hr : rwB k at_ fs with
  | false => rfl
  | true =>
    have := (rwB_parts hr).2.2.2.1 _ (List.getElem_mem hi)
    rw [h] at this; cases this
theorem rwB_not_rise {k : ByteArray} {at_ : Int} {fs : List Fld} {i : Nat} (h0 : 0 < i) (hi : i < fs.length) (h : Op.bytesLess (fs[i - 1]'(by omega)).n.toList fs[i].n.toList = false) : rwB k at_ fs = false := by
  cases hr : rwB k at_ fs with
  | false => rfl
  | true =>
    have := (rise_iff fs).1 (rwB_parts hr).2.2.2.2 i h0 hi
    rw [h] at this; cases this
/-- No text of a field is too long to be read. -/
def FldsLe (fs : List Fld) : Prop := ∀ f ∈ fs, f.n.size ≤ maxLen ∧ f.c.size ≤ maxLen ∧ f.s.size ≤ maxLen ∧ f.v.size ≤ maxLen
end Go.Proofs.YtnknnfgimiljjaaGreatDoor
/-
  How the bytes of a number are read, in plain mathematics: 'scan' goes over the groups of seven bits and hands back the code, the bits, and how many bytes it took.
-/
namespace Go.Proofs.YtnknnfgimiljjaaGreatDoor
open Go.RowKit Go.Lib
set_option linter.unusedVariables false

def scan : Nat → Nat → Int → List UInt8 → Int × Int × Nat
  | 0, _, _, _ => (3, 0, 0)
  | _ + 1, _, _, [] => (4, 0, 0)
  | f + 1, k, u, c :: r =>
    if k = 9 ∧ 1 < (c.toNat : Int) then (3, 0, 0)
    else if (c.toNat : Int) < 128 then (if (c.toNat : Int) = 0 ∧ 0 < k then (3, 0, 0) else (0, u + (c.toNat : Int) * 2 ^ (7 * k), k + 1))
    else scan f (k + 1) (u + ((c.toNat : Int) - 128) * 2 ^ (7 * k)) r

def unfoldN (u : Int) : Int := if u % 2 = 1 then -(u / 2) - 1 else u / 2
def numOut (n a c : Int) : Value := .agg #[.int .i64 n, .int .i64 a, .int .i64 c]
def scanAt (s : ByteArray) (a : Nat) : Int × Int × Nat := scan 10 0 0 (s.data.toList.drop a)
def getN (s : ByteArray) (a : Int) : Int × Int × Int :=
  if 8000 < s.size then (0, 0, 2) else if a < 0 then (0, 0, 1) else
  if (scanAt s a.toNat).1 = 0 then (unfoldN (scanAt s a.toNat).2.1, a + (scanAt s a.toNat).2.2, 0) else (0, 0, (scanAt s a.toNat).1)

def GetTo (s : ByteArray) (a k : Nat) (u : Int) : Prop :=
  k ≤ 9 ∧ 0 ≤ u ∧ u < 2 ^ (7 * k) ∧ scanAt s a = scan (10 - k) k u (s.data.toList.drop (a + k))

theorem getTo_start (s : ByteArray) (a : Nat) : GetTo s a 0 0 := ⟨by omega, Int.le_refl _, by decide, rfl⟩

theorem drop_cons (s : ByteArray) (i : Nat) (h : i < s.size) : s.data.toList.drop i = s[i] :: s.data.toList.drop (i + 1) := by
  rw [List.drop_eq_getElem_cons (by simpa using h)]; rfl

theorem getTo_short {s : ByteArray} {a k : Nat} {u : Int} (h : GetTo s a k u) (hl : s.size ≤ a + k) : scanAt s a = (4, 0, 0) := by
  obtain ⟨hk, _, _, he⟩ := h
  rw [he, List.drop_of_length_le (by simpa using hl), show 10 - k = (9 - k) + 1 by omega]; rfl

theorem getTo_big {s : ByteArray} {a k : Nat} {u : Int} (h : GetTo s a k u) (hl : a + k < s.size) (hk9 : k = 9) (hc : 1 < (s[a + k].toNat : Int)) : scanAt s a = (3, 0, 0) := by
  obtain ⟨hk, _, _, he⟩ := h
  rw [he, drop_cons s _ hl, show 10 - k = (9 - k) + 1 by omega, scan, if_pos ⟨hk9, hc⟩]

theorem getTo_zero {s : ByteArray} {a k : Nat} {u : Int} (h : GetTo s a k u) (hl : a + k < s.size) (hc : (s[a + k].toNat : Int) = 0) (hp : 0 < k) : scanAt s a = (3, 0, 0) := by
  obtain ⟨hk, _, _, he⟩ := h
  rw [he, drop_cons s _ hl, show 10 - k = (9 - k) + 1 by omega, scan, if_neg (by omega), if_pos (by omega), if_pos ⟨hc, hp⟩]

theorem getTo_ok {s : ByteArray} {a k : Nat} {u : Int} (h : GetTo s a k u) (hl : a + k < s.size) (hc : (s[a + k].toNat : Int) < 128) (h9 : k = 9 → (s[a + k].toNat : Int) ≤ 1) (hz : 0 < k → (s[a + k].toNat : Int) ≠ 0) :
    scanAt s a = (0, u + (s[a + k].toNat : Int) * 2 ^ (7 * k), k + 1) := by
  obtain ⟨hk, _, _, he⟩ := h
  rw [he, drop_cons s _ hl, show 10 - k = (9 - k) + 1 by omega, scan, if_neg (fun ⟨x, y⟩ => by have := h9 x; omega), if_pos hc, if_neg (fun ⟨x, y⟩ => hz y x)]

theorem pow7 (k : Nat) : (2 : Int) ^ (7 * (k + 1)) = 128 * 2 ^ (7 * k) := by
  rw [show 7 * (k + 1) = 7 * k + 7 by omega, Int.pow_add, show (2 : Int) ^ 7 = 128 by decide, Int.mul_comm]

theorem pow7_le : ∀ k : Nat, k ≤ 9 → (1 : Int) ≤ 2 ^ (7 * k) ∧ (2 : Int) ^ (7 * k) ≤ 9223372036854775808
  | 0, _ => by decide
  | 1, _ => by decide
  | 2, _ => by decide
  | 3, _ => by decide
  | 4, _ => by decide
  | 5, _ => by decide
  | 6, _ => by decide
  | 7, _ => by decide
  | 8, _ => by decide
  | 9, _ => by decide
  | k + 10, h => by omega

theorem pow7_le8 (k : Nat) (h : k ≤ 8) : (2 : Int) ^ (7 * k) ≤ 72057594037927936 := by
  have := (pow7_le (k + 1) (by omega)).2
  rw [pow7] at this; omega

theorem getTo_more {s : ByteArray} {a k : Nat} {u : Int} (h : GetTo s a k u) (hl : a + k < s.size) (hk8 : k ≤ 8) (hc : 128 ≤ (s[a + k].toNat : Int)) :
    GetTo s a (k + 1) (u + ((s[a + k].toNat : Int) - 128) * 2 ^ (7 * k)) := by
  obtain ⟨hk, h0, h1, he⟩ := h
  have hcb : (s[a + k].toNat : Int) ≤ 255 := by have := s[a + k].toNat_lt; omega
  have hp := (pow7_le k hk).1
  refine ⟨by omega, ?_, ?_, ?_⟩
  · have : 0 ≤ ((s[a + k].toNat : Int) - 128) * 2 ^ (7 * k) := Int.mul_nonneg (by omega) (by omega)
    omega
  · rw [pow7]
    have : ((s[a + k].toNat : Int) - 128) * 2 ^ (7 * k) ≤ 127 * 2 ^ (7 * k) := Int.mul_le_mul_of_nonneg_right (by omega) (by omega)
    omega
  · rw [he, drop_cons s _ hl, show 10 - k = (10 - (k + 1)) + 1 by omega, scan, if_neg (by omega), if_neg (by omega)]; rfl

/-- What is added at one byte stays below 2^64. -/
theorem add_fits {k : Nat} {u x : Int} (hk : k ≤ 9) (h0 : 0 ≤ u) (h1 : u < 2 ^ (7 * k)) (x0 : 0 ≤ x) (x1 : x ≤ 127) (x9 : k = 9 → x ≤ 1) :
    0 ≤ x * 2 ^ (7 * k) ∧ u + x * 2 ^ (7 * k) < 18446744073709551616 := by
  have hp := pow7_le k hk
  refine ⟨Int.mul_nonneg x0 (by omega), ?_⟩
  by_cases h9 : k = 9
  · have := x9 h9
    have : x * 2 ^ (7 * k) ≤ 1 * 2 ^ (7 * k) := Int.mul_le_mul_of_nonneg_right (by omega) (by omega)
    omega
  · have h8 := pow7_le8 k (by omega)
    have : x * 2 ^ (7 * k) ≤ 127 * 2 ^ (7 * k) := Int.mul_le_mul_of_nonneg_right (by omega) (by omega)
    omega

theorem wrap_small (x : Int) (h0 : 0 ≤ x) (h1 : x < 18446744073709551616) : IntKind.u64.wrap x = x := by
  simp [IntKind.wrap, IntKind.bits, IntKind.signed]; omega

theorem spec_add {k : Nat} {u x : Int} (hk : k ≤ 9) (h0 : 0 ≤ u) (h1 : u < 2 ^ (7 * k)) (x0 : 0 ≤ x) (x1 : x ≤ 127) (x9 : k = 9 → x ≤ 1) :
    IntKind.u64.wrap (u + IntKind.u64.wrap (x * 2 ^ (7 * k))) = u + x * 2 ^ (7 * k) := by
  have h := add_fits hk h0 h1 x0 x1 x9
  rw [wrap_small (x * 2 ^ (7 * k)) h.1 (by omega), wrap_small _ (by omega) h.2]

theorem impl_or {k : Nat} {u x : Int} (hk : k ≤ 9) (h0 : 0 ≤ u) (h1 : u < 2 ^ (7 * k)) (x0 : 0 ≤ x) (x1 : x ≤ 127) (x9 : k = 9 → x ≤ 1) :
    bits .or .u64 u (IntKind.u64.wrap (x * 2 ^ (7 * k))) = u + x * 2 ^ (7 * k) := by
  have h := add_fits hk h0 h1 x0 x1 x9
  rw [wrap_small (x * 2 ^ (7 * k)) h.1 (by omega)]
  obtain ⟨a, rfl⟩ := Int.eq_ofNat_of_zero_le h0
  obtain ⟨b, rfl⟩ := Int.eq_ofNat_of_zero_le x0
  have e : ((b : Int) * 2 ^ (7 * k)) = ((b * 2 ^ (7 * k) : Nat) : Int) := by rw [Int.natCast_mul, Int.natCast_pow]; rfl
  have ha : a < 2 ^ (7 * k) := by
    have : (a : Int) < ((2 ^ (7 * k) : Nat) : Int) := by rw [Int.natCast_pow]; exact h1
    omega
  rw [e] at h ⊢
  rw [bits_or_u64_nat a (b * 2 ^ (7 * k)) (by omega) (by omega)]
  have : a ||| b * 2 ^ (7 * k) = a + b * 2 ^ (7 * k) := by
    rw [Nat.or_comm, Nat.mul_comm, ← Nat.two_pow_add_eq_or_of_lt ha, Nat.add_comm]
  rw [this]; omega

theorem and127 (x : Int) (h0 : 0 ≤ x) (h1 : x ≤ 255) : bits .and .u8 x 127 = x % 128 := by
  have key : ∀ y : Fin 256, bits .and .u8 ((y.val : Nat) : Int) 127 = ((y.val % 128 : Nat) : Int) := by decide +kernel
  have := key ⟨x.toNat, by omega⟩
  simp only at this
  rw [show ((x.toNat : Nat) : Int) = x by omega] at this
  rw [this]; omega

theorem and1 (u : Int) (h0 : 0 ≤ u) (h1 : u < 18446744073709551616) : bits .and .u64 u 1 = u % 2 := by
  obtain ⟨a, rfl⟩ := Int.eq_ofNat_of_zero_le h0
  have : bits .and .u64 (a : Int) ((1 : Nat) : Int) = ((a &&& 1 : Nat) : Int) := bits_and_u64_nat a 1 (by omega) (by omega)
  rw [show ((1 : Nat) : Int) = 1 from rfl] at this
  rw [this, Nat.and_one_is_mod]; omega

theorem not64 (x : Int) (h0 : 0 ≤ x) (h1 : x ≤ 9223372036854775807) : bits .xor .i64 (-1) x = -x - 1 := by
  obtain ⟨a, rfl⟩ := Int.eq_ofNat_of_zero_le h0
  show IntKind.i64.wrap ((BitVec.ofInt 64 (-1) ^^^ BitVec.ofInt 64 (a : Int)).toNat : Int) = _
  have h2 : BitVec.ofInt 64 (-1) = BitVec.allOnes 64 := by decide
  rw [h2, BitVec.allOnes_xor, BitVec.toNat_not, BitVec.ofInt_natCast, BitVec.toNat_ofNat, Nat.mod_eq_of_lt (by omega)]
  simp [IntKind.wrap, IntKind.bits, IntKind.signed]; omega

theorem scan_bd : ∀ (f k : Nat) (u : Int) (l : List UInt8), k + f = 10 → 0 ≤ u → u < 2 ^ (7 * k) →
    ((scan f k u l).1 = 0 ∧ 0 ≤ (scan f k u l).2.1 ∧ (scan f k u l).2.1 ≤ 18446744073709551615 ∧ k < (scan f k u l).2.2 ∧ (scan f k u l).2.2 ≤ 10 ∧ (scan f k u l).2.2 ≤ k + l.length) ∨
    (((scan f k u l).1 = 3 ∨ (scan f k u l).1 = 4) ∧ (scan f k u l).2.1 = 0 ∧ (scan f k u l).2.2 = 0)
  | 0, k, u, l, _, _, _ => .inr ⟨.inl rfl, rfl, rfl⟩
  | f + 1, k, u, [], _, _, _ => .inr ⟨.inr rfl, rfl, rfl⟩
  | f + 1, k, u, c :: r, hk, h0, h1 => by
    rw [scan]
    have hcb : (c.toNat : Int) ≤ 255 := by have := c.toNat_lt; omega
    split
    · exact .inr ⟨.inl rfl, rfl, rfl⟩
    · rename_i h9
      split
      · rename_i hc
        split
        · exact .inr ⟨.inl rfl, rfl, rfl⟩
        · have hf := add_fits (x := (c.toNat : Int)) (by omega) h0 h1 (by omega) (by omega) (fun e => by omega)
          exact .inl ⟨rfl, by show 0 ≤ u + _; omega, by show u + _ ≤ _; omega, Nat.lt_succ_self k, by show k + 1 ≤ 10; omega, by show k + 1 ≤ _; simp⟩
      · rename_i hc
        have hk8 : k ≤ 8 := by omega
        have hp := (pow7_le k (by omega)).1
        have m0 : 0 ≤ ((c.toNat : Int) - 128) * 2 ^ (7 * k) := Int.mul_nonneg (by omega) (by omega)
        have m1 : ((c.toNat : Int) - 128) * 2 ^ (7 * k) ≤ 127 * 2 ^ (7 * k) := Int.mul_le_mul_of_nonneg_right (by omega) (by omega)
        rcases scan_bd f (k + 1) (u + ((c.toNat : Int) - 128) * 2 ^ (7 * k)) r (by omega) (by omega) (by rw [pow7]; omega) with h | h
        · exact .inl ⟨h.1, h.2.1, h.2.2.1, by omega, h.2.2.2.2.1, by have := h.2.2.2.2.2; simp; omega⟩
        · exact .inr h

theorem scanAt_bd (s : ByteArray) (a : Nat) :
    ((scanAt s a).1 = 0 ∧ 0 ≤ (scanAt s a).2.1 ∧ (scanAt s a).2.1 ≤ 18446744073709551615 ∧ (scanAt s a).2.2 ≤ 10 ∧ a + (scanAt s a).2.2 ≤ s.size) ∨
    (((scanAt s a).1 = 3 ∨ (scanAt s a).1 = 4) ∧ (scanAt s a).2.1 = 0 ∧ (scanAt s a).2.2 = 0) := by
  rcases scan_bd 10 0 0 (s.data.toList.drop a) rfl (Int.le_refl _) (by decide) with h | h
  · refine .inl ⟨h.1, h.2.1, h.2.2.1, h.2.2.2.2.1, ?_⟩
    have h2 := h.2.2.2.1
    have h3 := h.2.2.2.2.2
    rw [List.length_drop] at h3
    have e : s.data.toList.length = s.size := by simp
    unfold scanAt; omega
  · exact .inr h
end Go.Proofs.YtnknnfgimiljjaaGreatDoor
