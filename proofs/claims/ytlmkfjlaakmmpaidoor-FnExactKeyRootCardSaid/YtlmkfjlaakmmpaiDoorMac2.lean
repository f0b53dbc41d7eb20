/-
  The specification's l02Pad and l02Mac: 'padK', 'macB', in new memory.
-/
import Derived.Test.YtlmkfjlaakmmpaiDoorRows
import Derived.Test.YtlmkfjlaakmmpaiDoorBytes
import Derived.Test.YtlmkfjlaakmmpaiDoorDigMath
import Derived.Test.YtlmkfjlaakmmpaiDoorOwnBPadI
import Derived.Test.YtlmkfjlaakmmpaiDoorMacMath
import Derived.Test.YtlmkfjlaakmmpaiDoorAll2
import Derived.Handy
namespace Go.Proofs.YtlmkfjlaakmmpaiDoor
open Go.RowKit Go.Lib
set_option linter.unusedVariables false
set_option maxRecDepth 20000

theorem conv_row {w : World} {g : Nat} {xs : List Int} {T : TypeId} (h : w.heap[g]? = some (.cells (rowN xs).toArray T (0, 0))) (n c : Nat) (hn : xs.length = n) :
    (convert 69 9 (.slice (some ⟨g, 0, none⟩) n c)).run Tryd.prog w = .ok (.string (strOfNums xs)) w :=
  run_convert_bytes_arg (P := Tryd.prog) w 69 5 Tryd.underlying69 Tryd.underlying5 g 0 n c xs hn (fun i hi => by
    have : i < xs.length := by omega
    simp [World.cell?, h, rowN, List.getD_eq_getElem?_getD, this]) 9 Tryd.underlying9

theorem run_make_64 (w : World) : (Instr.makeSlice 69 (.int .i64 64) (.int .i64 64)).run Tryd.prog w = .ok (.slice (some ⟨w.heap.size, 0, none⟩) 64 64) (w.alloc (.cells (zrow 64).toArray 5)) := run_make_u8q 64 (by omega) w
set_option maxHeartbeats 1000000 in
theorem specPad_any (key : ByteArray) (m : Int) (w : World) (hk : key.size ≤ 64) (m0 : 0 ≤ m) (m1 : m ≤ 255) :
    Calls Tryd.prog 81 #[.string key, .int .u8 m] w fun e w' => e = .returned (.string (padK key m)) ∧ Below w.heap.size w w' := by
  have hmk := run_make_64
  obtain ⟨w2, hcp, hrow2, hbel⟩ := copy_str (P := Tryd.prog) (w.alloc (.cells (zrow 64).toArray 5)) 69 9 3 5 Tryd.underlying69 sizeU8q w.heap.size 0 64 64 key (zrow 64) 5 (heap_alloc_new w _) (by omega) (by simp [zrow]; omega)
  have HB2 : Hid (Below w.heap.size w w2) := hbel w.heap.size w ((Below.refl _ _).alloc (Nat.le_refl _) _) (Nat.le_refl _)
  rw [pad_zero key 64 hk, kPart_zero key m hk] at hrow2
  have HR2 : Hid (w2.heap[w.heap.size]? = some (.cells (rowN (kPart key m 0)).toArray 5 (0, 0))) := hrow2
  have HP : Hid (padK key m = strOfNums (kPart key m 64)) := rfl
  clear hrow2 hbel
  go_enter Tryd.func81, Tryd.ntmps81
  go_wp2
  go_loopw [6] (fun x wr => ∃ k : Nat, k ≤ 64 ∧ x = .int .i64 k ∧ Hid (wr.heap[w.heap.size]? = some (.cells (rowN (kPart key m k)).toArray 5 (0, 0))) ∧ Hid (Below w.heap.size w wr)) (fun x _ => 64 - (intOf x).toNat)
  case atStart => exact ⟨0, by omega, rfl, HR2, HB2⟩
  case round =>
    clear HR2 HB2 hmk hcp
    obtain ⟨k, hk2, rfl, hrow, hnx⟩ := hrel
    by_cases hlt : k < 64
    · obtain ⟨hc, hf⟩ := kRow_cell hrow.out hlt
      have hbd := byteAt_bd key k
      have hset := kPart_set key m k hlt
      have H0 : ∀ x, x = byteAt key k → (wr.setCell ⟨w.heap.size, k, none⟩ (.int .u8 (bits .xor .u8 x m))).heap[w.heap.size]? = some (.cells (rowN (kPart key m (k + 1))).toArray 5 (0, 0)) := by
        rintro x rfl; rw [blk_set hrow.out, hset]
      have H1 := H0 _ rfl
      clear H0 hset
      generalize byteAt key k = c at *
      have HR : Hid ((wr.setCell ⟨w.heap.size, k, none⟩ (.int .u8 (bits .xor .u8 c m))).heap[w.heap.size]? = some (.cells (rowN (kPart key m (k + 1))).toArray 5 (0, 0))) := H1
      have HB : Hid (Below w.heap.size w (wr.setCell ⟨w.heap.size, k, none⟩ (.int .u8 (bits .xor .u8 c m)))) := hnx.out.setCell (Nat.le_refl _) _
      clear H1
      have j : (k : Int) < 64 := by omega
      go_wp2
      go_roundw
      case rel => exact ⟨k + 1, by omega, by go_num, HR, HB⟩
      case measure => simp [intOf]; omega
    · have hk64 : k = 64 := by omega
      subst hk64
      have hconv := conv_row hrow.out 64 64 (kPart_len _ _ _)
      rw [← HP.out] at hconv
      go_wp2
      go_ret
      exact ⟨rfl, hnx.out⟩

def Gives (f : FuncId) (args : Array Value) (r : ByteArray) : Prop := ∀ w, Calls Tryd.prog f args w fun e w' => e = .returned (.string r) ∧ Below w.heap.size w w'
set_option maxHeartbeats 1000000 in
theorem specMac_core (key K P1 P2 text D1 D2 : ByteArray) (w : World) (hk : key.size ≤ 1099511627776) (hp1 : P1.size ≤ 64) (hp2 : P2.size ≤ 64) (hd1 : D1.size ≤ 32) (ht : text.size ≤ 1099511620000)
    (A1 : (64 < key.size ∧ Gives 39 #[.string key] K) ∨ (key.size ≤ 64 ∧ K = key))
    (A2 : Gives 81 #[.string K, .int .u8 92] P1) (A3 : Gives 81 #[.string K, .int .u8 54] P2)
    (A4 : Gives 39 #[.string (P2 ++ text)] D1) (A5 : Gives 39 #[.string (P1 ++ D1)] D2) :
    Calls Tryd.prog 67 #[.string key, .string text] w fun e w' => e = .returned (.string D2) ∧ Below w.heap.size w w' := by
  have H2 : Hid (Gives 81 #[.string K, .int .u8 92] P1) := A2
  have H3 : Hid (Gives 81 #[.string K, .int .u8 54] P2) := A3
  have H4 : Hid (Gives 39 #[.string (P2 ++ text)] D1) := A4
  have H5 : Hid (Gives 39 #[.string (P1 ++ D1)] D2) := A5
  clear A2 A3 A4 A5
  rcases A1 with ⟨h, A1⟩ | ⟨h, rfl⟩
  · have H1 : Hid (Gives 39 #[.string key] K) := A1
    clear A1
    go_enter Tryd.func67, Tryd.ntmps67
    go_wp2_with fail
    refine (H1.out _).mono ?_
    rintro e w1 ⟨rfl, b1⟩
    go_wp2_with fail
    refine (H2.out _).mono ?_
    rintro e w2 ⟨rfl, b2⟩
    go_wp2_with fail
    refine (H3.out _).mono ?_
    rintro e w3 ⟨rfl, b3⟩
    go_wp2_with fail
    refine (H4.out _).mono ?_
    rintro e w4 ⟨rfl, b4⟩
    go_wp2_with fail
    refine (H5.out _).mono ?_
    rintro e w5 ⟨rfl, b5⟩
    go_wp2_with fail
    go_ret
    exact ⟨rfl, b1.trans ((b2.trans ((b3.trans ((b4.trans (b5.mono b4.size)).mono b3.size)).mono b2.size)).mono b1.size)⟩
  · go_enter Tryd.func67, Tryd.ntmps67
    go_wp2_with fail
    refine (H2.out _).mono ?_
    rintro e w2 ⟨rfl, b2⟩
    go_wp2_with fail
    refine (H3.out _).mono ?_
    rintro e w3 ⟨rfl, b3⟩
    go_wp2_with fail
    refine (H4.out _).mono ?_
    rintro e w4 ⟨rfl, b4⟩
    go_wp2_with fail
    refine (H5.out _).mono ?_
    rintro e w5 ⟨rfl, b5⟩
    go_wp2_with fail
    go_ret
    exact ⟨rfl, b2.trans ((b3.trans ((b4.trans (b5.mono b4.size)).mono b3.size)).mono b2.size)⟩
theorem specMacB_any (key text : ByteArray) (w : World) (hk : key.size ≤ 1099511627776) (ht : text.size ≤ 1099511620000) :
    Calls Tryd.prog 67 #[.string key, .string text] w fun e w' => e = .returned (.string (macB key text)) ∧ Below w.heap.size w w' := by
  refine specMac_core key (keyK key) (padK (keyK key) 92) (padK (keyK key) 54) text (digB (padK (keyK key) 54 ++ text)) (macB key text) w hk (Nat.le_of_eq (padK_size _ _)) (Nat.le_of_eq (padK_size _ _)) (Nat.le_of_eq (digB_size _)) ht ?_
    (fun w => specPad_any _ 92 w (keyK_size key) (by omega) (by omega)) (fun w => specPad_any _ 54 w (keyK_size key) (by omega) (by omega))
    (fun w => specAll_any _ w (by rw [ByteArray.size_append, padK_size]; omega)) (fun w => specAll_any _ w (by rw [ByteArray.size_append, padK_size, digB_size]; omega))
  by_cases h : 64 < key.size
  · refine .inl ⟨h, ?_⟩
    rw [show keyK key = digB key from if_pos h]
    exact fun w => specAll_any key w hk
  · exact .inr ⟨by omega, if_neg h⟩
end Go.Proofs.YtlmkfjlaakmmpaiDoor
