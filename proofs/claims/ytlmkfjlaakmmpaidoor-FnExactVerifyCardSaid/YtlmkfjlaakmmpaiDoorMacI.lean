/-
  The program's keyBlock and Mac: 'padK', 'macA', in new memory.
  Conditions: the two tables lie as the program's text lays them.
-/
import Derived.Test.YtlmkfjlaakmmpaiDoorRows
import Derived.Test.YtlmkfjlaakmmpaiDoorBytes
import Derived.Test.YtlmkfjlaakmmpaiDoorDigMath
import Derived.Test.YtlmkfjlaakmmpaiDoorOwnBPadI
import Derived.Test.YtlmkfjlaakmmpaiDoorJoined
import Derived.Test.YtlmkfjlaakmmpaiDoorBlockI
import Derived.Test.YtlmkfjlaakmmpaiDoorDigI
import Derived.Test.YtlmkfjlaakmmpaiDoorMacMath
import Derived.Handy
namespace Go.Proofs.YtlmkfjlaakmmpaiDoor
open Go.RowKit Go.Lib
set_option linter.unusedVariables false

theorem len64 : Tryd.prog.arrayLen 92 = 64 := by kernel_rfl
theorem under64b : Tryd.prog.underlying 92 = some (.array (Tryd.prog.arrayLen 92) (Tryd.prog.elem 92)) := by kernel_rfl
theorem z64 : (zrow 64).toArray = #[.int .u8 0, .int .u8 0, .int .u8 0, .int .u8 0, .int .u8 0, .int .u8 0, .int .u8 0, .int .u8 0, .int .u8 0, .int .u8 0, .int .u8 0, .int .u8 0, .int .u8 0, .int .u8 0, .int .u8 0, .int .u8 0, .int .u8 0, .int .u8 0, .int .u8 0, .int .u8 0, .int .u8 0, .int .u8 0, .int .u8 0, .int .u8 0, .int .u8 0, .int .u8 0, .int .u8 0, .int .u8 0, .int .u8 0, .int .u8 0, .int .u8 0, .int .u8 0, .int .u8 0, .int .u8 0, .int .u8 0, .int .u8 0, .int .u8 0, .int .u8 0, .int .u8 0, .int .u8 0, .int .u8 0, .int .u8 0, .int .u8 0, .int .u8 0, .int .u8 0, .int .u8 0, .int .u8 0, .int .u8 0, .int .u8 0, .int .u8 0, .int .u8 0, .int .u8 0, .int .u8 0, .int .u8 0, .int .u8 0, .int .u8 0, .int .u8 0, .int .u8 0, .int .u8 0, .int .u8 0, .int .u8 0, .int .u8 0, .int .u8 0, .int .u8 0] := rfl
theorem conv_rowI {w : World} {g : Nat} {xs : List Int} {T : TypeId} (h : w.heap[g]? = some (.cells (rowN xs).toArray T (0, 0))) (n c : Nat) (hn : xs.length = n) :
    (convert 69 9 (.slice (some ⟨g, 0, none⟩) n c)).run Tryd.prog w = .ok (.string (strOfNums xs)) w :=
  run_convert_bytes_arg (P := Tryd.prog) w 69 5 Tryd.underlying69 Tryd.underlying5 g 0 n c xs hn (fun i hi => by
    have : i < xs.length := by omega
    simp [World.cell?, h, rowN, List.getD_eq_getElem?_getD, this]) 9 Tryd.underlying9

set_option maxHeartbeats 1000000 in
set_option maxRecDepth 20000 in
theorem keyI_any (key : ByteArray) (m : Int) (w : World) (hk : key.size ≤ 64) (m0 : 0 ≤ m) (m1 : m ≤ 255) :
    Calls Tryd.prog 71 #[.string key, .int .u8 m] w fun e w' => e = .returned (.string (padK key m)) ∧ Below w.heap.size w w' := by
  obtain ⟨w2, hcp, hrow2, hbel⟩ := copy_str (P := Tryd.prog) (w.alloc (.cells (zrow 64).toArray 92)) 69 9 3 5 Tryd.underlying69 sizeU8q w.heap.size 0 64 64 key (zrow 64) 92 (heap_alloc_new w _) (by omega) (by simp [zrow]; omega)
  have HB2 : Hid (Below w.heap.size w w2) := hbel w.heap.size w ((Below.refl _ _).alloc (Nat.le_refl _) _) (Nat.le_refl _)
  rw [pad_zero key 64 hk, kPart_zero key m hk] at hrow2
  have HR2 : Hid (w2.heap[w.heap.size]? = some (.cells (rowN (kPart key m 0)).toArray 92 (0, 0))) := hrow2
  have HP : Hid (padK key m = strOfNums (kPart key m 64)) := rfl
  rw [z64] at hcp
  clear hrow2 hbel
  go_enter Tryd.func71, Tryd.ntmps71
  go_wp2
  go_loopw [10] (fun x wr => ∃ k : Nat, k ≤ 64 ∧ x = .int .i64 k ∧ Hid (wr.heap[w.heap.size]? = some (.cells (rowN (kPart key m k)).toArray 92 (0, 0))) ∧ Hid (Below w.heap.size w wr)) (fun x _ => 64 - (intOf x).toNat)
  case atStart => exact ⟨0, by omega, rfl, HR2, HB2⟩
  case round =>
    clear HR2 HB2 hcp
    obtain ⟨k, hk2, rfl, hrow, hnx⟩ := hrel
    by_cases hlt : k < 64
    · obtain ⟨hc, hf⟩ := kRow_cell hrow.out hlt
      have hbd := byteAt_bd key k
      have hset := kPart_set key m k hlt
      have H0 : ∀ x, x = byteAt key k → (wr.setCell ⟨w.heap.size, k, none⟩ (.int .u8 (bits .xor .u8 x m))).heap[w.heap.size]? = some (.cells (rowN (kPart key m (k + 1))).toArray 92 (0, 0)) := by
        rintro x rfl; rw [blk_set hrow.out, hset]
      have H1 := H0 _ rfl
      clear H0 hset
      generalize byteAt key k = c at *
      have HR : Hid ((wr.setCell ⟨w.heap.size, k, none⟩ (.int .u8 (bits .xor .u8 c m))).heap[w.heap.size]? = some (.cells (rowN (kPart key m (k + 1))).toArray 92 (0, 0))) := H1
      have HB : Hid (Below w.heap.size w (wr.setCell ⟨w.heap.size, k, none⟩ (.int .u8 (bits .xor .u8 c m)))) := hnx.out.setCell (Nat.le_refl _) _
      clear H1
      have j : (k : Int) < 64 := by omega
      go_wp2
      go_roundw
      case rel => exact ⟨k + 1, by omega, by go_num, HR, HB⟩
      case measure => simp [intOf]; omega
    · have hk64 : k = 64 := by omega
      subst hk64
      have hconv := conv_rowI hrow.out 64 64 (kPart_len _ _ _)
      rw [← HP.out] at hconv
      go_wp2
      go_ret
      exact ⟨rfl, hnx.out⟩

def GivesT (f : FuncId) (args : Array Value) (r : ByteArray) : Prop := ∀ w, Tabs w → Calls Tryd.prog f args w fun e w' => e = .returned (.string r) ∧ Below w.heap.size w w'
theorem chain2 {w w1 w2 : World} (b1 : Below w.heap.size w w1) (b2 : Below w1.heap.size w1 w2) : Below w.heap.size w w2 := b1.trans (b2.mono b1.size)
set_option maxHeartbeats 1000000 in
theorem macI_core (key K P1 P2 text D1 D2 : ByteArray) (w : World) (hT : Tabs w) (hk : key.size ≤ 8000) (hp1 : P1.size ≤ 64) (hp2 : P2.size ≤ 64) (hd1 : D1.size ≤ 32) (ht : text.size ≤ 8000)
    (A1 : (64 < key.size ∧ GivesT 57 #[.string key] K) ∨ (key.size ≤ 64 ∧ K = key))
    (A2 : GivesT 71 #[.string K, .int .u8 92] P1) (A3 : GivesT 71 #[.string K, .int .u8 54] P2)
    (A4 : GivesT 57 #[.string (P2 ++ text)] D1) (A5 : GivesT 57 #[.string (P1 ++ D1)] D2) :
    Calls Tryd.prog 54 #[.string key, .string text] w fun e w' => e = .returned (.string D2) ∧ Below w.heap.size w w' := by
  have H2 : Hid (GivesT 71 #[.string K, .int .u8 92] P1) := A2
  have H3 : Hid (GivesT 71 #[.string K, .int .u8 54] P2) := A3
  have H4 : Hid (GivesT 57 #[.string (P2 ++ text)] D1) := A4
  have H5 : Hid (GivesT 57 #[.string (P1 ++ D1)] D2) := A5
  have HT : Hid (Tabs w) := hT
  clear A2 A3 A4 A5 hT
  rcases A1 with ⟨h, A1⟩ | ⟨h, rfl⟩
  · have H1 : Hid (GivesT 57 #[.string key] K) := A1
    clear A1
    go_enter Tryd.func54, Tryd.ntmps54
    go_wp2_with fail
    refine (H1.out _ HT.out).mono ?_
    rintro e w1 ⟨rfl, b1⟩
    go_wp2_with fail
    refine (H3.out _ (HT.out.below b1 HT.out.1)).mono ?_
    rintro e w2 ⟨rfl, b2⟩
    have b2 := chain2 b1 b2
    go_wp2_with fail
    refine (joined_two _ _ _ (by omega)).mono ?_
    rintro e w3 ⟨rfl, b3⟩
    have b3 := chain2 b2 b3
    go_wp2_with fail
    refine (H4.out _ (HT.out.below b3 HT.out.1)).mono ?_
    rintro e w4 ⟨rfl, b4⟩
    have b4 := chain2 b3 b4
    go_wp2_with fail
    refine (H2.out _ (HT.out.below b4 HT.out.1)).mono ?_
    rintro e w5 ⟨rfl, b5⟩
    have b5 := chain2 b4 b5
    go_wp2_with fail
    refine (joined_two _ _ _ (by omega)).mono ?_
    rintro e w6 ⟨rfl, b6⟩
    have b6 := chain2 b5 b6
    go_wp2_with fail
    refine (H5.out _ (HT.out.below b6 HT.out.1)).mono ?_
    rintro e w7 ⟨rfl, b7⟩
    have b7 := chain2 b6 b7
    go_wp2_with fail
    go_ret
    exact ⟨rfl, b7⟩
  · go_enter Tryd.func54, Tryd.ntmps54
    go_wp2_with fail
    refine (H3.out _ HT.out).mono ?_
    rintro e w2 ⟨rfl, b2⟩
    go_wp2_with fail
    refine (joined_two _ _ _ (by omega)).mono ?_
    rintro e w3 ⟨rfl, b3⟩
    have b3 := chain2 b2 b3
    go_wp2_with fail
    refine (H4.out _ (HT.out.below b3 HT.out.1)).mono ?_
    rintro e w4 ⟨rfl, b4⟩
    have b4 := chain2 b3 b4
    go_wp2_with fail
    refine (H2.out _ (HT.out.below b4 HT.out.1)).mono ?_
    rintro e w5 ⟨rfl, b5⟩
    have b5 := chain2 b4 b5
    go_wp2_with fail
    refine (joined_two _ _ _ (by omega)).mono ?_
    rintro e w6 ⟨rfl, b6⟩
    have b6 := chain2 b5 b6
    go_wp2_with fail
    refine (H5.out _ (HT.out.below b6 HT.out.1)).mono ?_
    rintro e w7 ⟨rfl, b7⟩
    have b7 := chain2 b6 b7
    go_wp2_with fail
    go_ret
    exact ⟨rfl, b7⟩
theorem macIB_any (key text : ByteArray) (w : World) (hT : Tabs w) (hk : key.size ≤ 8000) (ht : text.size ≤ 8000) :
    Calls Tryd.prog 54 #[.string key, .string text] w fun e w' => e = .returned (.string (macB key text)) ∧ Below w.heap.size w w' := by
  refine macI_core key (keyK key) (padK (keyK key) 92) (padK (keyK key) 54) text (digB (padK (keyK key) 54 ++ text)) (macB key text) w hT hk (Nat.le_of_eq (padK_size _ _)) (Nat.le_of_eq (padK_size _ _)) (Nat.le_of_eq (digB_size _)) ht ?_
    (fun w _ => keyI_any _ 92 w (keyK_size key) (by omega) (by omega)) (fun w _ => keyI_any _ 54 w (keyK_size key) (by omega) (by omega))
    (fun w h => digI_any _ w (by rw [ByteArray.size_append, padK_size]; omega) h) (fun w h => digI_any _ w (by rw [ByteArray.size_append, padK_size, digB_size]; omega) h)
  by_cases h : 64 < key.size
  · refine .inl ⟨h, ?_⟩
    rw [show keyK key = digB key from if_pos h]
    exact fun w hT => digI_any key w (by omega) hT
  · exact .inr ⟨by omega, if_neg h⟩
set_option maxHeartbeats 1000000 in
theorem implMac_any (key text : ByteArray) (w : World) (hT : Tabs w) (hk : key.size ≤ maxLen) (ht : text.size ≤ maxLen) :
    Calls Tryd.prog 54 #[.string key, .string text] w fun e w' => e = .returned (.string (macA key text)) ∧ Below w.heap.size w w' := by
  unfold maxLen at hk ht
  by_cases h1 : key.size ≤ 8000
  · by_cases h2 : text.size ≤ 8000
    · rw [show macA key text = macB key text from if_pos ⟨h1, h2⟩]
      exact macIB_any key text w hT h1 h2
    · have H : Hid (macA key text = ByteArray.empty) := if_neg (fun h => h2 h.2)
      clear hT
      go_enter Tryd.func54, Tryd.ntmps54
      go_wp2
      go_ret
      exact ⟨ret_str H.out.symm, Below.refl _ _⟩
  · have H : Hid (macA key text = ByteArray.empty) := if_neg (fun h => h1 h.1)
    clear hT
    go_enter Tryd.func54, Tryd.ntmps54
    go_wp2
    go_ret
    exact ⟨ret_str H.out.symm, Below.refl _ _⟩
end Go.Proofs.YtlmkfjlaakmmpaiDoor
