/-
  Parts of one proof, laid as one text: MacI, SignIC, ImplSign; what each says stands at its head.
-/
import Derived.Test.YtnjegmffjelnpaaGreatDoorRows
import Derived.Test.YtnjegmffjelnpaaGreatDoorBytesDigMathTurnIWholeR
import Derived.Test.YtnjegmffjelnpaaGreatDoorSlABxKSlBOwnSSgnBOwnBPadI
import Derived.Test.YtnjegmffjelnpaaGreatDoorMacMathPutMathJoinedDigITurn2
import Derived.Test.YtnjegmffjelnpaaGreatDoorNumsIBlockI
import Derived.Handy
import Derived.Test.YtnjegmffjelnpaaGreatDoorPutNumAppSSrc
import Derived.Test.YtnjegmffjelnpaaGreatDoorPowerHalvesTreeTree2TreeHPathMathIncMathTaker
import Derived.Test.YtnjegmffjelnpaaGreatDoorTakePathConMathProofLawSignMathMac2
import Derived.Test.YtnjegmffjelnpaaGreatDoorSignVImplRightIncISignIMDigAllSignIASignIB
import Derived.WalkSpells
import Derived.OwnWalk
import Derived.Deep.RegionLaw
import Derived.Deep.RegionWith
import Derived.Test.YtnjegmffjelnpaaGreatDoorSignIDgImplVerPutterPathI
/-
  The program's keyBlock and Mac: 'padK', 'macA', in new memory.
  Conditions: the two tables lie as the program's text lays them.
-/
namespace Go.Proofs.YtnjegmffjelnpaaGreatDoor
open Go.RowKit Go.Lib
set_option linter.unusedVariables false

theorem len64 : Tryz.prog.arrayLen 162 = 64 := by kernel_rfl
theorem under64b : Tryz.prog.underlying 162 = some (.array (Tryz.prog.arrayLen 162) (Tryz.prog.elem 162)) := by kernel_rfl
theorem z64 : (zrow 64).toArray = #[.int .u8 0, .int .u8 0, .int .u8 0, .int .u8 0, .int .u8 0, .int .u8 0, .int .u8 0, .int .u8 0, .int .u8 0, .int .u8 0, .int .u8 0, .int .u8 0, .int .u8 0, .int .u8 0, .int .u8 0, .int .u8 0, .int .u8 0, .int .u8 0, .int .u8 0, .int .u8 0, .int .u8 0, .int .u8 0, .int .u8 0, .int .u8 0, .int .u8 0, .int .u8 0, .int .u8 0, .int .u8 0, .int .u8 0, .int .u8 0, .int .u8 0, .int .u8 0, .int .u8 0, .int .u8 0, .int .u8 0, .int .u8 0, .int .u8 0, .int .u8 0, .int .u8 0, .int .u8 0, .int .u8 0, .int .u8 0, .int .u8 0, .int .u8 0, .int .u8 0, .int .u8 0, .int .u8 0, .int .u8 0, .int .u8 0, .int .u8 0, .int .u8 0, .int .u8 0, .int .u8 0, .int .u8 0, .int .u8 0, .int .u8 0, .int .u8 0, .int .u8 0, .int .u8 0, .int .u8 0, .int .u8 0, .int .u8 0, .int .u8 0, .int .u8 0] := rfl
theorem conv_rowI {w : World} {g : Nat} {xs : List Int} {T : TypeId} (h : w.heap[g]? = some (.cells (rowN xs).toArray T (0, 0))) (n c : Nat) (hn : xs.length = n) :
    (convert 22 9 (.slice (some ⟨g, 0, none⟩) n c)).run Tryz.prog w = .ok (.string (strOfNums xs)) w :=
  run_convert_bytes_arg (P := Tryz.prog) w 22 5 Tryz.underlying22 Tryz.underlying5 g 0 n c xs hn (fun i hi => by
    have : i < xs.length := by omega
    simp [World.cell?, h, rowN, List.getD_eq_getElem?_getD, this]) 9 Tryz.underlying9

set_option maxHeartbeats 1000000 in
set_option maxRecDepth 20000 in
theorem keyI_any (key : ByteArray) (m : Int) (w : World) (hk : key.size ≤ 64) (m0 : 0 ≤ m) (m1 : m ≤ 255) :
    Calls Tryz.prog 122 #[.string key, .int .u8 m] w fun e w' => e = .returned (.string (padK key m)) ∧ Below w.heap.size w w' := by
  obtain ⟨w2, hcp, hrow2, hbel⟩ := copy_str (P := Tryz.prog) (w.alloc (.cells (zrow 64).toArray 162)) 22 9 3 5 Tryz.underlying22 sizeU8q w.heap.size 0 64 64 key (zrow 64) 162 (heap_alloc_new w _) (by omega) (by simp [zrow]; omega)
  have HB2 : Hid (Below w.heap.size w w2) := hbel w.heap.size w ((Below.refl _ _).alloc (Nat.le_refl _) _) (Nat.le_refl _)
  rw [pad_zero key 64 hk, kPart_zero key m hk] at hrow2
  have HR2 : Hid (w2.heap[w.heap.size]? = some (.cells (rowN (kPart key m 0)).toArray 162 (0, 0))) := hrow2
  have HP : Hid (padK key m = strOfNums (kPart key m 64)) := rfl
  rw [z64] at hcp
  clear hrow2 hbel
  go_enter Tryz.func122, Tryz.ntmps122
  go_wp2
  go_loopw [10] (fun x wr => ∃ k : Nat, k ≤ 64 ∧ x = .int .i64 k ∧ Hid (wr.heap[w.heap.size]? = some (.cells (rowN (kPart key m k)).toArray 162 (0, 0))) ∧ Hid (Below w.heap.size w wr)) (fun x _ => 64 - (Go.RowKit.intOf x).toNat)
  case atStart => exact ⟨0, by omega, rfl, HR2, HB2⟩
  case round =>
    clear HR2 HB2 hcp
    obtain ⟨k, hk2, rfl, hrow, hnx⟩ := hrel
    by_cases hlt : k < 64
    · obtain ⟨hc, hf⟩ := kRow_cell hrow.out hlt
      have hbd := byteAt_bd key k
      have hset := kPart_set key m k hlt
      have H0 : ∀ x, x = byteAt key k → (wr.setCell ⟨w.heap.size, k, none⟩ (.int .u8 (bits .xor .u8 x m))).heap[w.heap.size]? = some (.cells (rowN (kPart key m (k + 1))).toArray 162 (0, 0)) := by
        rintro x rfl; rw [blk_set hrow.out, hset]
      have H1 := H0 _ rfl
      clear H0 hset
      generalize byteAt key k = c at *
      have HR : Hid ((wr.setCell ⟨w.heap.size, k, none⟩ (.int .u8 (bits .xor .u8 c m))).heap[w.heap.size]? = some (.cells (rowN (kPart key m (k + 1))).toArray 162 (0, 0))) := H1
      have HB : Hid (Below w.heap.size w (wr.setCell ⟨w.heap.size, k, none⟩ (.int .u8 (bits .xor .u8 c m)))) := hnx.out.setCell (Nat.le_refl _) _
      clear H1
      have j : (k : Int) < 64 := by omega
      go_wp2
      go_roundw
      case rel => exact ⟨k + 1, by omega, by go_num, HR, HB⟩
      case measure => simp [Go.RowKit.intOf]; omega
    · have hk64 : k = 64 := by omega
      subst hk64
      have hconv := conv_rowI hrow.out 64 64 (kPart_len _ _ _)
      rw [← HP.out] at hconv
      go_wp2
      go_ret
      exact ⟨rfl, hnx.out⟩

def GivesT (f : FuncId) (args : Array Value) (r : ByteArray) : Prop := ∀ w, Tabs w → Calls Tryz.prog f args w fun e w' => e = .returned (.string r) ∧ Below w.heap.size w w'
theorem chain2 {w w1 w2 : World} (b1 : Below w.heap.size w w1) (b2 : Below w1.heap.size w1 w2) : Below w.heap.size w w2 := b1.trans (b2.mono b1.size)
set_option maxHeartbeats 1000000 in
theorem macI_core (key K P1 P2 text D1 D2 : ByteArray) (w : World) (hT : Tabs w) (hk : key.size ≤ 8000) (hp1 : P1.size ≤ 64) (hp2 : P2.size ≤ 64) (hd1 : D1.size ≤ 32) (ht : text.size ≤ 8000)
    (A1 : (64 < key.size ∧ GivesT 61 #[.string key] K) ∨ (key.size ≤ 64 ∧ K = key))
    (A2 : GivesT 122 #[.string K, .int .u8 92] P1) (A3 : GivesT 122 #[.string K, .int .u8 54] P2)
    (A4 : GivesT 61 #[.string (P2 ++ text)] D1) (A5 : GivesT 61 #[.string (P1 ++ D1)] D2) :
    Calls Tryz.prog 92 #[.string key, .string text] w fun e w' => e = .returned (.string D2) ∧ Below w.heap.size w w' := by
  have H2 : Hid (GivesT 122 #[.string K, .int .u8 92] P1) := A2
  have H3 : Hid (GivesT 122 #[.string K, .int .u8 54] P2) := A3
  have H4 : Hid (GivesT 61 #[.string (P2 ++ text)] D1) := A4
  have H5 : Hid (GivesT 61 #[.string (P1 ++ D1)] D2) := A5
  have HT : Hid (Tabs w) := hT
  clear A2 A3 A4 A5 hT
  rcases A1 with ⟨h, A1⟩ | ⟨h, rfl⟩
  · have H1 : Hid (GivesT 61 #[.string key] K) := A1
    clear A1
    go_enter Tryz.func92, Tryz.ntmps92
    go_wp2_with fail
    refine (H1.out _ HT.out).mono ?_
    rintro e w1 ⟨rfl, b1⟩
    go_wp2_with fail
    refine (H3.out _ (HT.out.below b1 HT.out.1)).mono ?_
    rintro e w2 ⟨rfl, b2⟩
    have b2 := chain2 b1 b2
    go_wp2_with fail
    refine (joined_two _ _ _ (by omega)).mono ?_
    rintro e w3 ⟨rfl, b3⟩
    have b3 := chain2 b2 b3
    go_wp2_with fail
    refine (H4.out _ (HT.out.below b3 HT.out.1)).mono ?_
    rintro e w4 ⟨rfl, b4⟩
    have b4 := chain2 b3 b4
    go_wp2_with fail
    refine (H2.out _ (HT.out.below b4 HT.out.1)).mono ?_
    rintro e w5 ⟨rfl, b5⟩
    have b5 := chain2 b4 b5
    go_wp2_with fail
    refine (joined_two _ _ _ (by omega)).mono ?_
    rintro e w6 ⟨rfl, b6⟩
    have b6 := chain2 b5 b6
    go_wp2_with fail
    refine (H5.out _ (HT.out.below b6 HT.out.1)).mono ?_
    rintro e w7 ⟨rfl, b7⟩
    have b7 := chain2 b6 b7
    go_wp2_with fail
    go_ret
    exact ⟨rfl, b7⟩
  · go_enter Tryz.func92, Tryz.ntmps92
    go_wp2_with fail
    refine (H3.out _ HT.out).mono ?_
    rintro e w2 ⟨rfl, b2⟩
    go_wp2_with fail
    refine (joined_two _ _ _ (by omega)).mono ?_
    rintro e w3 ⟨rfl, b3⟩
    have b3 := chain2 b2 b3
    go_wp2_with fail
    refine (H4.out _ (HT.out.below b3 HT.out.1)).mono ?_
    rintro e w4 ⟨rfl, b4⟩
    have b4 := chain2 b3 b4
    go_wp2_with fail
    refine (H2.out _ (HT.out.below b4 HT.out.1)).mono ?_
    rintro e w5 ⟨rfl, b5⟩
    have b5 := chain2 b4 b5
    go_wp2_with fail
    refine (joined_two _ _ _ (by omega)).mono ?_
    rintro e w6 ⟨rfl, b6⟩
    have b6 := chain2 b5 b6
    go_wp2_with fail
    refine (H5.out _ (HT.out.below b6 HT.out.1)).mono ?_
    rintro e w7 ⟨rfl, b7⟩
    have b7 := chain2 b6 b7
    go_wp2_with fail
    go_ret
    exact ⟨rfl, b7⟩
theorem macIB_any (key text : ByteArray) (w : World) (hT : Tabs w) (hk : key.size ≤ 8000) (ht : text.size ≤ 8000) :
    Calls Tryz.prog 92 #[.string key, .string text] w fun e w' => e = .returned (.string (macB key text)) ∧ Below w.heap.size w w' := by
  refine macI_core key (keyK key) (padK (keyK key) 92) (padK (keyK key) 54) text (digB (padK (keyK key) 54 ++ text)) (macB key text) w hT hk (Nat.le_of_eq (padK_size _ _)) (Nat.le_of_eq (padK_size _ _)) (Nat.le_of_eq (digB_size _)) ht ?_
    (fun w _ => keyI_any _ 92 w (keyK_size key) (by omega) (by omega)) (fun w _ => keyI_any _ 54 w (keyK_size key) (by omega) (by omega))
    (fun w h => digI_any _ w (by rw [ByteArray.size_append, padK_size]; omega) h) (fun w h => digI_any _ w (by rw [ByteArray.size_append, padK_size, digB_size]; omega) h)
  by_cases h : 64 < key.size
  · refine .inl ⟨h, ?_⟩
    rw [show keyK key = digB key from if_pos h]
    exact fun w hT => digI_any key w (by omega) hT
  · exact .inr ⟨by omega, if_neg h⟩
set_option maxHeartbeats 1000000 in
theorem implMac_any (key text : ByteArray) (w : World) (hT : Tabs w) (hk : key.size ≤ maxLen) (ht : text.size ≤ maxLen) :
    Calls Tryz.prog 92 #[.string key, .string text] w fun e w' => e = .returned (.string (macA key text)) ∧ Below w.heap.size w w' := by
  unfold maxLen at hk ht
  by_cases h1 : key.size ≤ 8000
  · by_cases h2 : text.size ≤ 8000
    · rw [show macA key text = macB key text from if_pos ⟨h1, h2⟩]
      exact macIB_any key text w hT h1 h2
    · have H : Hid (macA key text = ByteArray.empty) := if_neg (fun h => h2 h.2)
      clear hT
      go_enter Tryz.func92, Tryz.ntmps92
      go_wp2
      go_ret
      exact ⟨ret_str H.out.symm, Below.refl _ _⟩
  · have H : Hid (macA key text = ByteArray.empty) := if_neg (fun h => h1 h.1)
    clear hT
    go_enter Tryz.func92, Tryz.ntmps92
    go_wp2
    go_ret
    exact ⟨ret_str H.out.symm, Below.refl _ _⟩
end Go.Proofs.YtnjegmffjelnpaaGreatDoor
/-
  What the program's chainStarts, publicText, publicTexts and KeyRoot answer: 'begB', 'pubB', 'pubsB', 'rootA'.
  Conditions: the two tables lie as the program's text lays them; a seed of the inner ones has at most 8000 bytes.
-/
namespace Go.Proofs.YtnjegmffjelnpaaGreatDoor
open Go.RowKit Go.Lib
set_option linter.unusedVariables false
set_option maxRecDepth 20000

set_option maxHeartbeats 4000000 in
theorem starts_any (seed : ByteArray) (key : Int) (w : World) (hT : Tabs w) (hs : seed.size ≤ 8000) (k0 : -9223372036854775808 ≤ key) (k1 : key ≤ 9223372036854775807) :
    Calls Tryz.prog 50 #[.string seed, .int .i64 key] w fun e w' => ∃ g, e = .returned (.slice (some ⟨g, 0, none⟩) 6 6) ∧ w.heap.size ≤ g ∧ BlkS w' g ((List.range 6).map fun j : Nat => begB seed key (j : Int)) ∧ Below w.heap.size w w' := by
  have HT : Hid (Tabs w) := hT
  clear hT
  obtain ⟨f, hf⟩ : ∃ f : Nat → ByteArray, f = fun j : Nat => begB seed key (j : Int) := ⟨_, rfl⟩
  have HF : Hid (∀ j : Nat, f j = macB seed (putB key ++ putB j)) := fun j => by rw [hf]; rfl
  rw [← hf]
  clear hf
  have HFA : Hid (fillTo f 6 6 = (List.range 6).map f) := fillTo_all f 6
  rw [← HFA.out]
  obtain ⟨W2, hW2⟩ : ∃ W2, W2 = w.alloc (.cells (strRow (fillTo f 6 0)).toArray 9) := ⟨_, rfl⟩
  have hmk := run_make_str 6 (by omega) w
  rw [← fillTo_zero f 6, ← hW2] at hmk
  rw [show ((6 : Nat) : Int) = (6 : Int) from rfl] at hmk
  have K2 : Hid (BlkS W2 w.heap.size (fillTo f 6 0)) := by rw [hW2]; exact alloc_str _ _
  have B2 : Hid (Below w.heap.size w W2) := by rw [hW2]; exact (Below.refl _ _).alloc (Nat.le_refl _) _
  clear hW2
  go_enter Tryz.func50, Tryz.ntmps50
  go_wp2_with fail
  go_loopw [10] (fun i wr => ∃ (k : Nat), i = .int .i64 k ∧ k ≤ 6 ∧ Hid (BlkS wr w.heap.size (fillTo f 6 k)) ∧ Hid (Below w.heap.size w wr)) (fun i _ => 6 - (Go.RowKit.intOf i).toNat)
  case atStart => exact ⟨0, rfl, by omega, K2, B2⟩
  case round =>
    clear hmk K2 B2
    obtain ⟨k, rfl, hk, HK, HB⟩ := hrel
    by_cases hlt : k < 6
    · have d1 : decide ((k : Int) < 6) = true := decide_eq_true (by omega)
      have i1 : (k : Int) < 6 := by omega
      have i2 : (0 : Int) ≤ k := by omega
      have hset := fillTo_set f 6 k hlt
      have hlen := fillTo_len f 6 k (by omega)
      have hlt2 := HK.out.lt
      have hp : (putB key ++ putB k).size ≤ 20 := putB2_size key k
      have hp1 := putB_le key
      have hp2 := putB_le (k : Int)
      go_wp2_with fail
      refine (implPutNum_any key wr k0 k1).mono ?_
      rintro e w1 ⟨rfl, b1⟩
      go_wp2_with fail
      refine (implPutNum_any (k : Int) w1 (by omega) (by omega)).mono ?_
      rintro e w2 ⟨rfl, b2⟩
      have b2 := chainB b1 b2
      clear b1
      go_wp2_with fail
      refine (joined_two _ _ w2 (by omega)).mono ?_
      rintro e w3 ⟨rfl, b3⟩
      have b3 := chainB b2 b3
      clear b2
      have hM := macIB_any seed (putB key ++ putB k) w3 (HT.out.below (chainB HB.out b3) HT.out.1) hs (by omega)
      rw [← HF.out k] at hM
      generalize putB key ++ putB k = PP at *
      go_wp2_with fail
      refine hM.mono ?_
      rintro e w4 ⟨rfl, b4⟩
      have b4 := chainB b3 b4
      have hK := HK.out.below b4 hlt2
      obtain ⟨c1, c2⟩ := hK.cell k (by rw [hlen]; omega)
      have X1 : Hid (BlkS (w4.setCell ⟨w.heap.size, k, none⟩ (.string (f k))) w.heap.size (fillTo f 6 (k + 1))) := by
        show BlkS _ _ _
        rw [← hset]; exact hK.set k _
      have X2 : Hid (Below w.heap.size w (w4.setCell ⟨w.heap.size, k, none⟩ (.string (f k)))) := (chainB HB.out b4).setCell (Nat.le_refl _) _
      generalize f k = E at *
      clear b3 b4 hM hK HK HB hset
      go_wp2_with fail
      go_roundw
      case rel => exact ⟨k + 1, by go_num, by omega, X1, X2⟩
      case measure => simp [Go.RowKit.intOf]; omega
    · obtain rfl : k = 6 := by omega
      rw [show ((6 : Nat) : Int) = (6 : Int) from rfl]
      go_wp2_with fail
      go_ret
      exact ⟨_, rfl, by omega, HK.out, HB.out⟩

/-- Six numbers of which the first k are 15, the others 0. -/
def mostTo (k : Nat) : List Int := List.replicate k 15 ++ List.replicate (6 - k) 0
theorem mostTo_len (k : Nat) (h : k ≤ 6) : (mostTo k).length = 6 := by simp [mostTo]; omega
theorem mostTo_set (k : Nat) (h : k < 6) : (mostTo k).set k 15 = mostTo (k + 1) := by
  match k, h with
  | 0, _ => rfl
  | 1, _ => rfl
  | 2, _ => rfl
  | 3, _ => rfl
  | 4, _ => rfl
  | 5, _ => rfl
  | k + 6, h => omega
theorem mostTo_at (j : Nat) (h : j < 6) : (mostTo 6).getD j 0 = 15 := by
  match j, h with
  | 0, _ => rfl
  | 1, _ => rfl
  | 2, _ => rfl
  | 3, _ => rfl
  | 4, _ => rfl
  | 5, _ => rfl
  | k + 6, h => omega

set_option maxHeartbeats 4000000 in
theorem pubText_any (seed : ByteArray) (key : Nat) (w : World) (hT : Tabs w) (hs : seed.size ≤ 8000) (k1 : key ≤ 1000) :
    Calls Tryz.prog 96 #[.string seed, .int .i64 (key : Int)] w fun e w' => e = .returned (.string (pubB seed key)) ∧ Below w.heap.size w w' := by
  have HT : Hid (Tabs w) := hT
  obtain ⟨PUB, hPUB⟩ : ∃ PUB, PUB = pubB seed key := ⟨_, rfl⟩
  have HPUB : Hid (PUB = pubB seed key) := hPUB
  rw [← hPUB]
  clear hT hPUB
  have K2 : Hid ((w.alloc (.cells #[.int .i64 0, .int .i64 0, .int .i64 0, .int .i64 0, .int .i64 0, .int .i64 0] 49)).heap[w.heap.size]? = some (.cells (numA (mostTo 0)) 49 (0, 0))) := (MapKept.heap_alloc w _).1
  have B2 : Hid (Below w.heap.size w (w.alloc (.cells #[.int .i64 0, .int .i64 0, .int .i64 0, .int .i64 0, .int .i64 0, .int .i64 0] 49))) := (Below.refl _ _).alloc (Nat.le_refl _) _
  go_enter Tryz.func96, Tryz.ntmps96
  go_wp2_with fail
  go_loopw [7] (fun i wr => ∃ (k : Nat), i = .int .i64 k ∧ k ≤ 6 ∧ Hid (wr.heap[w.heap.size]? = some (.cells (numA (mostTo k)) 49 (0, 0))) ∧ Hid (Below w.heap.size w wr)) (fun i _ => 6 - (Go.RowKit.intOf i).toNat)
  case atStart => exact ⟨0, rfl, by omega, K2, B2⟩
  case round =>
    clear K2 B2
    obtain ⟨k, rfl, hk, HK, HB⟩ := hrel
    by_cases hlt : k < 6
    · have d1 : decide ((k : Int) < 6) = true := decide_eq_true (by omega)
      have i1 : (k : Int) < 6 := by omega
      have i2 : (0 : Int) ≤ k := by omega
      obtain ⟨c1, c2⟩ := numA_cell HK.out k (by rw [mostTo_len k (by omega)]; omega)
      have X1 : Hid ((wr.setCell ⟨w.heap.size, k, none⟩ (.int .i64 15)).heap[w.heap.size]? = some (.cells (numA (mostTo (k + 1))) 49 (0, 0))) := by
        show _ = _
        rw [blk_set HK.out, numA_set, mostTo_set k hlt]
      have X2 : Hid (Below w.heap.size w (wr.setCell ⟨w.heap.size, k, none⟩ (.int .i64 15))) := HB.out.setCell (Nat.le_refl _) _
      clear HK HB
      go_wp2_with fail
      go_roundw
      case rel => exact ⟨k + 1, by go_num, by omega, X1, X2⟩
      case measure => simp [Go.RowKit.intOf]; omega
    · obtain rfl : k = 6 := by omega
      rw [show ((6 : Nat) : Int) = (6 : Int) from rfl]
      have hlt2 := lt_of_block HK.out
      have HC : Hid (∀ y, Below wr.heap.size wr y → y.cell? ⟨w.heap.size, 0, none⟩ = some (.int .i64 15) ∧ y.cell? ⟨w.heap.size, 1, none⟩ = some (.int .i64 15) ∧ y.cell? ⟨w.heap.size, 2, none⟩ = some (.int .i64 15) ∧ y.cell? ⟨w.heap.size, 3, none⟩ = some (.int .i64 15) ∧ y.cell? ⟨w.heap.size, 4, none⟩ = some (.int .i64 15) ∧ y.cell? ⟨w.heap.size, 5, none⟩ = some (.int .i64 15)) := fun y hb => by
        have h0 := (hb.block _ hlt2).trans HK.out
        exact ⟨(numA_cell h0 0 (by rw [mostTo_len 6 (by omega)]; omega)).1, (numA_cell h0 1 (by rw [mostTo_len 6 (by omega)]; omega)).1, (numA_cell h0 2 (by rw [mostTo_len 6 (by omega)]; omega)).1, (numA_cell h0 3 (by rw [mostTo_len 6 (by omega)]; omega)).1, (numA_cell h0 4 (by rw [mostTo_len 6 (by omega)]; omega)).1, (numA_cell h0 5 (by rw [mostTo_len 6 (by omega)]; omega)).1⟩
      have QS : Hid (∀ y, Below wr.heap.size wr y → Calls Tryz.prog 50 #[.string seed, .int .i64 (key : Int)] y fun e x1 => ∃ g, e = .returned (.slice (some ⟨g, 0, none⟩) 6 6) ∧ y.heap.size ≤ g ∧ BlkS x1 g ((List.range 6).map fun j : Nat => begB seed key (j : Int)) ∧ Below y.heap.size y x1) := fun y hb =>
        starts_any seed key y (HT.out.below (chainB HB.out hb) HT.out.1) hs (by omega) (by omega)
      have QA : Hid (∀ y g, Below wr.heap.size wr y → BlkS y g ((List.range 6).map fun j : Nat => begB seed key (j : Int)) → Calls Tryz.prog 26 #[.slice (some ⟨g, 0, none⟩) 6 6, .agg #[.int .i64 15, .int .i64 15, .int .i64 15, .int .i64 15, .int .i64 15, .int .i64 15]] y fun e x1 => ∃ g', e = .returned (.slice (some ⟨g', 0, none⟩) 6 6) ∧ y.heap.size ≤ g' ∧ BlkS x1 g' ((List.range 6).map (topB seed key)) ∧ Below y.heap.size y x1) := fun y g hb hk => by
        have h := allWalked_any (some ⟨g, 0, none⟩) 6 _ (mostTo 6) y (HT.out.below (chainB HB.out hb) HT.out.1) hk.txt (range_len _ 6) (Nat.le_refl _) (range_wide _ 6 (fun j => begB_size seed key j)) (mostTo_len 6 (by omega)) (fun j hj => by rw [mostTo_at j hj]; omega)
        rw [show (List.range 6).map (goneTo ((List.range 6).map fun j : Nat => begB seed key (j : Int)) (mostTo 6)) = (List.range 6).map (topB seed key) from List.map_congr_left (fun j hj => by
          have hj6 : j < 6 := by simpa using hj
          unfold goneTo topB
          rw [mostTo_at j hj6, range_get _ 6 j hj6]; rfl)] at h
        exact h
      have QD : Hid (∀ y g, Below wr.heap.size wr y → BlkS y g ((List.range 6).map (topB seed key)) → Calls Tryz.prog 25 #[.slice (some ⟨g, 0, none⟩) 6 6] y fun e x1 => e = .returned (.string PUB) ∧ Below y.heap.size y x1) := fun y g hb hk => by
        have hc : cat ((List.range 6).map (topB seed key)) = catB (topB seed key) 6 := cat_map _ 6
        have h := digAll_any g 6 _ y (HT.out.below (chainB HB.out hb) HT.out.1) hk (by rw [range_len]; omega) (by rw [range_len]; omega) (by rw [hc, catB_size _ _ (fun j _ => topB_size seed key j)]; omega)
        rw [hc, range_len] at h
        rw [HPUB.out]
        exact h
      have H0 : Hid (Below wr.heap.size wr wr) := Below.refl _ _
      obtain ⟨x0, x1, x2, x3, x4, x5⟩ := HC.out wr H0.out
      have BW : Hid (Below w.heap.size w wr) := HB
      clear HK HB
      go_wp2_with fail
      go_region_with (first
        | (go_at_call 50; refine (QS.out _ (by first | exact H0.out | exact H0.out.drew)).mono ?_; rintro e y1 ⟨g1, rfl, -, s1, z1⟩; have z1 : Below wr.heap.size wr y1 := chainB (by first | exact H0.out | exact H0.out.drew) z1; obtain ⟨x6, x7, x8, x9, x10, x11⟩ := HC.out _ z1)
        | (go_at_call 26; refine (QA.out _ g1 (by first | exact z1 | exact z1.drew) s1).mono ?_; rintro e y2 ⟨g2, rfl, -, s2, z2⟩; have z2 : Below wr.heap.size wr y2 := chainB (by first | exact z1 | exact z1.drew) z2)
        | (go_at_call 25; refine (QD.out _ g2 (by first | exact z2 | exact z2.drew) s2).mono ?_; rintro e y3 ⟨rfl, z3⟩; have z3 : Below wr.heap.size wr y3 := chainB (by first | exact z2 | exact z2.drew) z3))
      all_goals
        have z4 := chainB BW.out z3
        go_wp2_with fail
        go_ret
        exact ⟨rfl, z4⟩

set_option maxHeartbeats 4000000 in
theorem pubTexts_any (seed : ByteArray) (w : World) (hT : Tabs w) (hs : seed.size ≤ 8000) :
    Calls Tryz.prog 52 #[.string seed] w fun e w' => ∃ g, e = .returned (.slice (some ⟨g, 0, none⟩) 4 4) ∧ w.heap.size ≤ g ∧ BlkS w' g (pubsB seed) ∧ Below w.heap.size w w' := by
  have HT : Hid (Tabs w) := hT
  clear hT
  have HFA : Hid (fillTo (pubB seed) 4 4 = pubsB seed) := fillTo_all _ 4
  rw [← HFA.out]
  obtain ⟨W2, hW2⟩ : ∃ W2, W2 = w.alloc (.cells (strRow (fillTo (pubB seed) 4 0)).toArray 9) := ⟨_, rfl⟩
  have hmk := run_make_str 4 (by omega) w
  rw [← fillTo_zero (pubB seed) 4, ← hW2] at hmk
  rw [show ((4 : Nat) : Int) = (4 : Int) from rfl] at hmk
  have K2 : Hid (BlkS W2 w.heap.size (fillTo (pubB seed) 4 0)) := by rw [hW2]; exact alloc_str _ _
  have B2 : Hid (Below w.heap.size w W2) := by rw [hW2]; exact (Below.refl _ _).alloc (Nat.le_refl _) _
  clear hW2
  go_enter Tryz.func52, Tryz.ntmps52
  go_wp2_with fail
  go_loopw [8] (fun i wr => ∃ (k : Nat), i = .int .i64 k ∧ k ≤ 4 ∧ Hid (BlkS wr w.heap.size (fillTo (pubB seed) 4 k)) ∧ Hid (Below w.heap.size w wr)) (fun i _ => 4 - (Go.RowKit.intOf i).toNat)
  case atStart => exact ⟨0, rfl, by omega, K2, B2⟩
  case round =>
    clear hmk K2 B2
    obtain ⟨k, rfl, hk, HK, HB⟩ := hrel
    by_cases hlt : k < 4
    · have d1 : decide ((k : Int) < 4) = true := decide_eq_true (by omega)
      have i1 : (k : Int) < 4 := by omega
      have i2 : (0 : Int) ≤ k := by omega
      have hset := fillTo_set (pubB seed) 4 k hlt
      have hlen := fillTo_len (pubB seed) 4 k (by omega)
      have hlt2 := HK.out.lt
      have hM := pubText_any seed k wr (HT.out.below HB.out HT.out.1) hs (by omega)
      go_wp2_with fail
      refine hM.mono ?_
      rintro e w4 ⟨rfl, b4⟩
      have hK := HK.out.below b4 hlt2
      obtain ⟨c1, c2⟩ := hK.cell k (by rw [hlen]; omega)
      have X1 : Hid (BlkS (w4.setCell ⟨w.heap.size, k, none⟩ (.string (pubB seed k))) w.heap.size (fillTo (pubB seed) 4 (k + 1))) := by
        show BlkS _ _ _
        rw [← hset]; exact hK.set k _
      have X2 : Hid (Below w.heap.size w (w4.setCell ⟨w.heap.size, k, none⟩ (.string (pubB seed k)))) := (chainB HB.out b4).setCell (Nat.le_refl _) _
      generalize pubB seed k = E at *
      clear b4 hM hK HK HB hset
      go_wp2_with fail
      go_roundw
      case rel => exact ⟨k + 1, by go_num, by omega, X1, X2⟩
      case measure => simp [Go.RowKit.intOf]; omega
    · obtain rfl : k = 4 := by omega
      rw [show ((4 : Nat) : Int) = (4 : Int) from rfl]
      go_wp2_with fail
      go_ret
      exact ⟨_, rfl, by omega, HK.out, HB.out⟩

end Go.Proofs.YtnjegmffjelnpaaGreatDoor
/-
  What the program's Sign answers: 'sgK', 'sgE', 'sgP'.
  Conditions: the two tables lie as the program's text lays them.
-/
namespace Go.Proofs.YtnjegmffjelnpaaGreatDoor
open Go.RowKit Go.Lib
set_option linter.unusedVariables false
set_option maxRecDepth 20000

set_option maxHeartbeats 4000000 in
theorem implSign_any (seed : ByteArray) (key : Int) (text : ByteArray) (w : World) (hT : Tabs w) (hs : seed.size ≤ 1048576) (ht : text.size ≤ 1048576) :
    Calls Tryz.prog 17 #[.string seed, .int .i64 key, .string text] w fun e w' => ∃ v1 v2, e = .returned (.agg #[.int .i64 (sgK seed key text), v1, v2]) ∧ w'.ownsRow w.heap.size 9 1 v1 (sgE seed key text).length (strRow (sgE seed key text)) ∧ w'.ownsRow w.heap.size 9 1 v2 (sgP seed key text).length (strRow (sgP seed key text)) ∧ (v1.ownBlock = none ∨ v1.ownBlock ≠ v2.ownBlock) ∧ Below w.heap.size w w' := by
  have HT : Hid (Tabs w) := hT
  clear hT
  obtain ⟨W1, hW1⟩ : ∃ W1, W1 = w.alloc (.cells #[.int .i64 0, .slice none 0 0, .slice none 0 0] 30) := ⟨_, rfl⟩
  have HW1 : Hid (W1 = w.alloc (.cells #[.int .i64 0, .slice none 0 0, .slice none 0 0] 30)) := hW1
  have B1 : Hid (Below w.heap.size w W1) := by rw [hW1]; exact (Below.refl _ _).alloc (Nat.le_refl _) _
  have X1 : Hid (W1.heap[w.heap.size]? = some (.cells #[.int .i64 0, .slice none 0 0, .slice none 0 0] 30 (0, 0))) := by rw [hW1]; exact (MapKept.heap_alloc w _).1
  have HZ1 : Hid (W1.heap.size = w.heap.size + 1) := by rw [hW1]; show _ = _; simp
  clear hW1
  have hS := seedRight_any seed W1 (by unfold maxLen; omega)
  have hK := keyRight_any key W1
  have HBk : Hid (∀ x, Below W1.heap.size W1 x → x.cell? ⟨w.heap.size, 0, none⟩ = some (.int .i64 0) ∧ x.cell? ⟨w.heap.size, 1, none⟩ = some (.slice none 0 0) ∧ x.cell? ⟨w.heap.size, 2, none⟩ = some (.slice none 0 0) ∧ x.frozen? ⟨w.heap.size, 0, none⟩ = false ∧ x.frozen? ⟨w.heap.size, 1, none⟩ = false ∧ x.frozen? ⟨w.heap.size, 2, none⟩ = false) := fun x hb => by
    have h0 := (hb.block w.heap.size (by rw [HZ1.out]; omega)).trans X1.out
    simp [World.cell?, World.frozen?, h0]
  have HNo : Hid (signOk seed key text = false → sgK seed key text = 0 ∧ sgE seed key text = [] ∧ sgP seed key text = []) := fun h => by
    have hn : ¬ signOk seed key text = true := by rw [h]; exact Bool.false_ne_true
    exact ⟨if_neg hn, if_neg hn, if_neg hn⟩
  have HZero : Hid (∀ x y z : Value, signOk seed key text = false → ∃ v1 v2, Ending.returned (.agg #[.int .i64 0, .slice none 0 0, .slice none 0 0]) = .returned (.agg #[.int .i64 (sgK seed key text), v1, v2]) ∧ (((W1.setCell ⟨w.heap.size, 0, none⟩ x).setCell ⟨w.heap.size, 1, none⟩ y).setCell ⟨w.heap.size, 2, none⟩ z).ownsRow w.heap.size 9 1 v1 (sgE seed key text).length (strRow (sgE seed key text)) ∧ (((W1.setCell ⟨w.heap.size, 0, none⟩ x).setCell ⟨w.heap.size, 1, none⟩ y).setCell ⟨w.heap.size, 2, none⟩ z).ownsRow w.heap.size 9 1 v2 (sgP seed key text).length (strRow (sgP seed key text)) ∧ (v1.ownBlock = none ∨ v1.ownBlock ≠ v2.ownBlock) ∧ Below w.heap.size w (((W1.setCell ⟨w.heap.size, 0, none⟩ x).setCell ⟨w.heap.size, 1, none⟩ y).setCell ⟨w.heap.size, 2, none⟩ z)) := by
    intro x y z h
    obtain ⟨e1, e2, e3⟩ := HNo.out h
    rw [e1, e2, e3]
    exact ⟨_, _, rfl, World.ownsRow_nil _ _ _ _, World.ownsRow_nil _ _ _ _, .inl rfl, ((B1.out.setCell (Nat.le_refl _) _).setCell (Nat.le_refl _) _).setCell (Nat.le_refl _) _⟩
  obtain ⟨t0, t1, t2, u0, u1, u2⟩ := HBk.out W1 (Below.refl _ _)
  cases h1 : seedB seed with
  | false =>
    have hno : signOk seed key text = false := by unfold signOk; rw [h1]; rfl
    have HZ := fun x y z => HZero.out x y z hno
    rw [h1] at hS
    clear hno h1 HZero HNo hK HBk X1
    go_enter Tryz.func17, Tryz.ntmps17
    go_wp2_with fail
    rw [← HW1.out]
    refine hS.mono ?_
    rintro e w1 ⟨rfl, rfl⟩
    go_wp2_with fail
    refine bodyPost_ret (v := .agg #[.int .i64 0, .slice none 0 0, .slice none 0 0]) (by simp [results, Tryz.results17, go_sem, t0, t1, t2]) rfl ?_
    exact HZ _ _ _
  | true =>
  by_cases h2 : 0 ≤ key ∧ key ≤ 3
  case neg =>
    have hno : signOk seed key text = false := by unfold signOk; rw [h1, decide_eq_false h2]; rfl
    have HZ := fun x y z => HZero.out x y z hno
    rw [h1] at hS
    rw [decide_eq_false h2] at hK
    clear hno h1 h2 HZero HNo HBk X1
    go_enter Tryz.func17, Tryz.ntmps17
    go_wp2_with fail
    rw [← HW1.out]
    refine hS.mono ?_
    rintro e w1 ⟨rfl, rfl⟩
    go_wp2_with fail
    refine hK.mono ?_
    rintro e w1 ⟨rfl, rfl⟩
    go_wp2_with fail
    refine bodyPost_ret (v := .agg #[.int .i64 0, .slice none 0 0, .slice none 0 0]) (by simp [results, Tryz.results17, go_sem, t0, t1, t2]) rfl ?_
    exact HZ _ _ _
  rw [h1] at hS
  rw [decide_eq_true h2] at hK
  by_cases h3 : text.size ≤ 8000
  case neg =>
    have hno : signOk seed key text = false := by unfold signOk; rw [h1, decide_eq_true h2, decide_eq_false h3]; rfl
    have HZ := fun x y z => HZero.out x y z hno
    have d3 : decide (8000 < (text.size : Int)) = true := decide_eq_true (by omega)
    clear hno h1 h2 h3 HZero HNo HBk X1
    go_enter Tryz.func17, Tryz.ntmps17
    go_wp2_with fail
    rw [← HW1.out]
    refine hS.mono ?_
    rintro e w1 ⟨rfl, rfl⟩
    go_wp2_with fail
    refine hK.mono ?_
    rintro e w1 ⟨rfl, rfl⟩
    go_wp2_with fail
    refine bodyPost_ret (v := .agg #[.int .i64 0, .slice none 0 0, .slice none 0 0]) (by simp [results, Tryz.results17, go_sem, t0, t1, t2]) rfl ?_
    exact HZ _ _ _
  have hok : signOk seed key text = true := by unfold signOk; rw [h1, decide_eq_true h2, decide_eq_true h3]; rfl
  have h64 : seed.size ≤ 64 := by have h := h1; unfold seedB at h; rw [decide_eq_true_iff] at h; exact h.2
  have d3 : decide (8000 < (text.size : Int)) = false := decide_eq_false (by omega)
  have HE : Hid (sgK seed key text = key ∧ sgE seed key text = endsTo seed key text 6 ∧ sgP seed key text = pathB (pubsB seed) key.toNat) := ⟨if_pos hok, if_pos hok, if_pos hok⟩
  obtain ⟨I, rfl⟩ := Int.eq_ofNat_of_zero_le h2.1
  rw [Int.toNat_natCast] at HE
  have hI3 : I < 4 := by omega
  have HPA : Hid (pathA (pubsB seed) (I : Int) = pathB (pubsB seed) I) := by
    show _ = _
    unfold pathA; rw [if_pos ⟨pubsB_ent seed, by omega, by rw [pubsB_len]; omega⟩, Int.toNat_natCast]
  have HGo : Hid ((List.range 6).map (goneTo ((List.range 6).map fun j : Nat => begB seed (I : Int) (j : Int)) (digsI text)) = endsTo seed I text 6) := List.map_congr_left (fun j hj => by
    have hj6 : j < 6 := by simpa using hj
    unfold goneTo
    rw [range_get _ 6 j hj6]; rfl)
  clear hok h1 h2 h3 HZero HNo X1
  go_enter Tryz.func17, Tryz.ntmps17
  go_wp2_with fail
  rw [← HW1.out]
  refine hS.mono ?_
  rintro e w1 ⟨rfl, rfl⟩
  go_wp2_with fail
  refine hK.mono ?_
  rintro e w1 ⟨rfl, rfl⟩
  go_wp2_with fail
  refine (starts_any seed (I : Int) w1 (HT.out.below B1.out HT.out.1) (by omega) (by omega) (by omega)).mono ?_
  rintro e w2 ⟨g1, rfl, -, s1, b1⟩
  go_wp2_with fail
  refine (digits_any text w2 (HT.out.below (chainB B1.out b1) HT.out.1) ht).mono ?_
  rintro e w3 ⟨rfl, b2⟩
  have s1 := s1.txt.below b2
  have b2 := chainB b1 b2
  have hA := allWalked_any (some ⟨g1, 0, none⟩) 6 _ (digsI text) w3 (HT.out.below (chainB B1.out b2) HT.out.1) s1 (range_len _ 6) (Nat.le_refl _) (range_wide _ 6 (fun j => begB_size seed I j)) (digsI_len text) (fun j hj => dg_bd text j hj)
  rw [HGo.out] at hA
  clear b1 s1
  generalize numA (digsI text) = RW at *
  go_wp2_with fail
  refine hA.mono ?_
  rintro e w4 ⟨g2, rfl, hg2a, s2, b4⟩
  have hg2b := Nat.le_trans b2.size hg2a
  have b4 := chainB b2 b4
  clear b2 hA
  go_wp2_with fail
  refine (pubTexts_any seed w4 (HT.out.below (chainB B1.out b4) HT.out.1) (by omega)).mono ?_
  rintro e w5 ⟨g3, rfl, -, s3, b5⟩
  have s2 := s2.below b5 s2.lt
  have b5 := chainB b4 b5
  have hP := implPath_any (some ⟨g3, 0, none⟩) 4 (pubsB seed) (I : Int) w5 (HT.out.below (chainB B1.out b5) HT.out.1) s3.txt (by rw [pubsB_len]; omega) (by rw [pubsB_len]; omega) (by omega) (by omega)
  rw [pubsB_len, HPA.out] at hP
  clear b4
  go_wp2_with fail
  refine hP.mono ?_
  rintro e w6 ⟨v2, rfl, o2, b6⟩
  have hg2 := s2.lt
  have s2 := s2.below b6 s2.lt
  have b6 := chainB b5 b6
  have o1 : w6.ownsRow w1.heap.size 9 1 (.slice (some ⟨g2, 0, none⟩) 6 6) (endsTo seed I text 6).length (strRow (endsTo seed I text 6)) := by
    have h := s2.own w1.heap.size hg2b (by rw [endsTo_len]; unfold maxLen; omega)
    rw [endsTo_len] at h ⊢
    exact h
  have hne : (Value.slice (some ⟨g2, 0, none⟩) 6 6).ownBlock ≠ v2.ownBlock := fun h => by
    have h5 := (o2.lt g2 h.symm).1
    omega
  have o2 := ownS_mono o2 b5.size
  obtain ⟨s0, s1, s2, r0, r1, r2⟩ := HBk.out w6 b6
  obtain ⟨q2, c2, rfl, -, -⟩ := ownS_form o2
  have HEnd : Hid (∀ x y z : Value, (((w6.setCell ⟨w.heap.size, 0, none⟩ x).setCell ⟨w.heap.size, 1, none⟩ y).setCell ⟨w.heap.size, 2, none⟩ z).ownsRow w.heap.size 9 1 (.slice (some ⟨g2, 0, none⟩) 6 6) (endsTo seed I text 6).length (strRow (endsTo seed I text 6)) ∧ (((w6.setCell ⟨w.heap.size, 0, none⟩ x).setCell ⟨w.heap.size, 1, none⟩ y).setCell ⟨w.heap.size, 2, none⟩ z).ownsRow w.heap.size 9 1 (.slice q2 (pathB (pubsB seed) I).length c2) (pathB (pubsB seed) I).length (strRow (pathB (pubsB seed) I)) ∧ Below w.heap.size w (((w6.setCell ⟨w.heap.size, 0, none⟩ x).setCell ⟨w.heap.size, 1, none⟩ y).setCell ⟨w.heap.size, 2, none⟩ z)) := by
    intro x y z
    have hz := HZ1.out
    have h1 : ∀ {v : Value} {n : Nat} {xs : List Value}, w6.ownsRow w1.heap.size 9 1 v n xs → (((w6.setCell ⟨w.heap.size, 0, none⟩ x).setCell ⟨w.heap.size, 1, none⟩ y).setCell ⟨w.heap.size, 2, none⟩ z).ownsRow w.heap.size 9 1 v n xs := fun h => ownS_mono (ownsRow_setCell_below (ownsRow_setCell_below (ownsRow_setCell_below h (by show w.heap.size < _; omega) _) (by show w.heap.size < _; omega) _) (by show w.heap.size < _; omega) _) (by omega)
    have hB := chainB B1.out b6
    exact ⟨h1 o1, h1 o2, ((hB.setCell (Nat.le_refl _) _).setCell (Nat.le_refl _) _).setCell (Nat.le_refl _) _⟩
  have HNe : Hid ((Value.slice (some ⟨g2, 0, none⟩) 6 6).ownBlock ≠ (Value.slice q2 (pathB (pubsB seed) I).length c2).ownBlock) := hne
  clear o1 o2 b5 b6 hne HBk t0 t1 t2 u0 u1 u2 hP hg2 hg2a hg2b s3
  generalize pathB (pubsB seed) I = L2 at *
  go_wp2_with fail
  refine bodyPost_ret (v := .agg #[.int .i64 (I : Int), .slice (some ⟨g2, 0, none⟩) 6 6, .slice q2 L2.length c2]) (by simp [results, Tryz.results17, go_sem, s0, s1, s2]) rfl ?_
  obtain ⟨r1, r2, r3⟩ := HEnd.out (.int .i64 (I : Int)) (.slice (some ⟨g2, 0, none⟩) 6 6) (.slice q2 L2.length c2)
  obtain ⟨e1, e2, e3⟩ := HE.out
  rw [e1, e2, e3]
  exact ⟨_, _, rfl, r1, r2, .inr HNe.out, r3⟩
end Go.Proofs.YtnjegmffjelnpaaGreatDoor
