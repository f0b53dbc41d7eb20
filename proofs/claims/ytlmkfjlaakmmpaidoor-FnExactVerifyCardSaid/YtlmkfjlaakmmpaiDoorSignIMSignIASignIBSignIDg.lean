/-
  Parts of one proof, laid as one text: SignIM, SignIA, SignIB, SignIDg; what each says stands at its head.
-/
import Derived.Test.YtlmkfjlaakmmpaiDoorBytes
import Derived.Test.YtlmkfjlaakmmpaiDoorSlA
import Derived.Test.YtlmkfjlaakmmpaiDoorSlBOwnS
import Derived.Test.YtlmkfjlaakmmpaiDoorSignMath
import Derived.Test.YtlmkfjlaakmmpaiDoorRows
import Derived.Test.YtlmkfjlaakmmpaiDoorDigMath
import Derived.Test.YtlmkfjlaakmmpaiDoorBlockI
import Derived.Test.YtlmkfjlaakmmpaiDoorDigI
import Derived.Test.YtlmkfjlaakmmpaiDoorDrawTreeDigest
import Derived.Test.YtlmkfjlaakmmpaiDoorJoined
import Derived.Handy
import Derived.WalkSpells
import Derived.OwnWalk
import Derived.Deep.RegionLaw
import Derived.Deep.RegionWith
import Derived.Test.YtlmkfjlaakmmpaiDoorTurnIWholeR
/-
  Rows of texts that are filled one by one, and rows of six numbers, as plain lists: what the program's chains come to.
-/
namespace Go.Proofs.YtlmkfjlaakmmpaiDoor
open Go.RowKit Go.Lib
set_option linter.unusedVariables false

/-- A row of n texts of which the first k are there. -/
def fillTo (f : Nat → ByteArray) (n k : Nat) : List ByteArray := (List.range k).map f ++ List.replicate (n - k) ByteArray.empty
theorem fillTo_len (f : Nat → ByteArray) (n k : Nat) (h : k ≤ n) : (fillTo f n k).length = n := by simp [fillTo]; omega
theorem fillTo_zero (f : Nat → ByteArray) (n : Nat) : fillTo f n 0 = List.replicate n ByteArray.empty := by simp [fillTo]
theorem fillTo_all (f : Nat → ByteArray) (n : Nat) : fillTo f n n = (List.range n).map f := by simp [fillTo]
theorem fillTo_set (f : Nat → ByteArray) (n k : Nat) (h : k < n) : (fillTo f n k).set k (f k) = fillTo f n (k + 1) := by
  unfold fillTo
  obtain ⟨m, hm⟩ : ∃ m, n - k = m + 1 := ⟨n - k - 1, by omega⟩
  rw [hm, List.replicate_succ, List.range_succ, List.map_append, show n - (k + 1) = m by omega]
  rw [List.set_append_right _ _ (by simp)]
  simp
theorem range_get (f : Nat → ByteArray) (n k : Nat) (h : k < n) : ((List.range n).map f).getD k ByteArray.empty = f k := by simp [List.getD_eq_getElem?_getD, h]
theorem range_len (f : Nat → ByteArray) (n : Nat) : ((List.range n).map f).length = n := by simp
theorem range_wide (f : Nat → ByteArray) (n : Nat) (h : ∀ j, (f j).size = 32) : ∀ x ∈ (List.range n).map f, x.size = 32 := by
  intro x hx
  obtain ⟨i, _, rfl⟩ := List.mem_map.1 hx
  exact h i
theorem cat_map (f : Nat → ByteArray) : ∀ n, cat ((List.range n).map f) = catB f n
  | 0 => rfl
  | n + 1 => by
    rw [List.range_succ, List.map_append]
    show _ = catB f n ++ f n
    rw [← cat_map f n]
    apply ByteArray.ext
    simp [cat]
/-- Six numbers, as the cells of an array. -/
def numA (l : List Int) : Array Value := (l.map (Value.int .i64)).toArray
theorem numA_size (l : List Int) : (numA l).size = l.length := by simp [numA]
theorem numA_at (l : List Int) (k : Nat) (h : k < l.length) : (numA l)[k]? = some (.int .i64 (l.getD k 0)) := by
  simp [numA, List.getD_eq_getElem?_getD, h]
theorem numA_one (l : List Int) : (numA l).all (·.oneCell') = true := by
  unfold numA
  rw [List.all_toArray, List.all_eq_true]
  intro x hx
  obtain ⟨i, _, rfl⟩ := List.mem_map.1 hx
  rfl
theorem numA_set (l : List Int) (k : Nat) (v : Int) : (numA l).setIfInBounds k (.int .i64 v) = numA (l.set k v) := by
  simp [numA, List.map_set]
/-- Each chain, so many steps further. -/
def goneTo (chains : List ByteArray) (steps : List Int) (j : Nat) : ByteArray := stepsB (steps.getD j 0).toNat (chains.getD j ByteArray.empty)
end Go.Proofs.YtlmkfjlaakmmpaiDoor
/-
  What the program's seedRight, walked (with Digest as its step), allWalked and digestOfAll answer.
  Conditions: the chains' texts have 32 bytes; the two tables lie as the program's text lays them.
-/
namespace Go.Proofs.YtlmkfjlaakmmpaiDoor
open Go.RowKit Go.Lib
set_option linter.unusedVariables false
set_option maxRecDepth 20000

theorem seedRight_any (t : ByteArray) (w : World) (ht : t.size ≤ maxLen) : Calls Tryd.prog 20 #[.string t] w fun e w' => e = .returned (.bool (seedB t)) ∧ w' = w := by
  unfold maxLen at ht
  have H0 : Hid (seedB t = decide (1 ≤ t.size ∧ t.size ≤ 64)) := rfl
  by_cases h1 : 1 ≤ t.size
  · have d1 : decide (1 ≤ (t.size : Int)) = true := decide_eq_true (by omega)
    by_cases h2 : t.size ≤ 64
    · have d2 : decide ((t.size : Int) ≤ 64) = true := decide_eq_true (by omega)
      rw [H0.out, decide_eq_true ⟨h1, h2⟩]
      go_enter Tryd.func20, Tryd.ntmps20
      go_wp2
      go_ret
      exact ⟨rfl, rfl⟩
    · have d2 : decide ((t.size : Int) ≤ 64) = false := decide_eq_false (by omega)
      rw [H0.out, decide_eq_false (fun h => h2 h.2)]
      go_enter Tryd.func20, Tryd.ntmps20
      go_wp2
      go_ret
      exact ⟨rfl, rfl⟩
  · have d1 : decide (1 ≤ (t.size : Int)) = false := decide_eq_false (by omega)
    rw [H0.out, decide_eq_false (fun h => h1 h.1)]
    go_enter Tryd.func20, Tryd.ntmps20
    go_wp2
    go_ret
    exact ⟨rfl, rfl⟩

/-- Digest, handed on as a value. -/
def digF : Value := .func (.func 53) #[] #[]

set_option maxHeartbeats 1000000 in
theorem walked_any (t : ByteArray) (n : Nat) (w : World) (hT : Tabs w) (ht : t.size ≤ 8000) (hn : n ≤ 1000) :
    Calls Tryd.prog 52 #[.string t, .int .i64 (n : Int), .func (.func 53) #[] #[]] w fun e w' => e = .returned (.string (stepsB n t)) ∧ Below w.heap.size w w' := by
  obtain ⟨R, hR⟩ : ∃ R, R = stepsB n t := ⟨_, rfl⟩
  rw [← hR]
  have HR : Hid (R = stepsB n t) := hR
  have HT : Hid (Tabs w) := hT
  clear hR hT
  go_enter Tryd.func52, Tryd.ntmps52
  go_wp2_with fail
  go_loopw [0, 8] (fun s i wr => ∃ (k : Nat) (u : ByteArray), s = .string u ∧ i = .int .i64 k ∧ k ≤ n ∧ u.size ≤ 8000 ∧ Hid (R = stepsB (n - k) u) ∧ Hid (Below w.heap.size w wr)) (fun _ i _ => n - (intOf i).toNat)
  case atStart => exact ⟨0, t, rfl, rfl, by omega, ht, HR, Below.refl _ _⟩
  case round =>
    clear HR
    obtain ⟨k, u, rfl, rfl, hk, hu, HR, HB⟩ := hrel
    by_cases hlt : k < n
    · have d1 : decide ((k : Int) < n) = true := decide_eq_true (by omega)
      have HR2 : Hid (R = stepsB (n - (k + 1)) (digB u)) := by
        have h := HR.out
        rw [show n - k = (n - (k + 1)) + 1 by omega] at h
        exact h
      have hs := digB_size u
      have hD := implDigest_any u wr (by unfold maxLen; omega) (HT.out.below HB.out HT.out.1)
      rw [show digestB u = digB u from if_pos hu] at hD
      clear HR
      go_wp2_with fail
      refine hD.mono ?_
      rintro e w1 ⟨rfl, b1⟩
      generalize digB u = D at *
      have HB1 : Hid (Below w.heap.size w w1) := chainB HB.out b1
      clear b1 HB hD
      go_wp2_with fail
      go_roundw
      case rel => exact ⟨k + 1, D, rfl, by go_num, by omega, by omega, HR2, HB1⟩
      case measure => simp [intOf]; omega
    · obtain rfl : k = n := by omega
      have HR2 : Hid (R = u) := by
        have h := HR.out
        rw [show k - k = 0 by omega] at h
        exact h
      have d1 : decide ((k : Int) < k) = false := decide_eq_false (by omega)
      clear HR
      go_wp2_with fail
      go_ret
      exact ⟨ret_str HR2.out.symm, HB.out⟩

set_option maxHeartbeats 1000000 in
theorem digAll_any (g c : Nat) (ss : List ByteArray) (w : World) (hT : Tabs w) (hb : BlkS w g ss) (hn : ss.length ≤ 1024) (hc : ss.length ≤ c) (htot : (cat ss).size ≤ 1099511627776) :
    Calls Tryd.prog 42 #[.slice (some ⟨g, 0, none⟩) ss.length c] w fun e w' => e = .returned (.string (digB (cat ss))) ∧ Below w.heap.size w w' := by
  have hJ := joined_any g 0 ss.length c ss w rfl hb.lt (by omega) hc (fun i h => by rw [Nat.zero_add]; exact (hb.cell i h).1) (by rw [← cat_size]; omega)
  have HT : Hid (Tabs w) := hT
  clear hT hb
  generalize cat ss = C at *
  go_enter Tryd.func42, Tryd.ntmps42
  go_wp2_with fail
  refine hJ.mono ?_
  rintro e w1 ⟨rfl, b1⟩
  go_wp2_with fail
  refine (digI_any C w1 htot (HT.out.below b1 HT.out.1)).mono ?_
  rintro e w2 ⟨rfl, b2⟩
  have b2 := chainB b1 b2
  go_wp2_with fail
  go_ret
  exact ⟨rfl, b2⟩
end Go.Proofs.YtlmkfjlaakmmpaiDoor
/-
  What the program's allWalked answers: a new row of six texts, each chain so many steps further.
  Conditions: the chains' texts have 32 bytes; each number of steps is from 0 to 15; the two tables lie as the program's text lays them.
-/
namespace Go.Proofs.YtlmkfjlaakmmpaiDoor
open Go.RowKit Go.Lib
set_option linter.unusedVariables false
set_option maxRecDepth 20000

theorem under6 : Tryd.prog.underlying 43 = some (.array (Tryd.prog.arrayLen 43) (Tryd.prog.elem 43)) := by kernel_rfl
theorem len6 : Tryd.prog.arrayLen 43 = 6 := by kernel_rfl
theorem info6 : (Tryd.prog.info? 43).map (·.size) = some 6 := by kernel_rfl
theorem numA_cell {w : World} {g : Nat} {l : List Int} {T : TypeId} (h : w.heap[g]? = some (.cells (numA l) T (0, 0))) (i : Nat) (hi : i < l.length) : w.cell? ⟨g, i, none⟩ = some (.int .i64 (l.getD i 0)) ∧ w.frozen? ⟨g, i, none⟩ = false := by
  constructor
  · simp [World.cell?, h, numA, List.getElem?_eq_getElem hi, List.getD_eq_getElem?_getD]
  · simp [World.frozen?, h]

set_option maxHeartbeats 4000000 in
theorem allWalked_any (q : Option Addr) (c : Nat) (chains : List ByteArray) (steps : List Int) (w : World) (hT : Tabs w) (hq : TxtAt w q chains) (hl : chains.length = 6) (hc : 6 ≤ c) (h32 : ∀ x ∈ chains, x.size = 32) (hs : steps.length = 6) (hb : ∀ j, j < 6 → 0 ≤ steps.getD j 0 ∧ steps.getD j 0 ≤ 15) :
    Calls Tryd.prog 26 #[.slice q 6 c, .agg (numA steps)] w fun e w' => ∃ g, e = .returned (.slice (some ⟨g, 0, none⟩) 6 6) ∧ w.heap.size ≤ g ∧ BlkS w' g ((List.range 6).map (goneTo chains steps)) ∧ Below w.heap.size w w' := by
  have HT : Hid (Tabs w) := hT
  have HQ : Hid (TxtAt w q chains) := hq
  have HL : Hid (chains.length = 6) := hl
  have H32 : Hid (∀ x ∈ chains, x.size = 32) := h32
  have HS : Hid (steps.length = 6) := hs
  have HBd : Hid (∀ j, j < 6 → 0 ≤ steps.getD j 0 ∧ steps.getD j 0 ≤ 15) := hb
  clear hT hq hl h32 hs hb
  obtain ⟨bq, oq, rfl, -, -⟩ := HQ.out 0 (by rw [HL.out]; omega)
  obtain ⟨f, hf⟩ : ∃ f, f = goneTo chains steps := ⟨_, rfl⟩
  have HF : Hid (f = goneTo chains steps) := hf
  rw [← hf]
  clear hf
  have HFA : Hid (fillTo f 6 6 = (List.range 6).map f) := fillTo_all f 6
  rw [← HFA.out]
  obtain ⟨W1, hW1⟩ : ∃ W1, W1 = w.alloc (.cells (numA steps) 43) := ⟨_, rfl⟩
  have HW1 : Hid (W1 = w.alloc (.cells (numA steps) 43)) := hW1
  have S1 : W1.heap.size = w.heap.size + 1 := by rw [hW1]; simp
  have R1 : W1.heap[w.heap.size]? = some (.cells (numA steps) 43 (0, 0)) := by rw [hW1]; exact (MapKept.heap_alloc w _).1
  have B1 : Below w.heap.size w W1 := by rw [hW1]; exact (Below.refl _ _).alloc (Nat.le_refl _) _
  clear hW1
  obtain ⟨W2, hW2⟩ : ∃ W2, W2 = W1.alloc (.cells (strRow (fillTo f 6 0)).toArray 9) := ⟨_, rfl⟩
  have hmk := run_make_str 6 (by omega) W1
  rw [← fillTo_zero f 6, ← hW2] at hmk
  rw [show ((6 : Nat) : Int) = (6 : Int) from rfl] at hmk
  have R2 : Hid (W2.heap[w.heap.size]? = some (.cells (numA steps) 43 (0, 0))) := by rw [hW2]; exact (Below.heap_alloc _ _ _ (by omega)).trans R1
  have K2 : Hid (BlkS W2 W1.heap.size (fillTo f 6 0)) := by rw [hW2]; exact alloc_str _ _
  have B2 : Hid (Below w.heap.size w W2) := by rw [hW2]; exact B1.alloc B1.size _
  rw [S1] at K2 hmk
  rw [HW1.out] at hmk
  clear hW2 R1 B1 S1
  go_enter Tryd.func26, Tryd.ntmps26
  go_wp2_with fail
  go_loopw [10] (fun i wr => ∃ (k : Nat), i = .int .i64 k ∧ k ≤ 6 ∧ Hid (wr.heap[w.heap.size]? = some (.cells (numA steps) 43 (0, 0))) ∧ Hid (BlkS wr (w.heap.size + 1) (fillTo f 6 k)) ∧ Hid (Below w.heap.size w wr)) (fun i _ => 6 - (intOf i).toNat)
  case atStart => exact ⟨0, rfl, by omega, R2, K2, B2⟩
  case round =>
    clear hmk R2 K2 B2 HW1
    obtain ⟨k, rfl, hk, HR, HK, HB⟩ := hrel
    by_cases hlt : k < 6
    · have d1 : decide ((k : Int) < 6) = true := decide_eq_true (by omega)
      have i1 : (k : Int) < 6 := by omega
      have hkc : k < chains.length := by rw [HL.out]; omega
      have x1 := (HQ.out.below HB.out).at k hkc
      obtain ⟨x2, -⟩ := numA_cell HR.out k (by rw [HS.out]; omega)
      obtain ⟨m0, m1⟩ := HBd.out k hlt
      have hE32 := H32.out _ (List.getElem_mem hkc)
      have HU : Hid (f k = stepsB (steps.getD k 0).toNat chains[k]) := by
        show _ = _
        rw [HF.out]
        unfold goneTo
        congr 1
        simp [List.getD_eq_getElem?_getD, hkc]
      obtain ⟨M, hM⟩ := Int.eq_ofNat_of_zero_le m0
      rw [hM] at x2 m1 HU
      rw [Int.toNat_natCast] at HU
      have hset := fillTo_set f 6 k hlt
      have hlen := fillTo_len f 6 k (by omega)
      have hlt2 := HK.out.lt
      have HX : Hid (∀ y, Below wr.heap.size wr y → y.frozen? ⟨w.heap.size + 1, k, none⟩ = false ∧ (∃ v, y.cell? ⟨w.heap.size + 1, k, none⟩ = some v) ∧ Hid ((y.setCell ⟨w.heap.size + 1, k, none⟩ (.string (f k))).heap[w.heap.size]? = some (.cells (numA steps) 43 (0, 0))) ∧ Hid (BlkS (y.setCell ⟨w.heap.size + 1, k, none⟩ (.string (f k))) (w.heap.size + 1) (fillTo f 6 (k + 1))) ∧ Hid (Below w.heap.size w (y.setCell ⟨w.heap.size + 1, k, none⟩ (.string (f k))))) := by
        intro y hb
        have hK := HK.out.below hb hlt2
        obtain ⟨c1, c2⟩ := hK.cell k (by rw [hlen]; omega)
        refine ⟨c2, ⟨_, c1⟩, ?_, ?_, ?_⟩
        · show _ = _
          rw [show (y.setCell ⟨w.heap.size + 1, k, none⟩ (.string (f k))).heap[w.heap.size]? = y.heap[w.heap.size]? by simp [World.setCell, Array.getElem?_modify]]
          exact (hb.block _ (by omega)).trans HR.out
        · show BlkS _ _ _
          rw [← hset]; exact hK.set k _
        · exact (HB.out.trans (hb.mono HB.out.size)).setCell (by show w.heap.size ≤ w.heap.size + 1; omega) _
      have QW : Hid (∀ y, Below wr.heap.size wr y → Calls Tryd.prog 52 #[.string chains[k], .int .i64 (M : Int), .func (.func 53) #[] #[]] y fun e x1 => e = .returned (.string (f k)) ∧ Below y.heap.size y x1) := fun y hb => by
        rw [HU.out]
        exact walked_any _ M y (HT.out.below (HB.out.trans (hb.mono HB.out.size)) HT.out.1) (by omega) (by omega)
      have i2 : (0 : Int) ≤ k := by omega
      generalize chains[k] = C at *
      generalize f k = E at *
      clear HU hM m0 hE32 hset hlen
      go_wp2_with fail
      go_region_with (first
        | (go_at_call 52; refine (QW.out _ (by first | exact Below.refl _ _ | exact (Below.refl _ _).drew)).mono ?_; rintro e y1 ⟨rfl, z1⟩; have z1 : Below wr.heap.size wr y1 := chainB (by first | exact Below.refl _ _ | exact (Below.refl _ _).drew) z1; obtain ⟨x3, ⟨v4, x4⟩, x5, x6, x7⟩ := HX.out _ z1))
      all_goals
        clear HR HK HB z1 x3 x4
        go_wp2_with fail
        go_roundw
        case rel => exact ⟨k + 1, by go_num, by omega, x5, x6, x7⟩
        case measure => simp [intOf]; omega
    · obtain rfl : k = 6 := by omega
      rw [show ((6 : Nat) : Int) = (6 : Int) from rfl]
      go_wp2_with fail
      go_ret
      exact ⟨_, rfl, by omega, HK.out, HB.out⟩
end Go.Proofs.YtlmkfjlaakmmpaiDoor
/-
  What the program's digitsOf answers: 'digsI', six numbers.
  Conditions: the text has at most 2^20 bytes; the two tables lie as the program's text lays them.
-/
namespace Go.Proofs.YtlmkfjlaakmmpaiDoor
open Go.RowKit Go.Lib
set_option linter.unusedVariables false
set_option maxRecDepth 20000

def digRow (a b : Int) : Nat → List Int
  | 0 => [0, 0, 0, 0, 0, 0]
  | 1 => [a / 16, a % 16, 0, 0, 0, 0]
  | _ => [a / 16, a % 16, b / 16, b % 16, 0, 0]
def digLack (a b : Int) : Nat → Int
  | 0 => 60
  | 1 => 60 - (a / 16 + a % 16)
  | _ => 60 - (a / 16 + a % 16) - (b / 16 + b % 16)
theorem digsI_eq (t : ByteArray) (a b : Int) (ha : a = byteAt (digB t) 0) (hb : b = byteAt (digB t) 1) : digsI t = [a / 16, a % 16, b / 16, b % 16, digLack a b 2 / 16, digLack a b 2 % 16] := by
  unfold digsI digLack
  rw [← ha, ← hb]
  have e : 60 - a / 16 - a % 16 - b / 16 - b % 16 = 60 - (a / 16 + a % 16) - (b / 16 + b % 16) := by omega
  simp only [e]

theorem ld6 {w : World} {g : Nat} {l : List Int} (hl : l.length = 6) (h : w.heap[g]? = some (.cells (numA l) 43 (0, 0))) : (loadVar 43 ⟨g, 0, none⟩).run Tryd.prog w = .ok (.agg (numA l)) w :=
  run_loadVar_row (P := Tryd.prog) w g 43 43 _ (0, 0) _ h under6 rfl (by rw [numA_size, hl]; exact info6)
theorem st6 {w : World} {g : Nat} {l : List Int} (l' : List Int) (hl : l.length = 6) (hl' : l'.length = 6) (h : w.heap[g]? = some (.cells (numA l) 43 (0, 0))) : (storeVar 43 ⟨g, 0, none⟩ (.agg (numA l'))).run Tryd.prog w = .ok () (w.setRow g (numA l')) :=
  run_storeVar_row (P := Tryd.prog) w g 43 43 _ (numA l') h (by rw [numA_size, hl']; exact info6) (by rw [numA_size, numA_size, hl, hl']) (numA_one _)

set_option maxHeartbeats 4000000 in
theorem digits_any (t : ByteArray) (w : World) (hT : Tabs w) (ht : t.size ≤ 1048576) :
    Calls Tryd.prog 28 #[.string t] w fun e w' => e = .returned (.agg (numA (digsI t))) ∧ Below w.heap.size w w' := by
  obtain ⟨D, hD⟩ : ∃ D, D = digB t := ⟨_, rfl⟩
  have hs : D.size = 32 := by rw [hD]; exact digB_size t
  have h0 : 0 < D.size := by omega
  have h1 : 1 < D.size := by omega
  have e0 : byteAt D 0 = ((D[0]'h0).toNat : Int) := by
    unfold byteAt; simp [List.getD_eq_getElem?_getD]; rw [Array.getElem?_eq_getElem h0]; rfl
  have e1 : byteAt D 1 = ((D[1]'h1).toNat : Int) := by
    unfold byteAt; simp [List.getD_eq_getElem?_getD]; rw [Array.getElem?_eq_getElem h1]; rfl
  have c0 : ((D[0]'h0).toNat : Int) ≤ 255 := by have := (D[0]'h0).toNat_lt; omega
  have c1 : ((D[1]'h1).toNat : Int) ≤ 255 := by have := (D[1]'h1).toNat_lt; omega
  have n0 : 0 ≤ ((D[0]'h0).toNat : Int) := by omega
  have n1 : 0 ≤ ((D[1]'h1).toNat : Int) := by omega
  have HG : Hid (∀ A B : Int, A = ((D[0]'h0).toNat : Int) → B = ((D[1]'h1).toNat : Int) → digsI t = [A / 16, A % 16, B / 16, B % 16, digLack A B 2 / 16, digLack A B 2 % 16]) := fun A B hA hB => digsI_eq t A B (by rw [hA, ← hD, e0]) (by rw [hB, ← hD, e1])
  have HT : Hid (Tabs w) := hT
  obtain ⟨RS, hRS⟩ : ∃ RS, RS = digsI t := ⟨_, rfl⟩
  rw [← hRS]
  rw [← hRS] at HG
  clear hT e0 e1 hRS
  have e48 : (w.alloc (.cells #[.int .i64 0, .int .i64 0, .int .i64 0, .int .i64 0, .int .i64 0, .int .i64 0] 43)).heap.size = w.heap.size + 1 := by simp
  obtain ⟨W2, hW2⟩ : ∃ W2, W2 = (w.alloc (.cells #[.int .i64 0, .int .i64 0, .int .i64 0, .int .i64 0, .int .i64 0, .int .i64 0] 43)).alloc (.cells #[.int .i64 0, .int .i64 0, .int .i64 0, .int .i64 0, .int .i64 0, .int .i64 0] 43) := ⟨_, rfl⟩
  have HW2 : Hid (W2 = (w.alloc (.cells #[.int .i64 0, .int .i64 0, .int .i64 0, .int .i64 0, .int .i64 0, .int .i64 0] 43)).alloc (.cells #[.int .i64 0, .int .i64 0, .int .i64 0, .int .i64 0, .int .i64 0, .int .i64 0] 43)) := hW2
  have R0 : Hid (W2.heap[w.heap.size]? = some (.cells (numA (digRow 0 0 0)) 43 (0, 0))) := by rw [hW2]; exact (Below.heap_alloc _ _ _ (by rw [e48]; omega)).trans (MapKept.heap_alloc w _).1
  have R1 : Hid (W2.heap[w.heap.size + 1]? = some (.cells (numA (digRow 0 0 0)) 43 (0, 0))) := by rw [hW2, ← e48]; exact (MapKept.heap_alloc _ _).1
  have B2 : Hid (Below w.heap.size w W2) := by rw [hW2]; exact ((Below.refl _ _).alloc (Nat.le_refl _) _).alloc (by rw [e48]; omega) _
  have S2 : Hid (w.heap.size + 2 ≤ W2.heap.size) := by rw [hW2]; show _ ≤ _; simp
  have hA := digI_any t W2 (by omega) (HT.out.below B2.out HT.out.1)
  rw [← hD] at hA
  clear hW2 hD e48
  go_enter Tryd.func28, Tryd.ntmps28
  go_wp2_with fail
  rw [← HW2.out]
  refine hA.mono ?_
  rintro e w3 ⟨rfl, b3⟩
  obtain ⟨A, hAe⟩ : ∃ A, A = ((D[0]'h0).toNat : Int) := ⟨_, rfl⟩
  obtain ⟨B, hBe⟩ : ∃ B, B = ((D[1]'h1).toNat : Int) := ⟨_, rfl⟩
  have HG2 : Hid (RS = [A / 16, A % 16, B / 16, B % 16, digLack A B 2 / 16, digLack A B 2 % 16]) := HG.out A B hAe hBe
  have Q0 : Hid (w3.heap[w.heap.size]? = some (.cells (numA (digRow 0 0 0)) 43 (0, 0))) := (b3.block _ (by have := S2.out; omega)).trans R0.out
  have Q1 : Hid (w3.heap[w.heap.size + 1]? = some (.cells (numA (digRow A B 0)) 43 (0, 0))) := (b3.block _ (by have := S2.out; omega)).trans R1.out
  have BB : Hid (Below w.heap.size w w3) := chainB B2.out b3
  rw [← hAe] at c0 n0
  rw [← hBe] at c1 n1
  have HAe : Hid (((D[0]'h0).toNat : Int) = A) := hAe.symm
  have HBe : Hid (((D[1]'h1).toNat : Int) = B) := hBe.symm
  have HA : 0 ≤ A / 16 ∧ A / 16 ≤ 15 ∧ 0 ≤ A % 16 ∧ A % 16 ≤ 15 := by omega
  have HB : 0 ≤ B / 16 ∧ B / 16 ≤ 15 ∧ 0 ≤ B % 16 ∧ B % 16 ≤ 15 := by omega
  have wA : wrap64 (A / 16) = A / 16 := by unfold wrap64; omega
  have wB : wrap64 (B / 16) = B / 16 := by unfold wrap64; omega
  obtain ⟨a0, a1, a2, a3⟩ := HA
  obtain ⟨a4, a5, a6, a7⟩ := HB
  clear hA b3 R0 R1 B2 HG hAe hBe HW2
  go_wp2_with fail
  go_loopw [5, 11] (fun l i wr => ∃ (k : Nat), i = .int .i64 k ∧ k ≤ 2 ∧ l = .int .i64 (digLack A B k) ∧ Hid (wr.heap[w.heap.size]? = some (.cells (numA (digRow 0 0 0)) 43 (0, 0))) ∧ Hid (wr.heap[w.heap.size + 1]? = some (.cells (numA (digRow A B k)) 43 (0, 0))) ∧ Hid (Below w.heap.size w wr)) (fun _ i _ => 2 - (intOf i).toNat)
  case atStart => exact ⟨0, rfl, by omega, rfl, Q0, Q1, BB⟩
  case round =>
    clear Q0 Q1 BB
    obtain ⟨k, rfl, hk, rfl, P0, P1, PB⟩ := hrel
    have hk3 : k = 0 ∨ k = 1 ∨ k = 2 := by omega
    rcases hk3 with rfl | rfl | rfl
    · rw [show ((0 : Nat) : Int) = (0 : Int) from rfl, show digLack A B 0 = 60 from rfl]
      have f0 := (numA_cell P1.out 0 (by show 0 < 6; omega)).2
      have f1 := (numA_cell P1.out 1 (by show 1 < 6; omega)).2
      have g0 := (numA_cell P1.out 0 (by show 0 < 6; omega)).1
      have g1 := (numA_cell P1.out 1 (by show 1 < 6; omega)).1
      have X1 : Hid (((wr.setCell ⟨w.heap.size + 1, 0, none⟩ (.int .i64 (A / 16))).setCell ⟨w.heap.size + 1, 1, none⟩ (.int .i64 (A % 16))).heap[w.heap.size + 1]? = some (.cells (numA (digRow A B 1)) 43 (0, 0))) := by
        show _ = _
        rw [blk_set (blk_set P1.out _), numA_set, numA_set]; rfl
      have X0 : Hid (((wr.setCell ⟨w.heap.size + 1, 0, none⟩ (.int .i64 (A / 16))).setCell ⟨w.heap.size + 1, 1, none⟩ (.int .i64 (A % 16))).heap[w.heap.size]? = some (.cells (numA (digRow 0 0 0)) 43 (0, 0))) := by
        show _ = _
        rw [← P0.out]; simp [World.setCell, Array.getElem?_modify]
      have XB : Hid (Below w.heap.size w ((wr.setCell ⟨w.heap.size + 1, 0, none⟩ (.int .i64 (A / 16))).setCell ⟨w.heap.size + 1, 1, none⟩ (.int .i64 (A % 16)))) := (PB.out.setCell (by show w.heap.size ≤ w.heap.size + 1; omega) _).setCell (by show w.heap.size ≤ w.heap.size + 1; omega) _
      have hlk : Hid (digLack A B 1 = 60 - (A / 16 + A % 16)) := rfl
      clear P0 P1 PB
      go_wp2_with fail
      go_region
      rw [HAe.out, wA]
      go_wp2_with fail
      go_roundw
      case rel => exact ⟨1, by go_num, by omega, by rw [hlk.out], X0, X1, XB.out.drew⟩
      case measure => simp [intOf]
    · rw [show ((1 : Nat) : Int) = (1 : Int) from rfl]
      have f0 := (numA_cell P1.out 2 (by show 2 < 6; omega)).2
      have f1 := (numA_cell P1.out 3 (by show 3 < 6; omega)).2
      have g0 := (numA_cell P1.out 2 (by show 2 < 6; omega)).1
      have g1 := (numA_cell P1.out 3 (by show 3 < 6; omega)).1
      have X1 : Hid (((wr.setCell ⟨w.heap.size + 1, 2, none⟩ (.int .i64 (B / 16))).setCell ⟨w.heap.size + 1, 3, none⟩ (.int .i64 (B % 16))).heap[w.heap.size + 1]? = some (.cells (numA (digRow A B 2)) 43 (0, 0))) := by
        show _ = _
        rw [blk_set (blk_set P1.out _), numA_set, numA_set]; rfl
      have X0 : Hid (((wr.setCell ⟨w.heap.size + 1, 2, none⟩ (.int .i64 (B / 16))).setCell ⟨w.heap.size + 1, 3, none⟩ (.int .i64 (B % 16))).heap[w.heap.size]? = some (.cells (numA (digRow 0 0 0)) 43 (0, 0))) := by
        show _ = _
        rw [← P0.out]; simp [World.setCell, Array.getElem?_modify]
      have XB : Hid (Below w.heap.size w ((wr.setCell ⟨w.heap.size + 1, 2, none⟩ (.int .i64 (B / 16))).setCell ⟨w.heap.size + 1, 3, none⟩ (.int .i64 (B % 16)))) := (PB.out.setCell (by show w.heap.size ≤ w.heap.size + 1; omega) _).setCell (by show w.heap.size ≤ w.heap.size + 1; omega) _
      have hlk : Hid (digLack A B 2 = digLack A B 1 - (B / 16 + B % 16)) := rfl
      have l0 : 0 ≤ digLack A B 1 ∧ digLack A B 1 ≤ 60 := by show 0 ≤ 60 - (A / 16 + A % 16) ∧ 60 - (A / 16 + A % 16) ≤ 60; omega
      obtain ⟨l0, l1⟩ := l0
      generalize digLack A B 1 = L at *
      clear P0 P1 PB
      go_wp2_with fail
      go_region
      rw [HBe.out, wB]
      go_wp2_with fail
      go_roundw
      case rel => exact ⟨2, by go_num, by omega, by rw [hlk.out], X0, X1, XB.out.drew⟩
      case measure => simp [intOf]
    · rw [show ((2 : Nat) : Int) = (2 : Int) from rfl]
      have f0 := (numA_cell P1.out 4 (by show 4 < 6; omega)).2
      have f1 := (numA_cell P1.out 5 (by show 5 < 6; omega)).2
      have g0 := (numA_cell P1.out 4 (by show 4 < 6; omega)).1
      have g1 := (numA_cell P1.out 5 (by show 5 < 6; omega)).1
      have l0 : 0 ≤ digLack A B 2 ∧ digLack A B 2 ≤ 60 := by show 0 ≤ 60 - (A / 16 + A % 16) - (B / 16 + B % 16) ∧ 60 - (A / 16 + A % 16) - (B / 16 + B % 16) ≤ 60; omega
      obtain ⟨l0, l1⟩ := l0
      have hr6 : RS.length = 6 := by rw [HG2.out]; rfl
      have X1 : ((wr.setCell ⟨w.heap.size + 1, 4, none⟩ (.int .i64 (digLack A B 2 / 16))).setCell ⟨w.heap.size + 1, 5, none⟩ (.int .i64 (digLack A B 2 % 16))).heap[w.heap.size + 1]? = some (.cells (numA RS) 43 (0, 0)) := by
        rw [blk_set (blk_set P1.out _), numA_set, numA_set, HG2.out]; rfl
      have X0 : ((wr.setCell ⟨w.heap.size + 1, 4, none⟩ (.int .i64 (digLack A B 2 / 16))).setCell ⟨w.heap.size + 1, 5, none⟩ (.int .i64 (digLack A B 2 % 16))).heap[w.heap.size]? = some (.cells (numA (digRow 0 0 0)) 43 (0, 0)) := by
        rw [← P0.out]; simp [World.setCell, Array.getElem?_modify]
      have XB : Below w.heap.size w ((wr.setCell ⟨w.heap.size + 1, 4, none⟩ (.int .i64 (digLack A B 2 / 16))).setCell ⟨w.heap.size + 1, 5, none⟩ (.int .i64 (digLack A B 2 % 16))) := (PB.out.setCell (by show w.heap.size ≤ w.heap.size + 1; omega) _).setCell (by show w.heap.size ≤ w.heap.size + 1; omega) _
      generalize digLack A B 2 = L at *
      have XL : Hid _ := ld6 hr6 X1
      have XS : Hid _ := st6 RS rfl hr6 X0
      have XR : Hid _ := ld6 hr6 (setRow_heap _ w.heap.size _ (numA RS) 43 _ X0)
      have XE := below_setRow XB (Nat.le_refl _) (numA RS)
      clear P0 P1 PB X0 X1 XB HG2
      generalize hRE : numA RS = row at *
      have HRE : Hid (numA RS = row) := hRE
      clear hRE
      go_wp2_with (first | refine wpList_load_row rfl 43 _ rfl ⟨w.heap.size + 1, 0, none⟩ _ rfl XL.out ?_ | refine wpList_store_row rfl 43 _ _ rfl rfl ⟨w.heap.size, 0, none⟩ _ _ rfl rfl XS.out ?_)
      refine bodyPost_cell rfl rfl rfl XR.out ⟨ret_agg HRE.out.symm, XE⟩
end Go.Proofs.YtlmkfjlaakmmpaiDoor
