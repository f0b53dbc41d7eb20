/-
  Parts of one proof, laid as one text: SignIM, DigAll, SignIA, SignIB; what each says stands at its head.
-/
import Derived.Test.YtfdihkgkiiekcaaDoorBytesDigMath
import Derived.Test.YtfdihkgkiiekcaaDoorSlASlBBxK
import Derived.Test.YtfdihkgkiiekcaaDoorSignMath
import Derived.Test.YtfdihkgkiiekcaaDoorRows
import Derived.Test.YtfdihkgkiiekcaaDoorJoinedTurnIWholeR
import Derived.Test.YtfdihkgkiiekcaaDoorDigITurn2
import Derived.Handy
import Derived.OwnWalk
import Derived.Test.YtfdihkgkiiekcaaDoorBlockI
import Derived.Test.YtfdihkgkiiekcaaDoorSignDStepAppPath2DigestDrawTree
import Derived.WalkSpells
import Derived.Deep.RegionLaw
import Derived.Deep.RegionWith
/-
  Rows of texts that are filled one by one, and rows of six numbers, as plain lists: what the program's chains come to.
-/
namespace Go.Proofs.YtfdihkgkiiekcaaDoor
open Go.RowKit Go.Lib
set_option linter.unusedVariables false

/-- A row of n texts of which the first k are there. -/
def fillTo (f : Nat → ByteArray) (n k : Nat) : List ByteArray := (List.range k).map f ++ List.replicate (n - k) ByteArray.empty
theorem fillTo_len (f : Nat → ByteArray) (n k : Nat) (h : k ≤ n) : (fillTo f n k).length = n := by simp [fillTo]; omega
theorem fillTo_zero (f : Nat → ByteArray) (n : Nat) : fillTo f n 0 = List.replicate n ByteArray.empty := by simp [fillTo]
theorem fillTo_all (f : Nat → ByteArray) (n : Nat) : fillTo f n n = (List.range n).map f := by simp [fillTo]
theorem fillTo_set (f : Nat → ByteArray) (n k : Nat) (h : k < n) : (fillTo f n k).set k (f k) = fillTo f n (k + 1) := by
  unfold fillTo
  obtain ⟨m, hm⟩ : ∃ m, n - k = m + 1 := ⟨n - k - 1, by omega⟩
  rw [hm, List.replicate_succ, List.range_succ, List.map_append, show n - (k + 1) = m by omega]
  rw [List.set_append_right _ _ (by simp)]
  simp
theorem range_get (f : Nat → ByteArray) (n k : Nat) (h : k < n) : ((List.range n).map f).getD k ByteArray.empty = f k := by simp [List.getD_eq_getElem?_getD, h]
theorem range_len (f : Nat → ByteArray) (n : Nat) : ((List.range n).map f).length = n := by simp
theorem range_wide (f : Nat → ByteArray) (n : Nat) (h : ∀ j, (f j).size = 32) : ∀ x ∈ (List.range n).map f, x.size = 32 := by
  intro x hx
  obtain ⟨i, _, rfl⟩ := List.mem_map.1 hx
  exact h i
theorem cat_map (f : Nat → ByteArray) : ∀ n, cat ((List.range n).map f) = catB f n
  | 0 => rfl
  | n + 1 => by
    rw [List.range_succ, List.map_append]
    show _ = catB f n ++ f n
    rw [← cat_map f n]
    apply ByteArray.ext
    simp [cat]
/-- Six numbers, as the cells of an array. -/
def numA (l : List Int) : Array Value := (l.map (Value.int .i64)).toArray
theorem numA_size (l : List Int) : (numA l).size = l.length := by simp [numA]
theorem numA_at (l : List Int) (k : Nat) (h : k < l.length) : (numA l)[k]? = some (.int .i64 (l.getD k 0)) := by
  simp [numA, List.getD_eq_getElem?_getD, h]
theorem numA_one (l : List Int) : (numA l).all (·.oneCell') = true := by
  unfold numA
  rw [List.all_toArray, List.all_eq_true]
  intro x hx
  obtain ⟨i, _, rfl⟩ := List.mem_map.1 hx
  rfl
theorem numA_set (l : List Int) (k : Nat) (v : Int) : (numA l).setIfInBounds k (.int .i64 v) = numA (l.set k v) := by
  simp [numA, List.map_set]
/-- Each chain, so many steps further. -/
def goneTo (chains : List ByteArray) (steps : List Int) (j : Nat) : ByteArray := stepsB (steps.getD j 0).toNat (chains.getD j ByteArray.empty)
end Go.Proofs.YtfdihkgkiiekcaaDoor
/-
  What the program's digestOfAll answers: the digest of all texts, one behind the other.
  Conditions: the two tables of the digest lie as laid.
-/
namespace Go.Proofs.YtfdihkgkiiekcaaDoor
open Go.RowKit Go.Lib
set_option linter.unusedVariables false

set_option maxHeartbeats 1000000 in
theorem digAll_any (g c : Nat) (ss : List ByteArray) (w : World) (hT : Tabs w) (hb : BlkS w g ss) (hn : ss.length ≤ 1024) (hc : ss.length ≤ c) (htot : (cat ss).size ≤ 1099511627776) :
    Calls Tryd.prog 54 #[.slice (some ⟨g, 0, none⟩) ss.length c] w fun e w' => e = .returned (.string (digB (cat ss))) ∧ Below w.heap.size w w' := by
  have hJ := joined_any g 0 ss.length c ss w rfl hb.lt (by omega) hc (fun i h => by rw [Nat.zero_add]; exact (hb.cell i h).1) (by rw [← cat_size]; omega)
  have HT : Hid (Tabs w) := hT
  clear hT hb
  generalize cat ss = C at *
  go_enter Tryd.func54, Tryd.ntmps54
  go_wp2_with fail
  refine hJ.mono ?_
  rintro e w1 ⟨rfl, b1⟩
  go_wp2_with fail
  refine (digI_any C w1 htot (HT.out.below b1 HT.out.1)).mono ?_
  rintro e w2 ⟨rfl, b2⟩
  have b2 := chainB b1 b2
  go_wp2_with fail
  go_ret
  exact ⟨rfl, b2⟩
end Go.Proofs.YtfdihkgkiiekcaaDoor
/-
  What the program's seedRight, walked (with Digest as its step), allWalked and digestOfAll answer.
  Conditions: the chains' texts have 32 bytes; the two tables lie as the program's text lays them.
-/
namespace Go.Proofs.YtfdihkgkiiekcaaDoor
open Go.RowKit Go.Lib
set_option linter.unusedVariables false
set_option maxRecDepth 20000

/-- Digest, handed on as a value. -/
def digF : Value := .func (.func 67) #[] #[]

set_option maxHeartbeats 1000000 in
theorem walked_any (t : ByteArray) (n : Nat) (w : World) (hT : Tabs w) (ht : t.size ≤ 8000) (hn : n ≤ 1000) :
    Calls Tryd.prog 66 #[.string t, .int .i64 (n : Int), .func (.func 67) #[] #[]] w fun e w' => e = .returned (.string (stepsB n t)) ∧ Below w.heap.size w w' := by
  obtain ⟨R, hR⟩ : ∃ R, R = stepsB n t := ⟨_, rfl⟩
  rw [← hR]
  have HR : Hid (R = stepsB n t) := hR
  have HT : Hid (Tabs w) := hT
  clear hR hT
  go_enter Tryd.func66, Tryd.ntmps66
  go_wp2_with fail
  go_loopw [0, 8] (fun s i wr => ∃ (k : Nat) (u : ByteArray), s = .string u ∧ i = .int .i64 k ∧ k ≤ n ∧ u.size ≤ 8000 ∧ Hid (R = stepsB (n - k) u) ∧ Hid (Below w.heap.size w wr)) (fun _ i _ => n - (intOf i).toNat)
  case atStart => exact ⟨0, t, rfl, rfl, by omega, ht, HR, Below.refl _ _⟩
  case round =>
    clear HR
    obtain ⟨k, u, rfl, rfl, hk, hu, HR, HB⟩ := hrel
    by_cases hlt : k < n
    · have d1 : decide ((k : Int) < n) = true := decide_eq_true (by omega)
      have HR2 : Hid (R = stepsB (n - (k + 1)) (digB u)) := by
        have h := HR.out
        rw [show n - k = (n - (k + 1)) + 1 by omega] at h
        exact h
      have hs := digB_size u
      have hD := implDigest_any u wr (by unfold maxLen; omega) (HT.out.below HB.out HT.out.1)
      rw [show digestB u = digB u from if_pos hu] at hD
      clear HR
      go_wp2_with fail
      refine hD.mono ?_
      rintro e w1 ⟨rfl, b1⟩
      generalize digB u = D at *
      have HB1 : Hid (Below w.heap.size w w1) := chainB HB.out b1
      clear b1 HB hD
      go_wp2_with fail
      go_roundw
      case rel => exact ⟨k + 1, D, rfl, by go_num, by omega, by omega, HR2, HB1⟩
      case measure => simp [intOf]; omega
    · obtain rfl : k = n := by omega
      have HR2 : Hid (R = u) := by
        have h := HR.out
        rw [show k - k = 0 by omega] at h
        exact h
      have d1 : decide ((k : Int) < k) = false := decide_eq_false (by omega)
      clear HR
      go_wp2_with fail
      go_ret
      exact ⟨ret_str HR2.out.symm, HB.out⟩

end Go.Proofs.YtfdihkgkiiekcaaDoor
/-
  What the program's allWalked answers: a new row of six texts, each chain so many steps further.
  Conditions: the chains' texts have 32 bytes; each number of steps is from 0 to 15; the two tables lie as the program's text lays them.
-/
namespace Go.Proofs.YtfdihkgkiiekcaaDoor
open Go.RowKit Go.Lib
set_option linter.unusedVariables false
set_option maxRecDepth 20000

theorem under6 : Tryd.prog.underlying 83 = some (.array (Tryd.prog.arrayLen 83) (Tryd.prog.elem 83)) := by kernel_rfl
theorem len6 : Tryd.prog.arrayLen 83 = 6 := by kernel_rfl
theorem info6 : (Tryd.prog.info? 83).map (·.size) = some 6 := by kernel_rfl
theorem numA_cell {w : World} {g : Nat} {l : List Int} {T : TypeId} (h : w.heap[g]? = some (.cells (numA l) T (0, 0))) (i : Nat) (hi : i < l.length) : w.cell? ⟨g, i, none⟩ = some (.int .i64 (l.getD i 0)) ∧ w.frozen? ⟨g, i, none⟩ = false := by
  constructor
  · simp [World.cell?, h, numA, List.getElem?_eq_getElem hi, List.getD_eq_getElem?_getD]
  · simp [World.frozen?, h]

set_option maxHeartbeats 4000000 in
theorem allWalked_any (q : Option Addr) (c : Nat) (chains : List ByteArray) (steps : List Int) (w : World) (hT : Tabs w) (hq : TxtAt w q chains) (hl : chains.length = 6) (hc : 6 ≤ c) (h32 : ∀ x ∈ chains, x.size = 32) (hs : steps.length = 6) (hb : ∀ j, j < 6 → 0 ≤ steps.getD j 0 ∧ steps.getD j 0 ≤ 15) :
    Calls Tryd.prog 55 #[.slice q 6 c, .agg (numA steps)] w fun e w' => ∃ g, e = .returned (.slice (some ⟨g, 0, none⟩) 6 6) ∧ w.heap.size ≤ g ∧ BlkS w' g ((List.range 6).map (goneTo chains steps)) ∧ Below w.heap.size w w' := by
  have HT : Hid (Tabs w) := hT
  have HQ : Hid (TxtAt w q chains) := hq
  have HL : Hid (chains.length = 6) := hl
  have H32 : Hid (∀ x ∈ chains, x.size = 32) := h32
  have HS : Hid (steps.length = 6) := hs
  have HBd : Hid (∀ j, j < 6 → 0 ≤ steps.getD j 0 ∧ steps.getD j 0 ≤ 15) := hb
  clear hT hq hl h32 hs hb
  obtain ⟨bq, oq, rfl, -, -⟩ := HQ.out 0 (by rw [HL.out]; omega)
  obtain ⟨f, hf⟩ : ∃ f, f = goneTo chains steps := ⟨_, rfl⟩
  have HF : Hid (f = goneTo chains steps) := hf
  rw [← hf]
  clear hf
  have HFA : Hid (fillTo f 6 6 = (List.range 6).map f) := fillTo_all f 6
  rw [← HFA.out]
  obtain ⟨W1, hW1⟩ : ∃ W1, W1 = w.alloc (.cells (numA steps) 83) := ⟨_, rfl⟩
  have HW1 : Hid (W1 = w.alloc (.cells (numA steps) 83)) := hW1
  have S1 : W1.heap.size = w.heap.size + 1 := by rw [hW1]; simp
  have R1 : W1.heap[w.heap.size]? = some (.cells (numA steps) 83 (0, 0)) := by rw [hW1]; exact (MapKept.heap_alloc w _).1
  have B1 : Below w.heap.size w W1 := by rw [hW1]; exact (Below.refl _ _).alloc (Nat.le_refl _) _
  clear hW1
  obtain ⟨W2, hW2⟩ : ∃ W2, W2 = W1.alloc (.cells (strRow (fillTo f 6 0)).toArray 9) := ⟨_, rfl⟩
  have hmk := run_make_str 6 (by omega) W1
  rw [← fillTo_zero f 6, ← hW2] at hmk
  rw [show ((6 : Nat) : Int) = (6 : Int) from rfl] at hmk
  have R2 : Hid (W2.heap[w.heap.size]? = some (.cells (numA steps) 83 (0, 0))) := by rw [hW2]; exact (Below.heap_alloc _ _ _ (by omega)).trans R1
  have K2 : Hid (BlkS W2 W1.heap.size (fillTo f 6 0)) := by rw [hW2]; exact alloc_str _ _
  have B2 : Hid (Below w.heap.size w W2) := by rw [hW2]; exact B1.alloc B1.size _
  rw [S1] at K2 hmk
  rw [HW1.out] at hmk
  clear hW2 R1 B1 S1
  go_enter Tryd.func55, Tryd.ntmps55
  go_wp2_with fail
  go_loopw [10] (fun i wr => ∃ (k : Nat), i = .int .i64 k ∧ k ≤ 6 ∧ Hid (wr.heap[w.heap.size]? = some (.cells (numA steps) 83 (0, 0))) ∧ Hid (BlkS wr (w.heap.size + 1) (fillTo f 6 k)) ∧ Hid (Below w.heap.size w wr)) (fun i _ => 6 - (intOf i).toNat)
  case atStart => exact ⟨0, rfl, by omega, R2, K2, B2⟩
  case round =>
    clear hmk R2 K2 B2 HW1
    obtain ⟨k, rfl, hk, HR, HK, HB⟩ := hrel
    by_cases hlt : k < 6
    · have d1 : decide ((k : Int) < 6) = true := decide_eq_true (by omega)
      have i1 : (k : Int) < 6 := by omega
      have hkc : k < chains.length := by rw [HL.out]; omega
      have x1 := (HQ.out.below HB.out).at k hkc
      obtain ⟨x2, -⟩ := numA_cell HR.out k (by rw [HS.out]; omega)
      obtain ⟨m0, m1⟩ := HBd.out k hlt
      have hE32 := H32.out _ (List.getElem_mem hkc)
      have HU : Hid (f k = stepsB (steps.getD k 0).toNat chains[k]) := by
        show _ = _
        rw [HF.out]
        unfold goneTo
        congr 1
        simp [List.getD_eq_getElem?_getD, hkc]
      obtain ⟨M, hM⟩ := Int.eq_ofNat_of_zero_le m0
      rw [hM] at x2 m1 HU
      rw [Int.toNat_natCast] at HU
      have hset := fillTo_set f 6 k hlt
      have hlen := fillTo_len f 6 k (by omega)
      have hlt2 := HK.out.lt
      have HX : Hid (∀ y, Below wr.heap.size wr y → y.frozen? ⟨w.heap.size + 1, k, none⟩ = false ∧ (∃ v, y.cell? ⟨w.heap.size + 1, k, none⟩ = some v) ∧ Hid ((y.setCell ⟨w.heap.size + 1, k, none⟩ (.string (f k))).heap[w.heap.size]? = some (.cells (numA steps) 83 (0, 0))) ∧ Hid (BlkS (y.setCell ⟨w.heap.size + 1, k, none⟩ (.string (f k))) (w.heap.size + 1) (fillTo f 6 (k + 1))) ∧ Hid (Below w.heap.size w (y.setCell ⟨w.heap.size + 1, k, none⟩ (.string (f k))))) := by
        intro y hb
        have hK := HK.out.below hb hlt2
        obtain ⟨c1, c2⟩ := hK.cell k (by rw [hlen]; omega)
        refine ⟨c2, ⟨_, c1⟩, ?_, ?_, ?_⟩
        · show _ = _
          rw [show (y.setCell ⟨w.heap.size + 1, k, none⟩ (.string (f k))).heap[w.heap.size]? = y.heap[w.heap.size]? by simp [World.setCell, Array.getElem?_modify]]
          exact (hb.block _ (by omega)).trans HR.out
        · show BlkS _ _ _
          rw [← hset]; exact hK.set k _
        · exact (HB.out.trans (hb.mono HB.out.size)).setCell (by show w.heap.size ≤ w.heap.size + 1; omega) _
      have QW : Hid (∀ y, Below wr.heap.size wr y → Calls Tryd.prog 66 #[.string chains[k], .int .i64 (M : Int), .func (.func 67) #[] #[]] y fun e x1 => e = .returned (.string (f k)) ∧ Below y.heap.size y x1) := fun y hb => by
        rw [HU.out]
        exact walked_any _ M y (HT.out.below (HB.out.trans (hb.mono HB.out.size)) HT.out.1) (by omega) (by omega)
      have i2 : (0 : Int) ≤ k := by omega
      generalize chains[k] = C at *
      generalize f k = E at *
      clear HU hM m0 hE32 hset hlen
      go_wp2_with fail
      go_region_with (first
        | (go_at_call 66; refine (QW.out _ (by first | exact Below.refl _ _ | exact (Below.refl _ _).drew)).mono ?_; rintro e y1 ⟨rfl, z1⟩; have z1 : Below wr.heap.size wr y1 := chainB (by first | exact Below.refl _ _ | exact (Below.refl _ _).drew) z1; obtain ⟨x3, ⟨v4, x4⟩, x5, x6, x7⟩ := HX.out _ z1))
      all_goals
        clear HR HK HB z1 x3 x4
        go_wp2_with fail
        go_roundw
        case rel => exact ⟨k + 1, by go_num, by omega, x5, x6, x7⟩
        case measure => simp [intOf]; omega
    · obtain rfl : k = 6 := by omega
      rw [show ((6 : Nat) : Int) = (6 : Int) from rfl]
      go_wp2_with fail
      go_ret
      exact ⟨_, rfl, by omega, HK.out, HB.out⟩
end Go.Proofs.YtfdihkgkiiekcaaDoor
