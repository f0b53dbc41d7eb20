/-
  Parts of one proof, laid as one text: RootMath, AddMath, Copied; what each says stands at its head.
-/
import Derived.Test.YtclpccnppmbpcaaDoorBytes
import Derived.Test.YtclpccnppmbpcaaDoorDigMath
import Derived.Test.YtclpccnppmbpcaaDoorTreeMath
import Derived.Test.YtclpccnppmbpcaaDoorSlA
import Derived.Test.YtclpccnppmbpcaaDoorOnesMathOnes
import Derived.Test.YtclpccnppmbpcaaDoorRange
import Derived.Test.YtclpccnppmbpcaaDoorRows
import Derived.Test.YtclpccnppmbpcaaDoorJoined
import Derived.Test.YtclpccnppmbpcaaDoorSlBOwnS
import Derived.Handy
import Derived.OwnWalk
import Derived.Deep.AppendLies
/-
  The tree of a Range's nodes, as a plain function: 'rootL', 'rngRootA'.
-/
namespace Go.Proofs.YtclpccnppmbpcaaDoor
open Go.RowKit Go.Lib
set_option linter.unusedVariables false

def rootL : List ByteArray → ByteArray
  | [] => ByteArray.empty
  | [x] => x
  | x :: y :: t => nodeB x (rootL (y :: t))
theorem rootL_drop (ss : List ByteArray) (i : Nat) (h : i + 1 < ss.length) : rootL (ss.drop i) = nodeB ss[i] (rootL (ss.drop (i + 1))) := by
  rw [List.drop_eq_getElem_cons (by omega : i < ss.length), List.drop_eq_getElem_cons h]; rfl
theorem rootL_last (ss : List ByteArray) (h : 0 < ss.length) : rootL (ss.drop (ss.length - 1)) = ss[ss.length - 1] := by
  rw [List.drop_eq_getElem_cons (by omega), List.drop_of_length_le (by omega)]; rfl
theorem rootL_size (ss : List ByteArray) (hs : ∀ x ∈ ss, x.size = 32) (h : 0 < ss.length) : (rootL ss).size = 32 := by
  match ss, hs, h with
  | [x], hs, _ => exact hs x (by simp)
  | x :: y :: t, _, _ => exact nodeB_size _ _
def rngRootA (n : Int) (ss : List ByteArray) : ByteArray := if rngB n ss = true then (if n = 0 then digB ByteArray.empty else rootL ss) else ByteArray.empty
theorem onesN_pos {n : Nat} (h : 0 < n) : 0 < onesN n := by
  induction n using Nat.strongRecOn with
  | _ n ih =>
    rw [onesN_step]
    by_cases ho : n % 2 = 1
    · omega
    · have := ih (n / 2) (by omega) (by omega); omega
/-- A box's cells, behind what turns nothing that was there. -/
theorem box_at {w w2 : World} {cs : Array Value} {T : TypeId} (hb : Below (w.alloc (.cells cs T)).heap.size (w.alloc (.cells cs T)) w2) (i : Nat) : w2.cell? ⟨w.heap.size, i, none⟩ = cs[i]? := by
  rw [hb.cell (p := ⟨w.heap.size, i, none⟩) (by simp), World.cell?_alloc_mark]
end Go.Proofs.YtclpccnppmbpcaaDoor
/-
  RangeAdd as a plain function: 'addR'.
-/
namespace Go.Proofs.YtclpccnppmbpcaaDoor
open Go.RowKit Go.Lib
set_option linter.unusedVariables false

def carry (n : Nat) (l : List ByteArray) (h : ByteArray) : List ByteArray :=
  if n % 2 = 1 then carry (n / 2) (l.take (l.length - 1)) (nodeB (l.getD (l.length - 1) ByteArray.empty) h) else l ++ [h]
termination_by n
decreasing_by omega
theorem carry_odd {n : Nat} (h : n % 2 = 1) (l : List ByteArray) (x : ByteArray) : carry n l x = carry (n / 2) (l.take (l.length - 1)) (nodeB (l.getD (l.length - 1) ByteArray.empty) x) := by rw [carry]; simp [h]
theorem carry_even {n : Nat} (h : ¬ n % 2 = 1) (l : List ByteArray) (x : ByteArray) : carry n l x = l ++ [x] := by rw [carry]; simp [h]
theorem carry_take {n : Nat} (h : n % 2 = 1) (l : List ByteArray) (k : Nat) (hk : k + 1 ≤ l.length) (x : ByteArray) : carry n (l.take (k + 1)) x = carry (n / 2) (l.take k) (nodeB (l[k]'(by omega)) x) := by
  have e1 : (l.take (k + 1)).length = k + 1 := by simp; omega
  rw [carry_odd h, e1, Nat.add_sub_cancel, List.take_take, Nat.min_eq_left (by omega)]
  congr 2
  simp [List.getD_eq_getElem?_getD]
  rw [List.getElem?_eq_getElem (by omega)]; rfl
theorem onesN_odd {n : Nat} (h : n % 2 = 1) : onesN n = onesN (n / 2) + 1 := by rw [onesN_step]; omega
def addOk (n : Int) (ss : List ByteArray) (t : ByteArray) : Prop := rngB n ss = true ∧ n < 1000000 ∧ t.size ≤ 100
instance (n : Int) (ss : List ByteArray) (t : ByteArray) : Decidable (addOk n ss t) := inferInstanceAs (Decidable (_ ∧ _ ∧ _))
def addN (n : Int) (ss : List ByteArray) (t : ByteArray) : Int := if 8000 < t.size then 0 else if addOk n ss t then n + 1 else n
def addL (n : Int) (ss : List ByteArray) (t : ByteArray) : List ByteArray := if 8000 < t.size then [] else if addOk n ss t then carry n.toNat ss (leafB t) else ss
theorem carry_len (n : Nat) : ∀ (l : List ByteArray) (x : ByteArray), (carry n l x).length ≤ l.length + 1 := by
  induction n using Nat.strongRecOn with
  | _ n ih =>
    intro l x
    by_cases h : n % 2 = 1
    · rw [carry_odd h]
      have := ih (n / 2) (by omega) (l.take (l.length - 1)) (nodeB (l.getD (l.length - 1) ByteArray.empty) x)
      have e : (l.take (l.length - 1)).length ≤ l.length := by simp
      omega
    · rw [carry_even h]; simp
theorem addL_len (n : Int) (ss : List ByteArray) (t : ByteArray) : (addL n ss t).length ≤ ss.length + 1 := by
  unfold addL; split
  · simp
  · split
    · exact carry_len _ _ _
    · omega
end Go.Proofs.YtclpccnppmbpcaaDoor
/-
  The program's copied: the same texts, in new memory of their own.
  Conditions: the slice's cells hold the texts, each of at most 2^20 bytes, at most 2^20 of them.
-/
namespace Go.Proofs.YtclpccnppmbpcaaDoor
open Go.RowKit Go.Lib
set_option linter.unusedVariables false
set_option maxRecDepth 20000

set_option maxHeartbeats 1000000 in
theorem copied_any (p : Option Addr) (cap : Nat) (ss : List ByteArray) (w : World) (hp : TxtAt w p ss) (hn : ss.length ≤ 1048576) (hcap : ss.length ≤ cap) (hs : ∀ x ∈ ss, x.size ≤ 1048576) :
    Calls Tryd.prog 70 #[.slice p ss.length cap] w fun e w' => ∃ v, e = .returned v ∧ w'.ownsRow w.heap.size 9 1 v ss.length (strRow ss) ∧ Below w.heap.size w w' := by
  have HP : Hid (TxtAt w p ss) := hp
  have HS : Hid (∀ x ∈ ss, x.size ≤ 1048576) := hs
  clear hp hs
  obtain ⟨i0, hi, hz0, hz1, hz2⟩ := info_parts infoStr
  go_enter Tryd.func70, Tryd.ntmps70
  go_wp2
  go_loopw [8, 3] (fun i v wr => ∃ k : Nat, k ≤ ss.length ∧ i = .int .i64 k ∧ Hid (wr.ownsRow w.heap.size 9 1 v k (strRow (ss.take k))) ∧ Hid (Below w.heap.size w wr)) (fun i _ _ => ss.length - (intOf i).toNat)
  case atStart => exact ⟨0, Nat.zero_le _, rfl, World.ownsRow_nil _ _ _ _, Below.refl _ _⟩
  case round =>
    obtain ⟨k, hk, rfl, hown, hB⟩ := hrel
    have hsz := hB.out.size
    by_cases hlt : k < ss.length
    · obtain ⟨b, off, rfl, hb, hck⟩ := HP.out k hlt
      have hc1 : wr.cell? ⟨b, off + k, none⟩ = some (.string ss[k]) := (hB.out.cell (p := ⟨b, off + k, none⟩) hb).trans hck
      have hx := HS.out ss[k] (List.getElem_mem hlt)
      have HT : Hid (strRow (ss.take (k + 1)) = strRow (ss.take k) ++ [.string ss[k]]) := by show _ = _; unfold strRow; rw [List.take_succ_eq_append_getElem hlt, List.map_append]; rfl
      have hj := joined_one ss[k] wr (by omega)
      clear hck
      generalize ss[k] = q at *
      go_wp2_with fail
      refine hj.mono ?_
      rintro e w2 ⟨rfl, b2⟩
      have own2 := ownS_below hown.out b2
      have hB2 := chainB hB.out b2
      have hs2 := hB2.size
      go_wp2_with (at_builtin; refine wpList_append_lies _ rfl _ _ 41 rfl w.heap.size 9 i0 (.string ByteArray.empty) 1 16 Tryd.underlying41 hi hz0 hz1 hz2 rfl (by omega) _ k (strRow (ss.take k)) rfl (own2.alloc _) ⟨w2.heap.size, 0, none⟩ 1 1 [.string q] rfl rfl (World.news_of_block (cs := #[.string q]) (t := 9) (fr := (0, 0)) (MapKept.heap_alloc w2 _).1) (by simp [Value.oneCell']) (by omega) (by unfold maxLen; omega) (by omega) (by simp; omega) (w2.heap.size + 1) (by simp) ?_; intro g2 cap2 w3 hown3 hgrow hat hltg)
      have HO3 : Hid (w3.ownsRow w.heap.size 9 1 (.slice (some ⟨g2, 0, none⟩) (k + 1) cap2) (k + 1) (strRow (ss.take (k + 1)))) := by
        show World.ownsRow _ _ _ _ _ _ _
        rw [HT.out]; exact hown3
      have HB3 : Hid (Below w.heap.size w w3) := (hB2.alloc hB2.size _).grown hgrow (by simp; omega) (fun j hj => (own2.lt j hj).1)
      clear hown3 own2
      go_roundw
      case rel => exact ⟨k + 1, by omega, by go_num, HO3, HB3⟩
      case measure => simp [intOf]; omega
    · obtain rfl : k = ss.length := by omega
      have HO3 : Hid (wr.ownsRow w.heap.size 9 1 u3 ss.length (strRow ss)) := by
        have := hown.out; rwa [List.take_length] at this
      go_wp2
      go_ret
      exact ⟨_, rfl, HO3.out, hB.out⟩
end Go.Proofs.YtclpccnppmbpcaaDoor
