/-
  Parts of one proof, laid as one text: LawS, LawM, FldRise, ScanMath; what each says stands at its head.
-/
import Derived.Test.YtnaonldkbaapeacGreatDoorRows
import Derived.Test.YtnaonldkbaapeacGreatDoorBytesDigMath
import Derived.Test.YtnaonldkbaapeacGreatDoorTreeMath
import Derived.Test.YtnaonldkbaapeacGreatDoorSlASlBBxKOwnSTakes
import Derived.Handy
import Derived.Deep.QuietTactic
import Derived.BigQuiet
import Derived.OwnWalk
import Derived.Laws.OwnMore
import Derived.Deep.AppendLies
import Derived.Test.YtnaonldkbaapeacGreatDoorJoinedPutTextFldMath
import Derived.WalkKit
import Derived.ProofKit
import Derived.Below
import Derived.Laws.BitsAllLaws
import Derived.Laws.Bits64b
import Derived.Lib.Strings
/-
  What the laws' own helpers answer for slices of texts: szStringS (of few and small ones, a number that is not below 0, else -1), toStringS (a copy in new memory), eqStringS (are they alike).
  Conditions: the slices' cells hold those texts.
-/
namespace Go.Proofs.YtnaonldkbaapeacGreatDoor
open Go.RowKit Go.Lib
set_option linter.unusedVariables false

def cutS (ss : List ByteArray) (k : Nat) : List ByteArray := ss.take k ++ List.replicate (ss.length - k) ByteArray.empty
theorem cutS_len (ss : List ByteArray) (k : Nat) (h : k ≤ ss.length) : (cutS ss k).length = ss.length := by simp [cutS]; omega
theorem cutS_set (ss : List ByteArray) (k : Nat) (h : k < ss.length) : (cutS ss k).set k ss[k] = cutS ss (k + 1) := by
  unfold cutS
  rw [show ss.length - k = (ss.length - (k + 1)) + 1 by omega, List.replicate_succ]
  have hl : (ss.take k).length = k := by simp; omega
  rw [List.set_append_right _ _ (by omega), hl, Nat.sub_self, List.set_cons_zero, List.take_succ_eq_append_getElem h, List.append_assoc]; rfl

def SzEnd (r : Int) (ss : List ByteArray) : Prop := r = -1 ∨ (0 ≤ r ∧ ss.length ≤ 1048576 ∧ ∀ x ∈ ss, x.size ≤ 1048576)
set_option maxHeartbeats 400000 in
theorem sz_any (p : Option Addr) (cap : Nat) (ss : List ByteArray) (w : World) (hp : TxtAt w p ss) (hn : ss.length ≤ 9223372036854775807) (hcap : ss.length ≤ cap) (hs : ∀ x ∈ ss, x.size ≤ 9223372036854775807) :
    Calls Tryz.prog 26 #[.slice p ss.length cap, .int .i64 1048576] w fun e w' => (∃ r : Int, e = .returned (.int .i64 r) ∧ SzEnd r ss) ∧ w' = w := by
  have HP : Hid (TxtAt w p ss) := hp
  have HS : Hid (∀ x ∈ ss, x.size ≤ 9223372036854775807) := hs
  clear hp hs
  by_cases hl : ss.length ≤ 1048576
  · go_enter Tryz.func26, Tryz.ntmps26
    go_wp2
    go_loop [5, 1] (fun i x => ∃ (k : Nat) (l : Int), k ≤ ss.length ∧ i = .int .i64 k ∧ x = .int .i64 l ∧ 0 ≤ l ∧ l ≤ 1048576 ∧ Hid (∀ j (h : j < ss.length), j < k → ss[j].size ≤ 1048576)) (fun i _ => ss.length - (intOf i).toNat)
    case atStart => exact ⟨0, _, Nat.zero_le _, rfl, rfl, by omega, by omega, fun j h hk => by omega⟩
    case round =>
      obtain ⟨k, l, hk, rfl, rfl, hl0, hl1, HK⟩ := hrel
      by_cases hlt : k < ss.length
      · obtain ⟨b, off, rfl, hb, hck⟩ := HP.out k hlt
        have hsz := HS.out ss[k] (List.getElem_mem hlt)
        by_cases h32 : (ss[k].size : Int) ≤ l
        · have HK2 : Hid (∀ j (h : j < ss.length), j < k + 1 → ss[j].size ≤ 1048576) := fun j h hj => if he : j = k then by subst he; omega else HK.out j h (by omega)
          generalize ss[k] = q at *
          go_wp2
          go_round
          case rel => exact ⟨k + 1, l - q.size, by omega, by go_num, by go_num, by omega, by omega, HK2⟩
          case measure => simp [intOf]; omega
        · generalize ss[k] = q at *
          go_wp2
          go_ret
          exact ⟨⟨_, rfl, .inl rfl⟩, rfl⟩
      · have HF : Hid (∀ x ∈ ss, x.size ≤ 1048576) := fun x hx => by
          obtain ⟨j, hj, rfl⟩ := List.getElem_of_mem hx
          exact HK.out j hj (by omega)
        go_wp2
        go_ret
        exact ⟨⟨_, rfl, .inr ⟨hl0, hl, HF.out⟩⟩, rfl⟩
  · go_enter Tryz.func26, Tryz.ntmps26
    go_wp2
    go_ret
    exact ⟨⟨_, rfl, .inl rfl⟩, rfl⟩

set_option maxHeartbeats 400000 in
theorem to_any (p : Option Addr) (cap : Nat) (ss : List ByteArray) (w : World) (hp : TxtAt w p ss) (hn : ss.length ≤ 1048576) (hcap : ss.length ≤ cap) :
    Calls Tryz.prog 31 #[.slice p ss.length cap] w fun e w' => e = .returned (.slice (some ⟨w.heap.size, 0, none⟩) ss.length ss.length) ∧ BlkS w' w.heap.size ss ∧ Below w.heap.size w w' := by
  have HP : Hid (TxtAt w p ss) := hp
  clear hp
  have hmk := run_make_str ss.length hn
  have H0 : Hid (BlkS (w.alloc (.cells (strRow (List.replicate ss.length ByteArray.empty)).toArray 9)) w.heap.size (cutS ss 0)) := by
    have := alloc_str w (List.replicate ss.length ByteArray.empty)
    show BlkS _ _ _
    unfold cutS; simpa using this
  go_enter Tryz.func31, Tryz.ntmps31
  go_wp2
  go_loopw [4] (fun i wr => ∃ k : Nat, k ≤ ss.length ∧ i = .int .i64 k ∧ Hid (BlkS wr w.heap.size (cutS ss k)) ∧ Hid (Below w.heap.size w wr)) (fun i _ => ss.length - (intOf i).toNat)
  case atStart => exact ⟨0, Nat.zero_le _, rfl, H0, (Below.refl _ _).alloc (Nat.le_refl _) _⟩
  case round =>
    clear H0 hmk
    obtain ⟨k, hk, rfl, hrow, hnx⟩ := hrel
    have hsz := hrow.out.lt
    by_cases hlt : k < ss.length
    · obtain ⟨b, off, rfl, hb, hck⟩ := HP.out k hlt
      have hc1 : wr.cell? ⟨b, off + k, none⟩ = some (.string ss[k]) := (hnx.out.cell (p := ⟨b, off + k, none⟩) hb).trans hck
      obtain ⟨hc2, hf2⟩ := hrow.out.cell k (by rw [cutS_len _ _ (by omega)]; exact hlt)
      have HR : Hid (BlkS (wr.setCell ⟨w.heap.size, k, none⟩ (.string ss[k])) w.heap.size (cutS ss (k + 1))) := by
        show BlkS _ _ _
        rw [← cutS_set ss k hlt]; exact hrow.out.set k _
      have HB : Hid (Below w.heap.size w (wr.setCell ⟨w.heap.size, k, none⟩ (.string ss[k]))) := hnx.out.setCell (Nat.le_refl _) _
      clear hck
      generalize ss[k] = q at *
      generalize (cutS ss k)[k]'_ = q2 at *
      go_wp2
      go_roundw
      case rel => exact ⟨k + 1, by omega, by go_num, HR, HB⟩
      case measure => simp [intOf]; omega
    · have hkk : k = ss.length := by omega
      subst hkk
      have HR : Hid (BlkS wr w.heap.size ss) := by
        have := hrow.out; unfold cutS at this; show BlkS _ _ _; simpa using this
      go_wp2
      go_ret
      exact ⟨rfl, HR.out, hnx.out⟩

set_option maxHeartbeats 400000 in
theorem eq_any (p q : Option Addr) (cap cap2 : Nat) (ss ts : List ByteArray) (w : World) (hp : TxtAt w p ss) (hq : TxtAt w q ts) (hn : ss.length ≤ 140737488355328) (hn2 : ts.length ≤ 140737488355328) (hcap : ss.length ≤ cap) (hcap2 : ts.length ≤ cap2) :
    Calls Tryz.prog 22 #[.slice p ss.length cap, .slice q ts.length cap2] w fun e w' => e = .returned (.bool (decide (ss = ts))) ∧ Below w.heap.size w w' := by
  have HP : Hid (TxtAt w p ss) := hp
  have HQ : Hid (TxtAt w q ts) := hq
  clear hp hq
  by_cases hl : ss.length = ts.length
  · rw [← hl]
    have hl2 : Hid (ss.length = ts.length) := hl
    clear hl
    rw [← hl2.out] at hcap2
    go_enter Tryz.func22, Tryz.ntmps22
    go_wp2
    go_loopw [5] (fun i wr => ∃ k m : Nat, k ≤ ss.length ∧ i = .int .i64 k ∧ wr = w.drewN m ∧ Hid (∀ j (h : j < ss.length) (h2 : j < ts.length), j < k → ss[j] = ts[j])) (fun i _ => ss.length - (intOf i).toNat)
    case atStart => exact ⟨0, 0, Nat.zero_le _, rfl, rfl, fun j h h2 hk => by omega⟩
    case round =>
      obtain ⟨k, m, hk, rfl, rfl, HK⟩ := hrel
      by_cases hlt : k < ss.length
      · have hlt2 : k < ts.length := by have := hl2.out; omega
        obtain ⟨b, off, rfl, hb, hck⟩ := HP.out k hlt
        obtain ⟨b2, off2, rfl, hb2, hck2⟩ := HQ.out k hlt2
        have j5 : (k : Int) < ss.length := by omega
        by_cases he : ss[k] = ts[k]
        · have HK2 : Hid (∀ j (h : j < ss.length) (h2 : j < ts.length), j < k + 1 → ss[j] = ts[j]) := fun j h h2 hj => if hjk : j = k then by subst hjk; exact he else HK.out j h h2 (by omega)
          rw [← he] at hck2
          clear he
          generalize ss[k] = x at *
          go_wp2
          go_quiet (fail)
          go_wp2
          go_roundw
          case rel => exact ⟨k + 1, _, by omega, by go_num, rfl, HK2⟩
          case measure => simp [intOf]; omega
        · have HF : Hid (decide (ss = ts) = false) := decide_eq_false (fun h => he (by subst h; rfl))
          generalize ss[k] = x at *
          generalize ts[k] = y at *
          have hne : (x.toList == y.toList) = false := by
            rw [beq_eq_false_iff_ne]
            exact fun h => he (toList_inj h)
          clear he
          go_wp2
          go_quiet (fail)
          go_wp2
          go_ret
          exact ⟨ret_bool HF.out.symm, ⟨rfl, rfl, rfl, Nat.le_refl _, fun _ _ => rfl⟩⟩
      · have HF : Hid (decide (ss = ts) = true) := decide_eq_true (List.ext_getElem hl2.out fun j h h2 => HK.out j h h2 (by omega))
        go_wp2
        go_ret
        exact ⟨ret_bool HF.out.symm, ⟨rfl, rfl, rfl, Nat.le_refl _, fun _ _ => rfl⟩⟩
  · have HF : Hid (decide (ss = ts) = false) := decide_eq_false (fun h => hl (by rw [h]))
    have hl2 : ¬ (ss.length : Int) = ts.length := by omega
    go_enter Tryz.func22, Tryz.ntmps22
    go_wp2
    go_ret
    exact ⟨ret_bool HF.out.symm, Below.refl _ _⟩
end Go.Proofs.YtnaonldkbaapeacGreatDoor
/-
  What the laws' own helpers do that mark texts: markText (the mark of a number), markStringS (each text of a slice becomes its mark), heldStringS (are all still marked).
  Conditions: the slice owns its row, of at most 2^20 texts.
-/
namespace Go.Proofs.YtnaonldkbaapeacGreatDoor
open Go.RowKit Go.Lib
set_option linter.unusedVariables false
set_option maxRecDepth 20000

def digs (k : Nat) (acc : ByteArray) : ByteArray := if h : k = 0 then acc else digs (k / 10) (strOfNums [48 + (k : Int) % 10] ++ acc)
termination_by k
decreasing_by omega
theorem digs_zero (acc : ByteArray) : digs 0 acc = acc := by rw [digs]; simp
theorem digs_pos {k : Nat} (h : k ≠ 0) (acc : ByteArray) : digs k acc = digs (k / 10) (strOfNums [48 + (k : Int) % 10] ++ acc) := by rw [digs]; simp [h]
def mk109 : ByteArray := ⟨#[109]⟩
def markB (k : Nat) : ByteArray := mk109 ++ digs k ByteArray.empty
def marksTo (l : List ByteArray) (k : Nat) : List ByteArray := (List.range k).map (fun j => markB (j + 1)) ++ l.drop k
def marksL (n : Nat) : List ByteArray := (List.range n).map (fun j => markB (j + 1))
theorem marksTo_len (l : List ByteArray) (k : Nat) (h : k ≤ l.length) : (marksTo l k).length = l.length := by simp [marksTo]; omega
theorem marksTo_set (l : List ByteArray) (k : Nat) (h : k < l.length) : (marksTo l k).set k (markB (k + 1)) = marksTo l (k + 1) := by
  unfold marksTo
  have hl : ((List.range k).map (fun j => markB (j + 1))).length = k := by simp
  rw [List.set_append_right _ _ (by omega), hl, Nat.sub_self, List.drop_eq_getElem_cons h, List.set_cons_zero, List.range_succ, List.map_append, List.append_assoc]; rfl
theorem marksTo_all (l : List ByteArray) : marksTo l l.length = marksL l.length := by unfold marksTo marksL; simp

theorem conv_one (w : World) (x : Int) : (convert 100 9 (.slice (some ⟨w.heap.size, 0, none⟩) 1 1)).run Tryz.prog (w.alloc (.cells #[.int .u8 x] 5)) = .ok (.string (strOfNums [x])) (w.alloc (.cells #[.int .u8 x] 5)) :=
  run_convert_bytes_arg (P := Tryz.prog) _ 100 5 Tryz.underlying100 Tryz.underlying5 w.heap.size 0 1 1 [x] rfl (fun i hi => by
    have : i = 0 := by simpa using hi
    subst this
    rw [World.cell?_alloc_mark]; rfl) 9 Tryz.underlying9

set_option maxHeartbeats 1000000 in
theorem markText_any (k : Nat) (w : World) (h1 : 1 ≤ k) (h2 : k ≤ 16777217) :
    Calls Tryz.prog 44 #[.int .i64 (k : Int)] w fun e w' => e = .returned (.string (markB k)) ∧ Below w.heap.size w w' := by
  have HB : Hid (markB k = mk109 ++ digs k ByteArray.empty) := rfl
  generalize markB k = M at *
  go_enter Tryz.func44, Tryz.ntmps44
  go_wp2
  go_loopw [0, 3] (fun x v wr => ∃ (j : Nat) (acc : ByteArray), x = .int .i64 j ∧ v = .string acc ∧ acc.size + j ≤ k ∧ Hid (M = mk109 ++ digs j acc) ∧ Hid (Below w.heap.size w wr)) (fun x _ _ => (intOf x).toNat)
  case atStart => exact ⟨k, ByteArray.empty, rfl, rfl, by simp, HB, Below.refl _ _⟩
  case round =>
    clear HB
    obtain ⟨j, acc, rfl, rfl, hs, hM, hB⟩ := hrel
    by_cases hj : 0 < j
    · have hcv := conv_one wr (48 + (j : Int) % 10)
      have hz : (strOfNums [48 + (j : Int) % 10]).size = 1 := by rw [strOfNums_size]; rfl
      have HM2 : Hid (M = mk109 ++ digs (j / 10) (strOfNums [48 + (j : Int) % 10] ++ acc)) := by show _ = _; rw [hM.out, digs_pos (by omega)]
      have HB2 : Hid (Below w.heap.size w (wr.alloc (.cells #[.int .u8 (48 + (j : Int) % 10)] 5))) := hB.out.alloc hB.out.size _
      generalize strOfNums [48 + (j : Int) % 10] = D at *
      go_wp2
      go_roundw
      case rel => exact ⟨j / 10, D ++ acc, by go_num, rfl, by rw [ByteArray.size_append, hz]; omega, HM2, HB2⟩
      case measure => simp [intOf]; omega
    · obtain rfl : j = 0 := by omega
      have HM2 : Hid (M = mk109 ++ acc) := by show _ = _; rw [hM.out, digs_zero]
      go_wp2
      go_ret
      exact ⟨ret_str HM2.out.symm, hB.out⟩

set_option maxHeartbeats 1000000 in
theorem mark_any (base : Nat) (v : Value) (l : List ByteArray) (w : World) (h : w.ownsRow base 9 1 v l.length (strRow l)) (hl : l.length ≤ 1048576) :
    Calls Tryz.prog 23 #[v, .int .i64 1] w fun e w' => e = .returned (.int .i64 ((l.length : Int) + 1)) ∧ w'.ownsRow base 9 1 v l.length (strRow (marksL l.length)) ∧ w.grownBy w' v.ownBlock := by
  rcases h.2 with ⟨rfl, h0⟩ | ⟨g, cap, cur, rfl, hg1, hg2, hg3, hg4, hg5, hg6⟩
  · have hl0 : l = [] := List.length_eq_zero_iff.1 h0
    subst hl0
    clear h h0
    go_enter Tryz.func23, Tryz.ntmps23
    go_wp2
    go_loop [5, 1] (fun i x => i = .int .i64 0 ∧ x = .int .i64 1) (fun _ _ => 0)
    case atStart => exact ⟨rfl, rfl⟩
    case round =>
      obtain ⟨rfl, rfl⟩ := hrel
      go_wp2
      go_ret
      exact ⟨rfl, World.ownsRow_nil _ _ _ _, World.grownBy.refl _ _⟩
  · have HO : Hid (w.ownsRow base 9 1 (.slice (some ⟨g, 0, none⟩) l.length cap) l.length (strRow (marksTo l 0))) := by
      show World.ownsRow _ _ _ _ _ _ _
      rw [show marksTo l 0 = l by simp [marksTo]]; exact h
    have HL : Hid (∀ k, k ≤ l.length → (strRow (marksTo l k)).length = l.length) := fun k hk => by simp [strRow, marksTo_len l k hk]
    clear h hg2 hg5 hg6
    go_enter Tryz.func23, Tryz.ntmps23
    go_wp2
    go_loopw [5, 1] (fun i x wr => ∃ k : Nat, k ≤ l.length ∧ i = .int .i64 k ∧ x = .int .i64 ((k : Int) + 1) ∧ Hid (wr.ownsRow base 9 1 (.slice (some ⟨g, 0, none⟩) l.length cap) l.length (strRow (marksTo l k))) ∧ Hid (w.grownBy wr (some g))) (fun i _ _ => l.length - (intOf i).toNat)
    case atStart => exact ⟨0, Nat.zero_le _, rfl, rfl, HO, World.grownBy.refl _ _⟩
    case round =>
      clear HO
      obtain ⟨k, hk, rfl, rfl, hown, hgr⟩ := hrel
      by_cases hlt : k < l.length
      · have hm := markText_any (k + 1) wr (by omega) (by omega)
        have hset := marksTo_set l k hlt
        have HS : Hid (∀ w2, Below wr.heap.size wr w2 → w2.cell? ⟨g, k, none⟩ = some (.string ((marksTo l k)[k]'(by rw [marksTo_len l k hk]; exact hlt))) ∧ w2.frozen? ⟨g, k, none⟩ = false ∧ (w2.setCell ⟨g, k, none⟩ (.string (markB (k + 1)))).ownsRow base 9 1 (.slice (some ⟨g, 0, none⟩) l.length cap) l.length (strRow (marksTo l (k + 1))) ∧ w.grownBy (w2.setCell ⟨g, k, none⟩ (.string (markB (k + 1)))) (some g)) := by
          intro w2 hb
          have ho2 := ownS_below hown.out hb
          refine ⟨?_, ho2.frozenAt k, ?_, ?_⟩
          · rw [ho2.cellAt k (by omega)]; simp [strRow, marksTo_len l k hk, hlt]
          · have := (ho2.stored k (.string (markB (k + 1)))).1
            have e : (strRow (marksTo l k)).set k (.string (markB (k + 1))) = strRow (marksTo l (k + 1)) := by rw [← hset]; simp [strRow, List.map_set]
            rw [e] at this; exact this
          · have a := hgr.out
            refine ⟨hb.os.trans a.os, hb.tape.trans a.tape, hb.output.trans a.output, ?_, ?_⟩
            · simpa [World.setCell] using Nat.le_trans a.size hb.size
            · intro q hq hne
              have hqg : g ≠ q := fun e => hne (by rw [e])
              rw [show (w2.setCell ⟨g, k, none⟩ (.string (markB (k + 1)))).heap[q]? = w2.heap[q]? by simp [World.setCell, Array.getElem?_modify, hqg]]
              exact (hb.block q (Nat.lt_of_lt_of_le hq a.size)).trans (a.block q hq hne)
        rw [show ((k + 1 : Nat) : Int) = (k : Int) + 1 by omega] at hm
        generalize markB (k + 1) = M at *
        generalize (marksTo l k)[k]'_ = M0 at *
        clear hset
        go_wp2_with fail
        refine hm.mono ?_
        rintro e w2 ⟨rfl, b2⟩
        obtain ⟨c2, f2, o2, g2⟩ := HS.out w2 b2
        have HO2 : Hid ((w2.setCell ⟨g, k, none⟩ (.string M)).ownsRow base 9 1 (.slice (some ⟨g, 0, none⟩) l.length cap) l.length (strRow (marksTo l (k + 1)))) := o2
        have HG2 : Hid (w.grownBy (w2.setCell ⟨g, k, none⟩ (.string M)) (some g)) := g2
        clear o2 g2
        go_wp2_with fail
        go_roundw
        case rel => exact ⟨k + 1, by omega, by go_num, by go_num, HO2, HG2⟩
        case measure => simp [intOf]; omega
      · obtain rfl : k = l.length := by omega
        have HO2 : Hid (wr.ownsRow base 9 1 (.slice (some ⟨g, 0, none⟩) l.length cap) l.length (strRow (marksL l.length))) := by
          show World.ownsRow _ _ _ _ _ _ _
          rw [← marksTo_all]; exact hown.out
        go_wp2
        go_ret
        exact ⟨rfl, HO2.out, hgr.out⟩

set_option maxHeartbeats 1000000 in
theorem held_any (p : Option Addr) (cap n : Nat) (w : World) (hp : TxtAt w p (marksL n)) (hn : n ≤ 1048576) (hcap : n ≤ cap) :
    Calls Tryz.prog 24 #[.slice p n cap, .int .i64 1] w fun e w' => e = .returned (.int .i64 ((n : Int) + 1)) ∧ Below w.heap.size w w' := by
  have HP : Hid (TxtAt w p (marksL n)) := hp
  have HL : Hid ((marksL n).length = n) := by show _ = _; simp [marksL]
  clear hp
  go_enter Tryz.func24, Tryz.ntmps24
  go_wp2
  go_loopw [5, 1] (fun i x wr => ∃ k : Nat, k ≤ n ∧ i = .int .i64 k ∧ x = .int .i64 ((k : Int) + 1) ∧ Hid (Below w.heap.size w wr)) (fun i _ _ => n - (intOf i).toNat)
  case atStart => exact ⟨0, Nat.zero_le _, rfl, rfl, Below.refl _ _⟩
  case round =>
    obtain ⟨k, hk, rfl, rfl, hB⟩ := hrel
    by_cases hlt : k < n
    · obtain ⟨b, off, rfl, hb, hck⟩ := HP.out k (by rw [HL.out]; exact hlt)
      have hc1 : wr.cell? ⟨b, off + k, none⟩ = some (.string (markB (k + 1))) := by
        rw [hB.out.cell (p := ⟨b, off + k, none⟩) hb, hck]; simp [marksL]
      have hbw : b < wr.heap.size := Nat.lt_of_lt_of_le hb hB.out.size
      have HM : Hid (∀ w', Below wr.heap.size wr w' → Calls Tryz.prog 44 #[.int .i64 ((k : Int) + 1)] w' fun e w'' => e = .returned (.string (markB (k + 1))) ∧ Below w'.heap.size w' w'') := by
        intro w' _
        have := markText_any (k + 1) w' (by omega) (by omega)
        rwa [show ((k + 1 : Nat) : Int) = (k : Int) + 1 by omega] at this
      clear hck
      generalize markB (k + 1) = M at *
      have j5 : (k : Int) < n := by omega
      go_wp2_with fail
      go_region_with (go_at_call 44; refine (HM.out _ ((Below.refl _ _).drew)).mono ?_; rintro e w2 ⟨rfl, b2⟩; have b2 := chainB ((Below.refl _ _).drew) b2; have c2 := (b2.cell (p := ⟨b, off + k, none⟩) hbw).trans hc1)
      all_goals
        have HB2 : Hid (Below w.heap.size w w2) := chainB hB.out b2
        go_wp2_with fail
        go_roundw
        case rel => exact ⟨k + 1, by omega, by go_num, by go_num, HB2⟩
        case measure => simp [intOf]; omega
    · obtain rfl : k = n := by omega
      go_wp2
      go_ret
      exact ⟨rfl, hB.out⟩
end Go.Proofs.YtnaonldkbaapeacGreatDoor
/-
  When names rise; a row that is not right; texts that are not too long.
-/
namespace Go.Proofs.YtnaonldkbaapeacGreatDoor
open Go.RowKit Go.Lib
set_option linter.unusedVariables false

theorem rise_iff : ∀ (fs : List Fld), rise fs = true ↔ ∀ j (h0 : 0 < j) (h : j < fs.length), Op.bytesLess (fs[j - 1]'(by omega)).n.toList fs[j].n.toList = true
  | [] => ⟨fun _ j h0 h => by simp at h, fun _ => rfl⟩
  | [a] => ⟨fun _ j h0 h => by simp at h; omega, fun _ => rfl⟩
  | a :: b :: r => by
    have ih := rise_iff (b :: r)
    show (Op.bytesLess a.n.toList b.n.toList && rise (b :: r)) = true ↔ _
    rw [Bool.and_eq_true, ih]
    constructor
    · rintro ⟨h1, h2⟩ j h0 h
      match j, h0 with
      | 1, _ => exact h1
      | j + 2, _ => exact h2 (j + 1) (by omega) (by simpa using h)
    · intro h
      exact ⟨h 1 (by omega) (by simp), fun j h0 hj => by
        obtain ⟨m, rfl⟩ : ∃ m, j = m + 1 := ⟨j - 1, by omega⟩
        exact h (m + 1 + 1) (by omega) (by simpa using hj)⟩
theorem rwB_not_all {k : ByteArray} {at_ : Int} {fs : List Fld} {i : Nat} (hi : i < fs.length) (h : fdB fs[i] = false) : rwB k at_ fs = false := by
  cases hr : rwB k at_ fs with
  | false => rfl
  | true =>
    have := (rwB_parts hr).2.2.2.1 _ (List.getElem_mem hi)
    rw [h] at this; cases this
theorem rwB_not_rise {k : ByteArray} {at_ : Int} {fs : List Fld} {i : Nat} (h0 : 0 < i) (hi : i < fs.length) (h : Op.bytesLess (fs[i - 1]'(by omega)).n.toList fs[i].n.toList = false) : rwB k at_ fs = false := by
  cases hr : rwB k at_ fs with
  | false => rfl
  | true =>
    have := (rise_iff fs).1 (rwB_parts hr).2.2.2.2 i h0 hi
    rw [h] at this; cases this
/-- No text of a field is too long to be read. -/
def FldsLe (fs : List Fld) : Prop := ∀ f ∈ fs, f.n.size ≤ maxLen ∧ f.c.size ≤ maxLen ∧ f.s.size ≤ maxLen ∧ f.v.size ≤ maxLen
end Go.Proofs.YtnaonldkbaapeacGreatDoor
/-
  How the bytes of a number are read, in plain mathematics: 'scan' goes over the groups of seven bits and hands back the code, the bits, and how many bytes it took.
-/
namespace Go.Proofs.YtnaonldkbaapeacGreatDoor
open Go.RowKit Go.Lib
set_option linter.unusedVariables false

def scan : Nat → Nat → Int → List UInt8 → Int × Int × Nat
  | 0, _, _, _ => (3, 0, 0)
  | _ + 1, _, _, [] => (4, 0, 0)
  | f + 1, k, u, c :: r =>
    if k = 9 ∧ 1 < (c.toNat : Int) then (3, 0, 0)
    else if (c.toNat : Int) < 128 then (if (c.toNat : Int) = 0 ∧ 0 < k then (3, 0, 0) else (0, u + (c.toNat : Int) * 2 ^ (7 * k), k + 1))
    else scan f (k + 1) (u + ((c.toNat : Int) - 128) * 2 ^ (7 * k)) r

def unfoldN (u : Int) : Int := if u % 2 = 1 then -(u / 2) - 1 else u / 2
def numOut (n a c : Int) : Value := .agg #[.int .i64 n, .int .i64 a, .int .i64 c]
def scanAt (s : ByteArray) (a : Nat) : Int × Int × Nat := scan 10 0 0 (s.data.toList.drop a)
def getN (s : ByteArray) (a : Int) : Int × Int × Int :=
  if 8000 < s.size then (0, 0, 2) else if a < 0 then (0, 0, 1) else
  if (scanAt s a.toNat).1 = 0 then (unfoldN (scanAt s a.toNat).2.1, a + (scanAt s a.toNat).2.2, 0) else (0, 0, (scanAt s a.toNat).1)

def GetTo (s : ByteArray) (a k : Nat) (u : Int) : Prop :=
  k ≤ 9 ∧ 0 ≤ u ∧ u < 2 ^ (7 * k) ∧ scanAt s a = scan (10 - k) k u (s.data.toList.drop (a + k))

theorem getTo_start (s : ByteArray) (a : Nat) : GetTo s a 0 0 := ⟨by omega, Int.le_refl _, by decide, rfl⟩

theorem drop_cons (s : ByteArray) (i : Nat) (h : i < s.size) : s.data.toList.drop i = s[i] :: s.data.toList.drop (i + 1) := by
  rw [List.drop_eq_getElem_cons (by simpa using h)]; rfl

theorem getTo_short {s : ByteArray} {a k : Nat} {u : Int} (h : GetTo s a k u) (hl : s.size ≤ a + k) : scanAt s a = (4, 0, 0) := by
  obtain ⟨hk, _, _, he⟩ := h
  rw [he, List.drop_of_length_le (by simpa using hl), show 10 - k = (9 - k) + 1 by omega]; rfl

theorem getTo_big {s : ByteArray} {a k : Nat} {u : Int} (h : GetTo s a k u) (hl : a + k < s.size) (hk9 : k = 9) (hc : 1 < (s[a + k].toNat : Int)) : scanAt s a = (3, 0, 0) := by
  obtain ⟨hk, _, _, he⟩ := h
  rw [he, drop_cons s _ hl, show 10 - k = (9 - k) + 1 by omega, scan, if_pos ⟨hk9, hc⟩]

theorem getTo_zero {s : ByteArray} {a k : Nat} {u : Int} (h : GetTo s a k u) (hl : a + k < s.size) (hc : (s[a + k].toNat : Int) = 0) (hp : 0 < k) : scanAt s a = (3, 0, 0) := by
  obtain ⟨hk, _, _, he⟩ := h
  rw [he, drop_cons s _ hl, show 10 - k = (9 - k) + 1 by omega, scan, if_neg (by omega), if_pos (by omega), if_pos ⟨hc, hp⟩]

theorem getTo_ok {s : ByteArray} {a k : Nat} {u : Int} (h : GetTo s a k u) (hl : a + k < s.size) (hc : (s[a + k].toNat : Int) < 128) (h9 : k = 9 → (s[a + k].toNat : Int) ≤ 1) (hz : 0 < k → (s[a + k].toNat : Int) ≠ 0) :
    scanAt s a = (0, u + (s[a + k].toNat : Int) * 2 ^ (7 * k), k + 1) := by
  obtain ⟨hk, _, _, he⟩ := h
  rw [he, drop_cons s _ hl, show 10 - k = (9 - k) + 1 by omega, scan, if_neg (fun ⟨x, y⟩ => by have := h9 x; omega), if_pos hc, if_neg (fun ⟨x, y⟩ => hz y x)]

theorem pow7 (k : Nat) : (2 : Int) ^ (7 * (k + 1)) = 128 * 2 ^ (7 * k) := by
  rw [show 7 * (k + 1) = 7 * k + 7 by omega, Int.pow_add, show (2 : Int) ^ 7 = 128 by decide, Int.mul_comm]

theorem pow7_le : ∀ k : Nat, k ≤ 9 → (1 : Int) ≤ 2 ^ (7 * k) ∧ (2 : Int) ^ (7 * k) ≤ 9223372036854775808
  | 0, _ => by decide
  | 1, _ => by decide
  | 2, _ => by decide
  | 3, _ => by decide
  | 4, _ => by decide
  | 5, _ => by decide
  | 6, _ => by decide
  | 7, _ => by decide
  | 8, _ => by decide
  | 9, _ => by decide
  | k + 10, h => by omega

theorem pow7_le8 (k : Nat) (h : k ≤ 8) : (2 : Int) ^ (7 * k) ≤ 72057594037927936 := by
  have := (pow7_le (k + 1) (by omega)).2
  rw [pow7] at this; omega

theorem getTo_more {s : ByteArray} {a k : Nat} {u : Int} (h : GetTo s a k u) (hl : a + k < s.size) (hk8 : k ≤ 8) (hc : 128 ≤ (s[a + k].toNat : Int)) :
    GetTo s a (k + 1) (u + ((s[a + k].toNat : Int) - 128) * 2 ^ (7 * k)) := by
  obtain ⟨hk, h0, h1, he⟩ := h
  have hcb : (s[a + k].toNat : Int) ≤ 255 := by have := s[a + k].toNat_lt; omega
  have hp := (pow7_le k hk).1
  refine ⟨by omega, ?_, ?_, ?_⟩
  · have : 0 ≤ ((s[a + k].toNat : Int) - 128) * 2 ^ (7 * k) := Int.mul_nonneg (by omega) (by omega)
    omega
  · rw [pow7]
    have : ((s[a + k].toNat : Int) - 128) * 2 ^ (7 * k) ≤ 127 * 2 ^ (7 * k) := Int.mul_le_mul_of_nonneg_right (by omega) (by omega)
    omega
  · rw [he, drop_cons s _ hl, show 10 - k = (10 - (k + 1)) + 1 by omega, scan, if_neg (by omega), if_neg (by omega)]; rfl

/-- What is added at one byte stays below 2^64. -/
theorem add_fits {k : Nat} {u x : Int} (hk : k ≤ 9) (h0 : 0 ≤ u) (h1 : u < 2 ^ (7 * k)) (x0 : 0 ≤ x) (x1 : x ≤ 127) (x9 : k = 9 → x ≤ 1) :
    0 ≤ x * 2 ^ (7 * k) ∧ u + x * 2 ^ (7 * k) < 18446744073709551616 := by
  have hp := pow7_le k hk
  refine ⟨Int.mul_nonneg x0 (by omega), ?_⟩
  by_cases h9 : k = 9
  · have := x9 h9
    have : x * 2 ^ (7 * k) ≤ 1 * 2 ^ (7 * k) := Int.mul_le_mul_of_nonneg_right (by omega) (by omega)
    omega
  · have h8 := pow7_le8 k (by omega)
    have : x * 2 ^ (7 * k) ≤ 127 * 2 ^ (7 * k) := Int.mul_le_mul_of_nonneg_right (by omega) (by omega)
    omega

theorem wrap_small (x : Int) (h0 : 0 ≤ x) (h1 : x < 18446744073709551616) : IntKind.u64.wrap x = x := by
  simp [IntKind.wrap, IntKind.bits, IntKind.signed]; omega

theorem spec_add {k : Nat} {u x : Int} (hk : k ≤ 9) (h0 : 0 ≤ u) (h1 : u < 2 ^ (7 * k)) (x0 : 0 ≤ x) (x1 : x ≤ 127) (x9 : k = 9 → x ≤ 1) :
    IntKind.u64.wrap (u + IntKind.u64.wrap (x * 2 ^ (7 * k))) = u + x * 2 ^ (7 * k) := by
  have h := add_fits hk h0 h1 x0 x1 x9
  rw [wrap_small (x * 2 ^ (7 * k)) h.1 (by omega), wrap_small _ (by omega) h.2]

theorem impl_or {k : Nat} {u x : Int} (hk : k ≤ 9) (h0 : 0 ≤ u) (h1 : u < 2 ^ (7 * k)) (x0 : 0 ≤ x) (x1 : x ≤ 127) (x9 : k = 9 → x ≤ 1) :
    bits .or .u64 u (IntKind.u64.wrap (x * 2 ^ (7 * k))) = u + x * 2 ^ (7 * k) := by
  have h := add_fits hk h0 h1 x0 x1 x9
  rw [wrap_small (x * 2 ^ (7 * k)) h.1 (by omega)]
  obtain ⟨a, rfl⟩ := Int.eq_ofNat_of_zero_le h0
  obtain ⟨b, rfl⟩ := Int.eq_ofNat_of_zero_le x0
  have e : ((b : Int) * 2 ^ (7 * k)) = ((b * 2 ^ (7 * k) : Nat) : Int) := by rw [Int.natCast_mul, Int.natCast_pow]; rfl
  have ha : a < 2 ^ (7 * k) := by
    have : (a : Int) < ((2 ^ (7 * k) : Nat) : Int) := by rw [Int.natCast_pow]; exact h1
    omega
  rw [e] at h ⊢
  rw [bits_or_u64_nat a (b * 2 ^ (7 * k)) (by omega) (by omega)]
  have : a ||| b * 2 ^ (7 * k) = a + b * 2 ^ (7 * k) := by
    rw [Nat.or_comm, Nat.mul_comm, ← Nat.two_pow_add_eq_or_of_lt ha, Nat.add_comm]
  rw [this]; omega

theorem and127 (x : Int) (h0 : 0 ≤ x) (h1 : x ≤ 255) : bits .and .u8 x 127 = x % 128 := by
  have key : ∀ y : Fin 256, bits .and .u8 ((y.val : Nat) : Int) 127 = ((y.val % 128 : Nat) : Int) := by decide +kernel
  have := key ⟨x.toNat, by omega⟩
  simp only at this
  rw [show ((x.toNat : Nat) : Int) = x by omega] at this
  rw [this]; omega

theorem and1 (u : Int) (h0 : 0 ≤ u) (h1 : u < 18446744073709551616) : bits .and .u64 u 1 = u % 2 := by
  obtain ⟨a, rfl⟩ := Int.eq_ofNat_of_zero_le h0
  have : bits .and .u64 (a : Int) ((1 : Nat) : Int) = ((a &&& 1 : Nat) : Int) := bits_and_u64_nat a 1 (by omega) (by omega)
  rw [show ((1 : Nat) : Int) = 1 from rfl] at this
  rw [this, Nat.and_one_is_mod]; omega

theorem not64 (x : Int) (h0 : 0 ≤ x) (h1 : x ≤ 9223372036854775807) : bits .xor .i64 (-1) x = -x - 1 := by
  obtain ⟨a, rfl⟩ := Int.eq_ofNat_of_zero_le h0
  show IntKind.i64.wrap ((BitVec.ofInt 64 (-1) ^^^ BitVec.ofInt 64 (a : Int)).toNat : Int) = _
  have h2 : BitVec.ofInt 64 (-1) = BitVec.allOnes 64 := by decide
  rw [h2, BitVec.allOnes_xor, BitVec.toNat_not, BitVec.ofInt_natCast, BitVec.toNat_ofNat, Nat.mod_eq_of_lt (by omega)]
  simp [IntKind.wrap, IntKind.bits, IntKind.signed]; omega

theorem scan_bd : ∀ (f k : Nat) (u : Int) (l : List UInt8), k + f = 10 → 0 ≤ u → u < 2 ^ (7 * k) →
    ((scan f k u l).1 = 0 ∧ 0 ≤ (scan f k u l).2.1 ∧ (scan f k u l).2.1 ≤ 18446744073709551615 ∧ k < (scan f k u l).2.2 ∧ (scan f k u l).2.2 ≤ 10 ∧ (scan f k u l).2.2 ≤ k + l.length) ∨
    (((scan f k u l).1 = 3 ∨ (scan f k u l).1 = 4) ∧ (scan f k u l).2.1 = 0 ∧ (scan f k u l).2.2 = 0)
  | 0, k, u, l, _, _, _ => .inr ⟨.inl rfl, rfl, rfl⟩
  | f + 1, k, u, [], _, _, _ => .inr ⟨.inr rfl, rfl, rfl⟩
  | f + 1, k, u, c :: r, hk, h0, h1 => by
    rw [scan]
    have hcb : (c.toNat : Int) ≤ 255 := by have := c.toNat_lt; omega
    split
    · exact .inr ⟨.inl rfl, rfl, rfl⟩
    · rename_i h9
      split
      · rename_i hc
        split
        · exact .inr ⟨.inl rfl, rfl, rfl⟩
        · have hf := add_fits (x := (c.toNat : Int)) (by omega) h0 h1 (by omega) (by omega) (fun e => by omega)
          exact .inl ⟨rfl, by show 0 ≤ u + _; omega, by show u + _ ≤ _; omega, Nat.lt_succ_self k, by show k + 1 ≤ 10; omega, by show k + 1 ≤ _; simp⟩
      · rename_i hc
        have hk8 : k ≤ 8 := by omega
        have hp := (pow7_le k (by omega)).1
        have m0 : 0 ≤ ((c.toNat : Int) - 128) * 2 ^ (7 * k) := Int.mul_nonneg (by omega) (by omega)
        have m1 : ((c.toNat : Int) - 128) * 2 ^ (7 * k) ≤ 127 * 2 ^ (7 * k) := Int.mul_le_mul_of_nonneg_right (by omega) (by omega)
        rcases scan_bd f (k + 1) (u + ((c.toNat : Int) - 128) * 2 ^ (7 * k)) r (by omega) (by omega) (by rw [pow7]; omega) with h | h
        · exact .inl ⟨h.1, h.2.1, h.2.2.1, by omega, h.2.2.2.2.1, by have := h.2.2.2.2.2; simp; omega⟩
        · exact .inr h

theorem scanAt_bd (s : ByteArray) (a : Nat) :
    ((scanAt s a).1 = 0 ∧ 0 ≤ (scanAt s a).2.1 ∧ (scanAt s a).2.1 ≤ 18446744073709551615 ∧ (scanAt s a).2.2 ≤ 10 ∧ a + (scanAt s a).2.2 ≤ s.size) ∨
    (((scanAt s a).1 = 3 ∨ (scanAt s a).1 = 4) ∧ (scanAt s a).2.1 = 0 ∧ (scanAt s a).2.2 = 0) := by
  rcases scan_bd 10 0 0 (s.data.toList.drop a) rfl (Int.le_refl _) (by decide) with h | h
  · refine .inl ⟨h.1, h.2.1, h.2.2.1, h.2.2.2.2.1, ?_⟩
    have h2 := h.2.2.2.1
    have h3 := h.2.2.2.2.2
    rw [List.length_drop] at h3
    have e : s.data.toList.length = s.size := by simp
    unfold scanAt; omega
  · exact .inr h
end Go.Proofs.YtnaonldkbaapeacGreatDoor
