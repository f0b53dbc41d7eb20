/-
  The leaves of a log, ranged over (the program's 'all'): what comes in each round, for every loop body.
  Conditions: the slice's cells hold those texts; errors.errorType is laid.
-/
import Derived.Test.YtonleickhincgaaGreatDoorRows
import Derived.Test.YtonleickhincgaaGreatDoorBytesDigMath
import Derived.Test.YtonleickhincgaaGreatDoorTreeMathSlABxKSlBOwnS
import Derived.Test.YtonleickhincgaaGreatDoorAsDAs2CodeOfRngXScopesReadBits
import Derived.Test.YtonleickhincgaaGreatDoorGetValGetTxtNumMathFldRdNumFromTmbMathLgMath
import Derived.Test.YtonleickhincgaaGreatDoorRdNumIGetNumIImplTbImplCbImplTrLeafK
import Derived.RangeFuncNested
import Derived.RangeFuncBound
import Derived.RangeFuncCalls
import Derived.RangeFuncLeaves
import Derived.Shelf.Abstract
import Derived.Shelf.RegionOpen
import Derived.WalkKit
import Derived.OwnWalkIn
import Derived.TacticsInMore
import Derived.LoopNIn
import Derived.LoopIn
namespace Go.Proofs.YtonleickhincgaaGreatDoor
open Go.RowKit Go.Lib Go.Shelf
set_option linter.unusedVariables false
set_option maxRecDepth 100000
attribute [local go_sem] Oper.semAt_some

/-- How many leaves of rows stand ahead of place k. -/
def aheadN (lv : List ByteArray) (k : Nat) : Nat := (lv.take k).countP isRl
theorem ahead_zero (lv : List ByteArray) : aheadN lv 0 = 0 := rfl
theorem ahead_succ (lv : List ByteArray) (k : Nat) (h : k < lv.length) : aheadN lv (k + 1) = aheadN lv k + (if isRl lv[k] = true then 1 else 0) := by
  unfold aheadN
  rw [List.take_succ_eq_append_getElem h, List.countP_append, List.countP_singleton]
theorem ahead_le (lv : List ByteArray) (k : Nat) : aheadN lv k ≤ k := Nat.le_trans (List.countP_le_length) (by simp; omega)
/-- A leaf, with what it is, where it stands. -/
def leafC (t : ByteArray) (A : Int) : Array Value := #[.string t, .int .i64 (lkB t), .int .i64 (trO t).r, .int .i64 (trO t).f, .int .i64 (trO t).y, .int .i64 (trO t).a, .int .i64 A]
def leafV (lv : List ByteArray) (k : Nat) : Array Value := #[.int .i64 (k : Int), .agg (leafC (lv.getD k ByteArray.empty) (aheadN lv k : Int))]
def lvNx (lv : List ByteArray) (pre : List Nat) (x : Nat) : Prop := x = pre.length ∧ x < lv.length
theorem trO_none {t : ByteArray} (h : ¬ trC t = 0) : trO t = tmZ := by unfold trO; rw [if_neg h]
theorem below_grown {w w' : World} (h : Below w.heap.size w w') : w.grownBy w' none := ⟨h.os, h.tape, h.output, h.size, fun g hg _ => h.block g hg⟩

theorem field_t5 (a b c d e : Int) (x : World) : (Instr.field 116 (.agg #[.int .i64 a, .int .i64 b, .int .i64 c, .int .i64 d, .int .i64 e]) 0).run Tryz.prog x = .ok (.agg #[.int .i64 a, .int .i64 b, .int .i64 c, .int .i64 d]) x := by kernel_rfl
set_option maxHeartbeats 4000000 in
theorem all1_in (n l Bs : Nat) (hn : 1 ≤ n) (p : Option Addr) (cap : Nat) (lv : List ByteArray) (w0 : World) (hL : TxtAt w0 p lv) (hl : lv.length ≤ 1048576) (hc : lv.length ≤ cap) (hz : TxtsLe lv) (hg : Laid w0) (J Jx : List Nat → World → Prop) (W : World)
    (hJ : AbidesFrom W.heap.size J)
    (hY : ∀ pre x W1, lvNx lv pre x → J pre W1 → YieldAt Fence.wide (n - 1) Tryz.prog l (leafV lv x) W1 fun e W' =>
      (e = .returned (.bool true) ∧ J (pre ++ [x]) W' ∧ Below w0.heap.size W1 W') ∨ (e = .returned (.bool false) ∧ Jx (pre ++ [x]) W'))
    (hB : Below w0.heap.size w0 W) (hBs : W.cell? ⟨Bs, 0, none⟩ = some (.slice p lv.length cap)) (h0 : J [] W) :
    CallsIn Fence.wide n Tryz.prog 158 #[.func (.yield l) #[] #[], .pointer (some ⟨Bs, 0, none⟩)] W fun e W' => (∃ v, e = .returned v) ∧
      ((∃ ys : List Nat, ys.length = lv.length ∧ J ys W') ∨ (∃ pre : List Nat, True ∧ Jx pre W')) := by
  have HL : Hid (TxtAt w0 p lv) := hL
  have HG : Hid (Laid w0) := hg
  have HZ : Hid (TxtsLe lv) := hz
  have HJ : Hid (AbidesFrom W.heap.size J) := hJ
  have HB : Hid (Below w0.heap.size w0 W) := hB
  have HY : Hid (∀ pre x W1, lvNx lv pre x → J pre W1 → YieldAt Fence.wide (n - 1) Tryz.prog l (leafV lv x) W1 fun e W' =>
      (e = .returned (.bool true) ∧ J (pre ++ [x]) W' ∧ Below w0.heap.size W1 W') ∨ (e = .returned (.bool false) ∧ Jx (pre ++ [x]) W')) := hY
  clear hL hg hz hJ hB hY
  refine callsIn_of_wp Tryz.func158 rfl trivial ?_ rfl
  simp only [Tryz.ntmps158, List.size_toArray, List.length_cons, List.length_nil, Nat.reduceAdd, Nat.reduceSub, Array.replicate_succ, Array.replicate_zero, List.push_toArray, List.append_toArray, List.nil_append, List.cons_append]
  gi_wp2
  gi_loopw [9, 3] (fun i r wr => ∃ k : Nat, k ≤ lv.length ∧ i = .int .i64 k ∧ r = .int .i64 (aheadN lv k) ∧ Hid (∃ pre : List Nat, pre.length = k ∧ J pre wr) ∧ Hid (Below w0.heap.size w0 wr ∧ W.heap.size ≤ wr.heap.size)) (fun i _ _ => lv.length - (Go.RowKit.intOf i).toNat)
  case atStart => exact ⟨0, Nat.zero_le _, rfl, rfl, ⟨[], rfl, h0⟩, HB.out, Nat.le_refl _⟩
  case round =>
    obtain ⟨k, hk, rfl, rfl, HP, HW⟩ := hrel
    obtain ⟨pre, hpre, hJs⟩ := HP.out
    have HJ2 : Hid (∀ x, Below wr.heap.size wr x → J pre x) := fun x hb => HJ.out pre wr x none hJs (below_grown hb) (fun r e => by cases e)
    by_cases hlt : k < lv.length
    · obtain ⟨t, ht⟩ : ∃ t, t = lv[k] := ⟨_, rfl⟩
      have i1 : (k : Int) < lv.length := by omega
      obtain ⟨b, off, rfl, hb0⟩ : ∃ b off, p = some ⟨b, off, none⟩ ∧ b < w0.heap.size := by
        obtain ⟨b, off, h1, h2, -⟩ := HL.out k hlt
        exact ⟨b, off, h1, h2⟩
      have hcell : wr.cell? ⟨b, off + k, none⟩ = some (.string t) := by rw [ht]; exact (HL.out.below HW.out.1).at k hlt
      have htz : t.size ≤ maxLen := by rw [ht]; exact HZ.out _ (List.getElem_mem hlt)
      have hLK := implLeafKind_any t wr htz (HG.out.below HW.out.1)
      have HSU : Hid (aheadN lv (k + 1) = aheadN lv k + (if isRl t = true then 1 else 0)) := by rw [ht]; exact ahead_succ lv k hlt
      have HV : Hid (leafV lv k = #[.int .i64 (k : Int), .agg (leafC t (aheadN lv k : Int))]) := by
        show _ = _
        unfold leafV
        rw [List.getD_eq_getElem?_getD, List.getElem?_eq_getElem hlt, ht]; rfl
      have hA : aheadN lv k ≤ 1048576 := Nat.le_trans (ahead_le lv k) (by omega)
      have HR3 : Hid (∀ x W', (Ending.returned x = Ending.returned (.bool true)) → Below w0.heap.size wr W' → Below w0.heap.size w0 W' ∧ W.heap.size ≤ W'.heap.size) := fun x W' _ h => ⟨HW.out.1.trans h, Nat.le_trans HW.out.2 h.size⟩
      have HN : Hid (lvNx lv pre k) := ⟨hpre.symm, hlt⟩
      have HBW : Hid (w0.heap.size ≤ wr.heap.size) := HW.out.1.size
      have HPL : Hid (pre.length + 1 = k + 1) := by show _ = _; rw [hpre]
      have HTr : Hid (∀ x, Below wr.heap.size wr x → Calls Tryz.prog 160 #[.string t] x fun e w' => e = .returned (tmO (trO t) (trC t)) ∧ Below x.heap.size x w') := fun x hx => implTombRead_any t x htz ((HG.out.below HW.out.1).below hx)
      have hpl : pre.length = k := hpre
      clear ht htz hpre HP hb0
      generalize aheadN lv k = A at *
      by_cases hi : isRl t = true
      · have e1 : lkB t = 1 := (lk_iff1 t).2 hi
        have e2 : trO t = tmZ := trO_none (fun h => by rw [tr_not_rl h] at hi; cases hi)
        rw [if_pos hi] at HSU
        rw [e1] at hLK
        unfold leafC at HV
        rw [e1, e2] at HV
        clear HTr e1 e2 hi
        gi_wp2
        refine ⟨trivial, (callsIn_wide.2 hLK).mono ?_⟩
        clear hLK
        rintro e w1 ⟨rfl, b1⟩
        have b2 : Below wr.heap.size wr (w1.alloc (.cells #[.string t, .int .i64 1, .int .i64 0, .int .i64 0, .int .i64 0, .int .i64 0, .int .i64 (A : Int)] 163)) := alB b1 _
        obtain ⟨fn, tmps, assign, body, hy, hR⟩ := HY.out pre k _ HN.out (HJ2.out _ b2)
        rw [HV.out] at hy
        dsimp only [tmZ] at hy
        gi_wp2
        refine hR.mono ?_
        rintro e W3 (⟨rfl, hJ3, hk3⟩ | ⟨rfl, hJx3⟩)
        · have hk4 : Below w0.heap.size wr W3 := (b2.mono HBW.out).trans hk3
          clear hy hR b1 b2
          gi_wp2
          go_roundw
          case rel => exact ⟨k + 1, by omega, by simp, by rw [HSU.out]; simp, ⟨pre ++ [k], by simp; exact hpl, hJ3⟩, HW.out.1.trans hk4, Nat.le_trans HW.out.2 hk4.size⟩
          case measure => simp [Go.RowKit.intOf]; omega
        · gi_wp2
          refine bodyPost_ret (results_none rfl _ _ _) rfl ?_
          exact ⟨⟨_, rfl⟩, .inr ⟨_, trivial, hJx3⟩⟩
      · by_cases hc : trC t = 0
        · have e1 : lkB t = 2 := (lk_iff2 t).2 hc
          rw [if_neg hi] at HSU
          rw [e1] at hLK
          unfold leafC at HV
          rw [e1] at HV
          unfold tmO at HTr
          rw [hc] at HTr
          generalize (trO t).r = r1 at *
          generalize (trO t).f = r2 at *
          generalize (trO t).y = r3 at *
          generalize (trO t).a = r4 at *
          have hf := field_t5
          clear e1 hi hc
          gi_wp2
          refine ⟨trivial, (callsIn_wide.2 hLK).mono ?_⟩
          clear hLK
          rintro e w1 ⟨rfl, b1⟩
          obtain ⟨W2, hW2⟩ : ∃ W2, W2 = w1.alloc (.cells #[.string t, .int .i64 2, .int .i64 0, .int .i64 0, .int .i64 0, .int .i64 0, .int .i64 (A : Int)] 163) := ⟨_, rfl⟩
          have HW2 : Hid (W2 = w1.alloc (.cells #[.string t, .int .i64 2, .int .i64 0, .int .i64 0, .int .i64 0, .int .i64 0, .int .i64 (A : Int)] 163)) := hW2
          have b2 : Below wr.heap.size wr W2 := by rw [hW2]; exact alB b1 _
          have K2 : Hid (Bxs W2 w1.heap.size 163 #[.string t, .int .i64 2, .int .i64 0, .int .i64 0, .int .i64 0, .int .i64 0, .int .i64 (A : Int)]) := by rw [hW2]; exact Bxs.new _ _ _
          have hTr := HTr.out _ b2
          have hz1 : wr.heap.size ≤ w1.heap.size := b1.size
          clear hW2
          gi_wp2
          refine ⟨trivial, ?_⟩
          rw [← HW2.out]
          refine (callsIn_wide.2 hTr).mono ?_
          clear hTr
          rintro e w3 ⟨rfl, b3⟩
          have K3 := K2.out.below b3
          have b4 : Below wr.heap.size wr w3 := chainB b2 b3
          obtain ⟨W5, hW5⟩ : ∃ W5, W5 = (((w3.setCell ⟨w1.heap.size, 2, none⟩ (.int .i64 r1)).setCell ⟨w1.heap.size, 3, none⟩ (.int .i64 r2)).setCell ⟨w1.heap.size, 4, none⟩ (.int .i64 r3)).setCell ⟨w1.heap.size, 5, none⟩ (.int .i64 r4) := ⟨_, rfl⟩
          have HW5 : Hid (W5 = (((w3.setCell ⟨w1.heap.size, 2, none⟩ (.int .i64 r1)).setCell ⟨w1.heap.size, 3, none⟩ (.int .i64 r2)).setCell ⟨w1.heap.size, 4, none⟩ (.int .i64 r3)).setCell ⟨w1.heap.size, 5, none⟩ (.int .i64 r4)) := hW5
          have K5 : Bxs W5 w1.heap.size 163 #[.string t, .int .i64 2, .int .i64 r1, .int .i64 r2, .int .i64 r3, .int .i64 r4, .int .i64 (A : Int)] := by rw [hW5]; exact (((K3.set 2 _).set 3 _).set 4 _).set 5 _
          have b5 : Below wr.heap.size wr W5 := by rw [hW5]; exact (((b4.setCell hz1 _).setCell hz1 _).setCell hz1 _).setCell hz1 _
          have d0 := K3.cell 0
          have d1 := K3.cell 1
          have d6 := K3.cell 6
          have d2 := K3.cell 2
          have d3 := K3.cell 3
          have d4 := K3.cell 4
          have d5 := K3.cell 5
          have f2 := K3.fr 2
          have f3 := K3.fr 3
          have f4 := K3.fr 4
          have f5 := K3.fr 5
          obtain ⟨fn, tmps, assign, body, hy, hR⟩ := HY.out pre k _ HN.out (HJ2.out _ b5)
          rw [HV.out, HW5.out] at hy
          rw [HW5.out] at hR
          clear hW5 b3 b4 K2 HW2 b2 K5 HTr
          gi_wp2
          refine hR.mono ?_
          rintro e W3 (⟨rfl, hJ3, hk3⟩ | ⟨rfl, hJx3⟩)
          · rw [← HW5.out] at hk3
            have hk4 : Below w0.heap.size wr W3 := (b5.mono HBW.out).trans hk3
            clear hy hR b1 b5 d0 d1 d2 d3 d4 d5 d6 f2 f3 f4 f5 HW5
            gi_wp2
            go_roundw
            case rel => exact ⟨k + 1, by omega, by simp, by rw [HSU.out]; simp, ⟨pre ++ [k], by simp; exact hpl, hJ3⟩, HW.out.1.trans hk4, Nat.le_trans HW.out.2 hk4.size⟩
            case measure => simp [Go.RowKit.intOf]; omega
          · gi_wp2
            refine bodyPost_ret (results_none rfl _ _ _) rfl ?_
            exact ⟨⟨_, rfl⟩, .inr ⟨_, trivial, hJx3⟩⟩
        · have e1 : lkB t = 0 := by unfold lkB; rw [if_neg hi, if_neg hc]
          have e2 : trO t = tmZ := trO_none hc
          rw [if_neg hi] at HSU
          rw [e1] at hLK
          unfold leafC at HV
          rw [e1, e2] at HV
          clear HTr e1 e2 hi hc
          gi_wp2
          refine ⟨trivial, (callsIn_wide.2 hLK).mono ?_⟩
          clear hLK
          rintro e w1 ⟨rfl, b1⟩
          have b2 : Below wr.heap.size wr (w1.alloc (.cells #[.string t, .int .i64 0, .int .i64 0, .int .i64 0, .int .i64 0, .int .i64 0, .int .i64 (A : Int)] 163)) := alB b1 _
          obtain ⟨fn, tmps, assign, body, hy, hR⟩ := HY.out pre k _ HN.out (HJ2.out _ b2)
          rw [HV.out] at hy
          dsimp only [tmZ] at hy
          gi_wp2
          refine hR.mono ?_
          rintro e W3 (⟨rfl, hJ3, hk3⟩ | ⟨rfl, hJx3⟩)
          · have hk4 : Below w0.heap.size wr W3 := (b2.mono HBW.out).trans hk3
            clear hy hR b1 b2
            gi_wp2
            go_roundw
            case rel => exact ⟨k + 1, by omega, by simp, by rw [HSU.out]; simp, ⟨pre ++ [k], by simp; exact hpl, hJ3⟩, HW.out.1.trans hk4, Nat.le_trans HW.out.2 hk4.size⟩
            case measure => simp [Go.RowKit.intOf]; omega
          · gi_wp2
            refine bodyPost_ret (results_none rfl _ _ _) rfl ?_
            exact ⟨⟨_, rfl⟩, .inr ⟨_, trivial, hJx3⟩⟩
    · obtain rfl : k = lv.length := by omega
      gi_wp2
      go_end0
      exact ⟨⟨_, rfl⟩, .inl ⟨pre, hpre, hJs⟩⟩
/-- The iterator's contract. -/
theorem all1_stops (n Bs : Nat) (hn : 1 ≤ n) (p : Option Addr) (cap : Nat) (lv : List ByteArray) (w0 w : World) (hL : TxtAt w0 p lv) (hl : lv.length ≤ 1048576) (hc : lv.length ≤ cap) (hz : TxtsLe lv) (hg : Laid w0) (hB : Below w0.heap.size w0 w) (hBs : w.cell? ⟨Bs, 0, none⟩ = some (.slice p lv.length cap)) :
    SeqX Fence.wide n Tryz.prog 158 #[.pointer (some ⟨Bs, 0, none⟩)] (leafV lv) (Below w0.heap.size) (lvNx lv) (fun ys => ys.length = lv.length) (fun _ => True) w := fun l J Jx W hW hJ _ hY h0 =>
  all1_in n l Bs hn p cap lv w0 hL hl hc hz hg J Jx W hJ hY (hB.trans (hW.mono hB.size)) ((hW.cell (p := ⟨Bs, 0, none⟩) (World.block_lt_of_cell? w _ hBs)).trans hBs) h0
theorem allS_any (p : Option Addr) (len cap : Nat) (w : World) : Calls Tryz.prog 105 #[.slice p len cap] w fun e w' => e = .returned (.func (.func 158) #[] #[.pointer (some ⟨w.heap.size, 0, none⟩)]) ∧ w' = w.alloc (.cells #[.slice p len cap] 89) := by
  go_enter Tryz.func105, Tryz.ntmps105
  go_wp2_with fail
  go_ret
  exact ⟨rfl, rfl⟩
end Go.Proofs.YtonleickhincgaaGreatDoor
