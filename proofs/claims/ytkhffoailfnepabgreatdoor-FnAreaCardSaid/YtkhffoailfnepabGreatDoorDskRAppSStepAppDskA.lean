/-
  Parts of one proof, laid as one text: DskR, AppS, StepApp, DskA; what each says stands at its head.
-/
import Derived.Test.YtkhffoailfnepabGreatDoorRows
import Derived.Test.YtkhffoailfnepabGreatDoorBytesDigMath
import Derived.Test.YtkhffoailfnepabGreatDoorSlASlBOwnSOwnBSrc
import Derived.Test.YtkhffoailfnepabGreatDoorDrawsDrawKitDskMath
import Derived.Handy
import Derived.WalkSpells
import Derived.OwnWalk
import Derived.Deep.QuietTactic
import Derived.BigQuiet
import Derived.Deep.AppendLies
import Derived.Deep.RegionLaw
/-
  What the specification's l05Is and DiskRight answer: 'dskB'.
  Conditions: the cells of Sectors and Pending hold the texts and the pendings.
-/
namespace Go.Proofs.YtkhffoailfnepabGreatDoor
open Go.RowKit Go.Lib
set_option linter.unusedVariables false
set_option maxRecDepth 20000

theorem belowD {B : Nat} {a w : World} (h : Below B a w) (n : Nat) : Below B a (w.drewN n) := ⟨h.os, h.tape, h.output, h.size, h.block⟩
theorem l05Is_any (n lo hi : Int) (w : World) : Calls Tryz.prog 66 #[.int .i64 n, .int .i64 lo, .int .i64 hi] w fun e w' => e = .returned (.bool (decide (lo ≤ n ∧ n ≤ hi))) ∧ w' = w := by
  by_cases h1 : lo ≤ n
  · have d1 : decide (lo ≤ n) = true := decide_eq_true h1
    by_cases h2 : n ≤ hi
    · have d2 : decide (n ≤ hi) = true := decide_eq_true h2
      have H : Hid (decide (lo ≤ n ∧ n ≤ hi) = true) := decide_eq_true ⟨h1, h2⟩
      rw [H.out]
      clear H
      go_enter Tryz.func66, Tryz.ntmps66
      go_wp2
      go_ret
      exact ⟨rfl, rfl⟩
    · have d2 : decide (n ≤ hi) = false := decide_eq_false h2
      have H : Hid (decide (lo ≤ n ∧ n ≤ hi) = false) := decide_eq_false fun h => h2 h.2
      rw [H.out]
      clear H
      go_enter Tryz.func66, Tryz.ntmps66
      go_wp2
      go_ret
      exact ⟨rfl, rfl⟩
  · have d1 : decide (lo ≤ n) = false := decide_eq_false h1
    have H : Hid (decide (lo ≤ n ∧ n ≤ hi) = false) := decide_eq_false fun h => h1 h.1
    rw [H.out]
    clear H
    go_enter Tryz.func66, Tryz.ntmps66
    go_wp2
    go_ret
    exact ⟨rfl, rfl⟩

set_option maxHeartbeats 2000000 in
theorem specDiskRight_any (q1 : Option Addr) (c1 : Nat) (ss : List ByteArray) (q2 : Option Addr) (c2 : Nat) (ps : List Pnd) (w : World) (h1 : TxtAt w q1 ss) (h2 : PndAt w q2 ps) (n1 : ss.length ≤ 1048576) (n2 : ps.length ≤ 1048576) (m1 : ss.length ≤ c1) (m2 : ps.length ≤ c2) :
    Calls Tryz.prog 33 #[.agg #[.slice q1 ss.length c1, .slice q2 ps.length c2]] w fun e w' => e = .returned (.bool (dskB ss ps)) ∧ Below w.heap.size w w' := by
  obtain ⟨W1, hW1⟩ : ∃ W1, W1 = w.alloc (.cells #[.slice q1 ss.length c1, .slice q2 ps.length c2] 26) := ⟨_, rfl⟩
  have HW1 : Hid (W1 = w.alloc (.cells #[.slice q1 ss.length c1, .slice q2 ps.length c2] 26)) := hW1
  have B1 : Hid (Below w.heap.size w W1) := by rw [hW1]; exact (Below.refl _ _).alloc (Nat.le_refl _) _
  have X1 : W1.heap[w.heap.size]? = some (.cells #[.slice q1 ss.length c1, .slice q2 ps.length c2] 26 (0, 0)) := by rw [hW1]; exact (MapKept.heap_alloc w _).1
  have t0 : W1.cell? ⟨w.heap.size, 0, none⟩ = some (.slice q1 ss.length c1) ∧ W1.cell? ⟨w.heap.size, 1, none⟩ = some (.slice q2 ps.length c2) := by simp [World.cell?, X1]
  obtain ⟨t0, t1⟩ := t0
  have HZ : Hid (w.heap.size < W1.heap.size) := by rw [hW1]; show _ < _; simp
  have T1 : Hid (TxtAt W1 q1 ss) := h1.below B1.out
  have T2 : Hid (PndAt W1 q2 ps) := h2.below B1.out
  have hK := l05Is_any (ss.length : Int) 1 64 W1
  have H0 : Hid (dskB ss ps = (decide (1 ≤ ss.length ∧ ss.length ≤ 64) && (decide (ps.length ≤ 200) && (secB ss && pndB ss.length ps)))) := rfl
  clear hW1 X1 h1 h2
  by_cases a1 : 1 ≤ ss.length ∧ ss.length ≤ 64
  case neg =>
    have HF : Hid (dskB ss ps = false) := by show _ = _; rw [H0.out, decide_eq_false a1]; rfl
    rw [decide_eq_false (show ¬ ((1 : Int) ≤ (ss.length : Int) ∧ (ss.length : Int) ≤ 64) by omega)] at hK
    clear H0 T1 T2 a1
    go_enter Tryz.func33, Tryz.ntmps33
    go_wp2_with fail
    rw [← HW1.out]
    refine hK.mono ?_
    rintro e w1 ⟨rfl, rfl⟩
    go_wp2_with fail
    go_ret
    exact ⟨ret_bool HF.out.symm, B1.out⟩
  rw [decide_eq_true (show ((1 : Int) ≤ (ss.length : Int) ∧ (ss.length : Int) ≤ 64) by omega)] at hK
  by_cases a2 : ps.length ≤ 200
  case neg =>
    have HF : Hid (dskB ss ps = false) := by show _ = _; rw [H0.out, decide_eq_false a2, Bool.false_and, Bool.and_false]
    have d2 : decide (200 < (ps.length : Int)) = true := decide_eq_true (by omega)
    clear H0 T1 T2 a1 a2
    go_enter Tryz.func33, Tryz.ntmps33
    go_wp2_with fail
    rw [← HW1.out]
    refine hK.mono ?_
    rintro e w1 ⟨rfl, rfl⟩
    go_wp2_with fail
    go_ret
    exact ⟨ret_bool HF.out.symm, B1.out⟩
  have d2 : decide (200 < (ps.length : Int)) = false := decide_eq_false (by omega)
  rw [decide_eq_true a1, decide_eq_true a2, Bool.true_and, Bool.true_and] at H0
  obtain ⟨a11, a12⟩ := a1
  go_enter Tryz.func33, Tryz.ntmps33
  go_wp2_with fail
  rw [← HW1.out]
  refine hK.mono ?_
  rintro e w1 ⟨rfl, rfl⟩
  go_wp2_with fail
  go_loop [3] (fun i => ∃ k : Nat, k ≤ ss.length ∧ i = .int .i64 k ∧ Hid (∀ j (h : j < ss.length), j < k → ss[j].size ≤ 64)) (fun i => ss.length - (intOf i).toNat)
  case atStart => exact ⟨0, Nat.zero_le _, rfl, fun j h hk => by omega⟩
  case round =>
    obtain ⟨k, hk, rfl, HK⟩ := hrel
    by_cases hlt : k < ss.length
    · obtain ⟨b, off, rfl, hb, hck⟩ := T1.out k hlt
      by_cases h64 : ss[k].size ≤ 64
      · have HK2 : Hid (∀ j (h : j < ss.length), j < k + 1 → ss[j].size ≤ 64) := fun j h hj => if he : j = k then by subst he; exact h64 else HK.out j h (by omega)
        generalize ss[k] = q at *
        have h33 : (q.size : Int) ≤ 64 := by omega
        go_wp2_with fail
        go_round
        case rel => exact ⟨k + 1, by omega, by go_num, HK2⟩
        case measure => simp [intOf]; omega
      · have HF : Hid (dskB ss ps = false) := by show _ = _; rw [H0.out, secB_false hlt h64]; rfl
        generalize ss[k] = q at *
        have h33 : ¬ (q.size : Int) ≤ 64 := by omega
        go_wp2_with fail
        go_ret
        exact ⟨ret_bool HF.out.symm, B1.out⟩
    · have HF : Hid (dskB ss ps = pndB ss.length ps) := by show _ = _; rw [H0.out, secB_true (fun j h => HK.out j h (by omega)), Bool.true_and]
      clear H0 HK T1
      obtain rfl : k = ss.length := by omega
      go_wp2_with fail
      go_loopw [4] (fun i wr => ∃ k : Nat, k ≤ ps.length ∧ i = .int .i64 k ∧ Hid (Below w1.heap.size w1 wr) ∧ Hid (∀ j (h : j < ps.length), j < k → pndOk ss.length ps[j])) (fun i _ => ps.length - (intOf i).toNat)
      case atStart => exact ⟨0, Nat.zero_le _, rfl, Below.refl _ _, fun j h hk => by omega⟩
      case round =>
        obtain ⟨k, hk, rfl, HB, HK⟩ := hrel
        have x0 := (HB.out.cell (p := ⟨w.heap.size, 0, none⟩) HZ.out).trans t0
        have x1 := (HB.out.cell (p := ⟨w.heap.size, 1, none⟩) HZ.out).trans t1
        clear t0 t1
        by_cases hlt : k < ps.length
        · obtain ⟨b, off, rfl, hb, hc1, hc2⟩ := (T2.out.below HB.out) k hlt
          have i1 : (k : Int) < ps.length := by omega
          have hwr : IntKind.i64.wrap ((ss.length : Int) - 1) = (ss.length : Int) - 1 := by rw [IntKind.wrap_i64]; omega
          have HKp : Hid (pndOk ss.length ps[k] → ∀ j (h : j < ps.length), j < k + 1 → pndOk ss.length ps[j]) := fun h0 j h hj => if he : j = k then by subst he; exact h0 else HK.out j h (by omega)
          have HKn : Hid (¬ pndOk ss.length ps[k] → dskB ss ps = false) := fun h0 => by rw [HF.out, pndB_false hlt h0]
          generalize ps[k] = P at *
          obtain ⟨A, D⟩ := P
          have HKp : Hid (((0 ≤ A ∧ A ≤ (ss.length : Int) - 1) ∧ D.size ≤ 64) → ∀ j (h : j < ps.length), j < k + 1 → pndOk ss.length ps[j]) := HKp
          have HKn : Hid (¬ ((0 ≤ A ∧ A ≤ (ss.length : Int) - 1) ∧ D.size ≤ 64) → dskB ss ps = false) := HKn
          have hc1 : wr.cell? ⟨b, off + k * 2, none⟩ = some (.int .i64 A) := hc1
          have hc2 : wr.cell? ⟨b, off + k * 2 + 1, none⟩ = some (.string D) := hc2
          have QI : Hid (∀ x, Calls Tryz.prog 66 #[.int .i64 A, .int .i64 0, .int .i64 ((ss.length : Int) - 1)] x fun e w' => e = .returned (.bool (decide (0 ≤ A ∧ A ≤ (ss.length : Int) - 1))) ∧ w' = x) := fun x => l05Is_any _ _ _ x
          by_cases b1 : 0 ≤ A ∧ A ≤ (ss.length : Int) - 1
          · rw [decide_eq_true b1] at QI
            by_cases b2 : D.size ≤ 64
            · have HK2 : Hid (∀ j (h : j < ps.length), j < k + 1 → pndOk ss.length ps[j]) := HKp.out ⟨b1, b2⟩
              clear HKp HKn b1
              have b3 : (D.size : Int) ≤ 64 := by omega
              go_wp2_with fail
              go_quiet (first | (go_at_call 66; refine Calls.quiet_of_same (QI.out _)))
              go_wp2_with fail
              go_roundw
              case rel => exact ⟨k + 1, by omega, by go_num, belowD HB.out _, HK2⟩
              case measure => simp [intOf]; omega
            · have HN : Hid (dskB ss ps = false) := HKn.out (fun h => b2 h.2)
              clear HKp HKn b1
              have b3 : ¬ (D.size : Int) ≤ 64 := by omega
              go_wp2_with fail
              go_quiet (first | (go_at_call 66; refine Calls.quiet_of_same (QI.out _)))
              go_wp2_with fail
              go_ret
              exact ⟨ret_bool HN.out.symm, belowD (chainB B1.out HB.out) _⟩
          · have HN : Hid (dskB ss ps = false) := HKn.out (fun h => b1 h.1)
            rw [decide_eq_false b1] at QI
            clear HKp HKn b1
            go_wp2_with fail
            go_quiet (first | (go_at_call 66; refine Calls.quiet_of_same (QI.out _)))
            go_wp2_with fail
            go_ret
            exact ⟨ret_bool HN.out.symm, belowD (chainB B1.out HB.out) _⟩
        · have HN : Hid (dskB ss ps = true) := by show _ = _; rw [HF.out, pndB_true (fun j h => HK.out j h (by omega))]
          go_wp2_with fail
          go_ret
          exact ⟨ret_bool HN.out.symm, chainB B1.out HB.out⟩
end Go.Proofs.YtkhffoailfnepabGreatDoor
/-
  append of a slice of texts onto one that the call owns: what it owns then.
-/
namespace Go.Proofs.YtkhffoailfnepabGreatDoor
open Go.RowKit Go.Lib
set_option linter.unusedVariables false

theorem run_append_len0 {P : Program} (w : World) (base : Nat) (t ty e : TypeId) (i : TypeInfo) (size : Nat) (ht : P.underlying t = some (.slice e)) (hi : P.info? e = some i)
    (v : Value) (n : Nat) (xs : List Value) (hown : w.ownsRow base e size v n xs) (p : Option Addr) (cap : Nat) :
    (Builtin.append_ #[t, t] ty #[v, .slice p 0 cap]).run P w = .ok v w := by
  rcases hown.2 with ⟨rfl, rfl⟩ | ⟨g, cap', cur, rfl, _, _, hnc, _⟩
  · cases p <;> simp [Builtin.append_, run_underlying ht, sizeOf, typeInfo, hi, Builtin.lenOf, Builtin.firstCells, loadCells, loadCellsFrom]
  · cases p <;> simp [Builtin.append_, run_underlying ht, sizeOf, typeInfo, hi, Builtin.lenOf, Builtin.firstCells, hnc, storeCells, loadCells, loadCellsFrom]
theorem app_texts (w : World) (base : Nat) (v : Value) (l : List ByteArray) (own : w.ownsRow base 9 1 v l.length (strRow l)) (p : Option Addr) (cap : Nat) (ss : List ByteArray) (hp : TxtAt w p ss) (hl : l.length + ss.length ≤ 1048576) (hbase : base ≤ w.heap.size) :
    ∃ v' w', (Builtin.append_ #[23, 23] 23 #[v, .slice p ss.length cap]).run Tryz.prog w = .ok v' w' ∧ w'.ownsRow base 9 1 v' (l ++ ss).length (strRow (l ++ ss)) ∧ w.grownBy w' v.ownBlock := by
  obtain ⟨i0, hi, hz0, hz1, hz2⟩ := info_parts infoStr
  by_cases h0 : ss.length = 0
  · obtain rfl : ss = [] := List.length_eq_zero_iff.1 h0
    refine ⟨v, w, run_append_len0 w base _ _ _ i0 1 Tryz.underlying23 hi v l.length (strRow l) own p cap, by simpa using own, World.grownBy.refl _ _⟩
  · obtain ⟨b, off, rfl, hb, _⟩ := hp 0 (by omega)
    obtain ⟨g, cap', w', h1, h2, h3, _⟩ := run_append_lies (P := Tryz.prog) w 23 23 base 9 i0 (.string ByteArray.empty) 1 16 Tryz.underlying23 hi hz0 hz1 hz2 rfl (by omega) v l.length (strRow l) own ⟨b, off, none⟩ ss.length cap (strRow ss) (by simp [strRow]) (fun j u hu => by
      have hj : j < ss.length := by
        rcases Nat.lt_or_ge j ss.length with q | q
        · exact q
        · rw [List.getElem?_eq_none (by simpa [strRow] using q)] at hu; cases hu
      have hadd : (⟨b, off, none⟩ : Addr).add j = ⟨b, off + j, none⟩ := by unfold Addr.add; split <;> simp_all
      rw [hadd, hp.at j hj]
      simp [strRow, hj] at hu
      rw [hu]) (fun u hu => by
      obtain ⟨x, _, rfl⟩ := List.mem_map.1 hu
      rfl) (by omega) (by unfold maxLen; omega) (by omega) hbase _ rfl
    refine ⟨_, w', h1, ?_, h3⟩
    have e1 : (l ++ ss).length = l.length + ss.length := by simp
    have e2 : strRow (l ++ ss) = strRow l ++ strRow ss := by simp [strRow]
    rw [e1, e2]; exact h2
end Go.Proofs.YtkhffoailfnepabGreatDoor
/-
  An append in a region that draws its order, by its run.
-/
namespace Go.Proofs.YtkhffoailfnepabGreatDoor
open Go.RowKit
set_option linter.unusedVariables false

theorem step_append_run {P : Program} {w : World} {ops : Array Oper} {o : Oper} {a : Act} {K : Act → World → Prop} {Q : Exit → Act → World → Prop} {E : Prop} (hgd : o.guard = none) (s x : Operand) (t : TypeId)
    (ho : o.op = .call { callee := .builtin .append, args := #[s, x], argTypes := #[t, t] }) (v1 v2 v' : Value) (w' : World) (hs : a.eval s = v1) (hx : a.eval x = v2)
    (hr : (Builtin.append_ #[t, t] o.type #[v1, v2]).run P w = .ok v' w') (h : K (a.put o.dst v') w') :
    if Region.wanted o (yielded ops a.tmps) = true then Oper.wp P o a w K Q else E := by
  have hw : Region.wanted o (yielded ops a.tmps) = true := by simp [Region.wanted, hgd]
  rw [if_pos hw]
  unfold Oper.wp execOp
  simp only [ho, resolve, invoke, builtin, Sem.run_bind, Sem.run_pure, Result.andThen_ok, List.map_toArray, List.map_cons, List.map_nil, hs, hx, hr]
  exact h
end Go.Proofs.YtkhffoailfnepabGreatDoor
/-
  append of all that a slice leads to onto an empty one of the call's own, in a region that draws its order: texts, and pendings.
-/
namespace Go.Proofs.YtkhffoailfnepabGreatDoor
open Go.RowKit Go.Lib
set_option linter.unusedVariables false

theorem below_none {w w' : World} (h : w.grownBy w' none) : Below w.heap.size w w' := ⟨h.os, h.tape, h.output, h.size, fun g hg => h.block g hg (by simp)⟩
theorem szA (w : World) (o : Obj) : (w.alloc o).heap.size = w.heap.size + 1 := by simp
theorem szD (w : World) : w.drew.heap.size = w.heap.size := rfl
theorem alB {W X : World} (h : Below W.heap.size W X) (o : Obj) : Below W.heap.size W (X.alloc o) := h.alloc h.size o
/-- A copy of a row: a block of its own that came behind, or the empty one at g. -/
structure Cop (w : World) (g : Nat) (e : TypeId) (s : Nat) (n : Nat) (xs : List Value) (v : Value) (w' : World) : Prop where
  own : w'.ownsRow 0 e s v n xs
  bel : Below w.heap.size w w'
  at_ : ∃ b c, v = .slice (some ⟨b, 0, none⟩) n c ∧ n ≤ c ∧ (b = g ∨ w.heap.size ≤ b) ∧ b < w'.heap.size
theorem copy_texts (w : World) (g : Nat) (hg : w.heap[g]? = some (.cells #[] 9 (0, 0))) (p : Option Addr) (cap : Nat) (ss : List ByteArray) (hp : TxtAt w p ss) (hn : ss.length ≤ 1048576) :
    ∃ v' w', (Builtin.append_ #[23, 23] 23 #[.slice (some ⟨g, 0, none⟩) 0 0, .slice p ss.length cap]).run Tryz.prog w = .ok v' w' ∧ Cop w g 9 1 ss.length (strRow ss) v' w' := by
  have own0 : w.ownsRow 0 9 1 (.slice (some ⟨g, 0, none⟩) 0 0) 0 [] := ⟨rfl, .inr ⟨g, 0, #[], rfl, Nat.zero_le _, hg, Nat.le_refl _, by unfold maxLen; omega, rfl, rfl⟩⟩
  obtain ⟨i0, hi, hz0, hz1, hz2⟩ := info_parts infoStr
  by_cases h0 : ss.length = 0
  · obtain rfl : ss = [] := List.length_eq_zero_iff.1 h0
    exact ⟨_, w, run_append_len0 w 0 _ _ _ i0 1 Tryz.underlying23 hi _ 0 [] own0 p cap, own0, Below.refl _ _, g, 0, rfl, Nat.le_refl _, .inl rfl, lt_of_block hg⟩
  · obtain ⟨b, off, rfl, hb, _⟩ := hp 0 (by omega)
    obtain ⟨v', w', h1, h2, h3⟩ := run_append_arg_grows (P := Tryz.prog) w 23 23 9 i0 (.string ByteArray.empty) 1 16 Tryz.underlying23 hi hz0 hz1 hz2 rfl (by omega) ⟨g, 0, none⟩ 0 0 [] rfl (fun j u hu => by simp at hu) ⟨b, off, none⟩ ss.length cap (strRow ss) (by simp [strRow]) (fun j u hu => by
      have hj : j < ss.length := by
        rcases Nat.lt_or_ge j ss.length with q | q
        · exact q
        · rw [List.getElem?_eq_none (by simpa [strRow] using q)] at hu; cases hu
      have hadd : (⟨b, off, none⟩ : Addr).add j = ⟨b, off + j, none⟩ := by unfold Addr.add; split <;> simp_all
      rw [hadd, hp.at j hj]
      simp [strRow, hj] at hu
      rw [hu]) (by omega) (by unfold maxLen; omega) (by omega)
    rw [Nat.zero_add, List.nil_append] at h2
    have h2' := h2
    rcases h2'.2 with ⟨hv, hn0⟩ | ⟨b', c', cur, rfl, hb1, hb2, hb3, -⟩
    · exact absurd hn0 h0
    · exact ⟨_, w', h1, ownS_mono h2 (Nat.zero_le _), below_none h3, b', c', rfl, hb3, .inr hb1, lt_of_block hb2⟩
theorem infoPnd : (Tryz.prog.info? 76).map (fun i => (i.zero, i.size, i.bytes)) = some (some (.agg #[.int .i64 0, .string ByteArray.empty]), 2, 24) := by kernel_rfl
theorem copy_pends (w : World) (g : Nat) (hg : w.heap[g]? = some (.cells #[] 76 (0, 0))) (p : Option Addr) (cap : Nat) (ps : List Pnd) (hp : PndAt w p ps) (hn : ps.length ≤ 1048576) :
    ∃ v' w', (Builtin.append_ #[24, 24] 24 #[.slice (some ⟨g, 0, none⟩) 0 0, .slice p ps.length cap]).run Tryz.prog w = .ok v' w' ∧ Cop w g 76 2 ps.length (pndRow ps) v' w' := by
  have own0 : w.ownsRow 0 76 2 (.slice (some ⟨g, 0, none⟩) 0 0) 0 [] := ⟨rfl, .inr ⟨g, 0, #[], rfl, Nat.zero_le _, hg, Nat.le_refl _, by unfold maxLen; omega, rfl, rfl⟩⟩
  obtain ⟨i0, hi, hz0, hz1, hz2⟩ := info_parts infoPnd
  by_cases h0 : ps.length = 0
  · obtain rfl : ps = [] := List.length_eq_zero_iff.1 h0
    exact ⟨_, w, run_append_len0 w 0 _ _ _ i0 2 Tryz.underlying24 hi _ 0 [] own0 p cap, own0, Below.refl _ _, g, 0, rfl, Nat.le_refl _, .inl rfl, lt_of_block hg⟩
  · obtain ⟨b, off, rfl, hb, _⟩ := hp 0 (by omega)
    obtain ⟨v', w', h1, h2, h3⟩ := run_append_arg_grows (P := Tryz.prog) w 24 24 76 i0 _ 2 24 Tryz.underlying24 hi hz0 hz1 hz2 rfl (by omega) ⟨g, 0, none⟩ 0 0 [] rfl (fun j u hu => by simp at hu) ⟨b, off, none⟩ ps.length cap (pndRow ps) (pndRow_len ps) (fun j u hu => by
      have hj : j < ps.length * 2 := by
        rcases Nat.lt_or_ge j (ps.length * 2) with q | q
        · exact q
        · rw [List.getElem?_eq_none (by rw [pndRow_len]; exact q)] at hu; cases hu
      have hadd : (⟨b, off, none⟩ : Addr).add j = ⟨b, off + j, none⟩ := by unfold Addr.add; split <;> simp_all
      have hc := hp.at (j / 2) (by omega)
      have hr := pndRow_at ps (j / 2) (by omega)
      rw [hadd]
      rcases Nat.mod_two_eq_zero_or_one j with h | h
      · have e : j / 2 * 2 = j := by omega
        rw [e] at hc hr
        rw [hc.1, ← hu, hr.1]
      · have e : j / 2 * 2 + 1 = j := by omega
        rw [Nat.add_assoc, e] at hc
        rw [e] at hr
        rw [hc.2, ← hu, hr.2]) (by omega) (by unfold maxLen; omega) (by omega)
    rw [Nat.zero_add, List.nil_append] at h2
    have h2' := h2
    rcases h2'.2 with ⟨hv, hn0⟩ | ⟨b', c', cur, rfl, hb1, hb2, hb3, -⟩
    · exact absurd hn0 h0
    · exact ⟨_, w', h1, ownS_mono h2 (Nat.zero_le _), below_none h3, b', c', rfl, hb3, .inr hb1, lt_of_block hb2⟩
theorem step_copy_texts {w : World} {ops : Array Oper} {o : Oper} {a : Act} {K : Act → World → Prop} {Q : Exit → Act → World → Prop} {E : Prop} (hgd : o.guard = none) (s x : Operand)
    (ho : o.op = .call { callee := .builtin .append, args := #[s, x], argTypes := #[23, 23] }) (hty : o.type = 23) (g : Nat) (p : Option Addr) (cap : Nat) (ss : List ByteArray) (hs : a.eval s = .slice (some ⟨g, 0, none⟩) 0 0) (hx : a.eval x = .slice p ss.length cap)
    (hg : w.heap[g]? = some (.cells #[] 9 (0, 0))) (hp : TxtAt w p ss) (hn : ss.length ≤ 1048576) (h : ∀ v' w', Cop w g 9 1 ss.length (strRow ss) v' w' → K (a.put o.dst v') w') :
    if Region.wanted o (yielded ops a.tmps) = true then Oper.wp Tryz.prog o a w K Q else E := by
  obtain ⟨v', w', hr, hc⟩ := copy_texts w g hg p cap ss hp hn
  exact step_append_run hgd s x 23 ho _ _ v' w' hs hx (by rw [hty]; exact hr) (h v' w' hc)
theorem step_copy_pends {w : World} {ops : Array Oper} {o : Oper} {a : Act} {K : Act → World → Prop} {Q : Exit → Act → World → Prop} {E : Prop} (hgd : o.guard = none) (s x : Operand)
    (ho : o.op = .call { callee := .builtin .append, args := #[s, x], argTypes := #[24, 24] }) (hty : o.type = 24) (g : Nat) (p : Option Addr) (cap : Nat) (ps : List Pnd) (hs : a.eval s = .slice (some ⟨g, 0, none⟩) 0 0) (hx : a.eval x = .slice p ps.length cap)
    (hg : w.heap[g]? = some (.cells #[] 76 (0, 0))) (hp : PndAt w p ps) (hn : ps.length ≤ 1048576) (h : ∀ v' w', Cop w g 76 2 ps.length (pndRow ps) v' w' → K (a.put o.dst v') w') :
    if Region.wanted o (yielded ops a.tmps) = true then Oper.wp Tryz.prog o a w K Q else E := by
  obtain ⟨v', w', hr, hc⟩ := copy_pends w g hg p cap ps hp hn
  exact step_append_run hgd s x 24 ho _ _ v' w' hs hx (by rw [hty]; exact hr) (h v' w' hc)
end Go.Proofs.YtkhffoailfnepabGreatDoor
