/-
  Parts of one proof, laid as one text: ImplTS, ErrI, ImplAA, ImplNx; what each says stands at its head.
-/
import Derived.Test.YtkhffoailfnepakGreatDoorRows
import Derived.Test.YtkhffoailfnepakGreatDoorBytesDigMath
import Derived.Test.YtkhffoailfnepakGreatDoorSlASlBOwnSDskMath
import Derived.Test.YtkhffoailfnepakGreatDoorAppSStepAppDskA
import Derived.Test.YtkhffoailfnepakGreatDoorDskW
import Derived.Test.YtkhffoailfnepakGreatDoorStpMathAreaPutM
import Derived.Test.YtkhffoailfnepakGreatDoorAreaPt
import Derived.Handy
import Derived.WalkSpells
import Derived.OwnWalk
import Derived.Deep.AppendLies
import Derived.Test.YtkhffoailfnepakGreatDoorAreaMath
import Derived.Test.YtkhffoailfnepakGreatDoorIsEImplAC
import Derived.Test.YtkhffoailfnepakGreatDoorImplDR
import Derived.Test.YtkhffoailfnepakGreatDoorPutTextAreaAAreaF
import Derived.Test.YtkhffoailfnepakGreatDoorLawD
/-
  What the program's textSteps answers: the writes of a text's pieces, and a flush.
  Conditions: the text has at most 8000 bytes; the side's first Sector is a small number.
-/
namespace Go.Proofs.YtkhffoailfnepakGreatDoor
open Go.RowKit Go.Lib
set_option linter.unusedVariables false
set_option maxRecDepth 20000

theorem infoStp : (Tryz.prog.info? 93).map (fun i => (i.zero, i.size, i.bytes)) = some (some (.agg #[.bool false, .int .i64 0, .string ByteArray.empty]), 3, 32) := by kernel_rfl
theorem app_stp (w : World) (base : Nat) (v : Value) (l : List Stp) (own : w.ownsRow base 93 3 v l.length (stpRow l)) (x : Stp) (hl : l.length + 1 ≤ 1048576) (hbase : base ≤ w.heap.size) :
    ∃ g c w', (Builtin.append_ #[57, 57] 57 #[v, .slice (some ⟨w.heap.size, 0, none⟩) 1 1]).run Tryz.prog (w.alloc (.cells #[.bool x.f, .int .i64 (x.a : Int), .string x.t] 93)) = .ok (.slice (some ⟨g, 0, none⟩) (l.length + 1) c) w' ∧
      w'.ownsRow base 93 3 (.slice (some ⟨g, 0, none⟩) (l.length + 1) c) (l ++ [x]).length (stpRow (l ++ [x])) ∧ (w.alloc (.cells #[.bool x.f, .int .i64 (x.a : Int), .string x.t] 93)).grownBy w' v.ownBlock ∧ (v.ownBlock = some g ∨ g = w.heap.size + 1) := by
  obtain ⟨i0, hi, hz0, hz1, hz2⟩ := info_parts infoStp
  obtain ⟨g, c, w', h1, h2, h3, h4, _⟩ := run_append_lies (P := Tryz.prog) (w.alloc (.cells #[.bool x.f, .int .i64 (x.a : Int), .string x.t] 93)) 57 57 base 93 i0 _ 3 32 Tryz.underlying57 hi hz0 hz1 hz2 rfl (by omega) v l.length (stpRow l) (own.alloc _) ⟨w.heap.size, 0, none⟩ 1 1 (stpRow [x]) rfl (fun j u hu => by
      have hj : j < 3 := by
        rcases Nat.lt_or_ge j 3 with q | q
        · exact q
        · rw [List.getElem?_eq_none (by rw [stpRow_len]; exact q)] at hu; cases hu
      have hadd : (⟨w.heap.size, 0, none⟩ : Addr).add j = ⟨w.heap.size, 0 + j, none⟩ := by unfold Addr.add; split <;> simp_all
      rw [hadd, Nat.zero_add, World.cell?_alloc_mark]
      match j, hj with
      | 0, _ => exact hu
      | 1, _ => exact hu
      | 2, _ => exact hu) (fun u hu => by
      simp [stpRow] at hu
      rcases hu with rfl | rfl | rfl <;> rfl) (by omega) (by unfold maxLen; omega) (by omega) (by simp; omega) (w.heap.size + 1) (by simp)
  refine ⟨g, c, w', h1, ?_, h3, h4⟩
  have e1 : (l ++ [x]).length = l.length + 1 := by simp
  rw [e1, stpRow_append]; exact h2
theorem stp_at {w : World} {base : Nat} {v : Value} {l : List Stp} (h : w.ownsRow base 93 3 v l.length (stpRow l)) : ∃ p cap, v = .slice p l.length cap ∧ l.length ≤ cap ∧ StpAt w p l := by
  rcases h.2 with ⟨rfl, h0⟩ | ⟨g, cap, cur, rfl, h2, h3, h4, h5, h6, h7⟩
  · have hl : l = [] := List.length_eq_zero_iff.1 h0
    subst hl
    exact ⟨none, 0, rfl, Nat.le_refl _, StpAt.nil _ _⟩
  · refine ⟨some ⟨g, 0, none⟩, cap, rfl, h4, fun i hi => ⟨g, 0, rfl, lt_of_block h3, ?_⟩⟩
    have h8 := stpRow_at l i hi
    rw [← h7, List.getElem?_take_of_lt (by omega), List.getElem?_take_of_lt (by omega), List.getElem?_take_of_lt (by omega)] at h8
    rw [Nat.zero_add]
    simpa [World.cell?, h3] using h8
/-- A row of steps of the call's own, and one more. -/
structure StL (W : World) (v : Value) (l : List Stp) (x : World) : Prop where
  own : x.ownsRow W.heap.size 93 3 v l.length (stpRow l)
  bel : Below W.heap.size W x
theorem StL.app {W : World} {v : Value} {l : List Stp} {x : World} (h : StL W v l x) (s : Stp) (hl : l.length + 1 ≤ 1048576) : ∃ g c x', (Builtin.append_ #[57, 57] 57 #[v, .slice (some ⟨x.heap.size, 0, none⟩) 1 1]).run Tryz.prog (x.alloc (.cells #[.bool s.f, .int .i64 (s.a : Int), .string s.t] 93)) = .ok (.slice (some ⟨g, 0, none⟩) (l.length + 1) c) x' ∧ StL W (.slice (some ⟨g, 0, none⟩) (l.length + 1) c) (l ++ [s]) x' := by
  obtain ⟨g, c, x', h1, h2, h3, -⟩ := app_stp x W.heap.size v l h.own s hl h.bel.size
  exact ⟨g, c, x', h1, h2, (h.bel.alloc h.bel.size _).grown h3 (by simp; have := h.bel.size; omega) (fun j hj => (h.own.lt j hj).1)⟩
set_option maxHeartbeats 2000000 in
theorem textSteps_any (first : Nat) (t : ByteArray) (w : World) (ht : t.size ≤ 8000) (hf : first ≤ 1000) :
    Calls Tryz.prog 48 #[.int .i64 (first : Int), .string t] w fun e w' => ∃ v, e = .returned v ∧ w'.ownsRow w.heap.size 93 3 v (putW first t (needN t.size) ++ [Stp.fl]).length (stpRow (putW first t (needN t.size) ++ [Stp.fl])) ∧ Below w.heap.size w w' := by
  have F0 : Hid (StL w (.slice none 0 0) [] w) := ⟨World.ownsRow_nil _ _ _ _, Below.refl _ _⟩
  have HPc : Hid (∀ j, j < needN t.size → ∀ x, (Instr.slice 9 (.string t) (some (.int .i64 ((j : Int) * 64))) (some (.int .i64 ((min t.size (64 * (j + 1)) : Nat) : Int))) none).run Tryz.prog x = .ok (.string (pieceB t j)) x) := fun j hj x => piece_run t j hj x
  have hn : needN t.size ≤ 125 := by unfold needN; omega
  go_enter Tryz.func48, Tryz.ntmps48
  go_wp2_with fail
  go_loopw [5, 6] (fun v i wr => ∃ (k : Nat) (l : List Stp), k ≤ needN t.size ∧ i = .int .i64 ((k : Int) * 64) ∧ Hid (l = putW first t k) ∧ Hid (StL w v l wr)) (fun _ i _ => 64 * needN t.size - (intOf i).toNat)
  case atStart => exact ⟨0, [], by omega, rfl, rfl, F0⟩
  case round =>
    clear F0
    obtain ⟨k, l, hk, rfl, HL, HO⟩ := hrel
    have hll : l.length = k := by rw [HL.out, putW_len]
    have HLL : Hid (l.length = k) := hll
    by_cases hlt : k < needN t.size
    · have h64 : 64 * k < t.size := by unfold needN at hlt; omega
      have d1 : decide ((k : Int) * 64 < (t.size : Int)) = true := decide_eq_true (by omega)
      have hw1 : IntKind.i64.wrap ((k : Int) * 64 + 64) = (k : Int) * 64 + 64 := by rw [IntKind.wrap_i64]; omega
      have hmin : min ((k : Int) * 64 + 64) (t.size : Int) = ((min t.size (64 * (k + 1)) : Nat) : Int) := by omega
      have hq : ((k : Int) * 64).tdiv 64 = (k : Int) := by rw [Int.tdiv_eq_ediv_of_nonneg (by omega)]; omega
      have hw2 : IntKind.i64.wrap (k : Int) = (k : Int) := by rw [IntKind.wrap_i64]; omega
      have hw3 : IntKind.i64.wrap ((first : Int) + (k : Int)) = (first : Int) + (k : Int) := by rw [IntKind.wrap_i64]; omega
      have hpr := HPc.out k hlt
      obtain ⟨g, c, x', hrun, HO2⟩ := HO.out.app (.wr (first + k) (pieceB t k)) (by omega)
      have hrun : (Builtin.append_ #[57, 57] 57 #[u5, .slice (some ⟨wr.heap.size, 0, none⟩) 1 1]).run Tryz.prog (wr.alloc (.cells #[.bool false, .int .i64 ((first : Int) + (k : Int)), .string (pieceB t k)] 93)) = .ok (.slice (some ⟨g, 0, none⟩) (l.length + 1) c) x' := by
        rw [show (first : Int) + (k : Int) = ((first + k : Nat) : Int) by omega]; exact hrun
      have HL2 : Hid (l ++ [.wr (first + k) (pieceB t k)] = putW first t (k + 1)) := by
        show _ = _
        rw [putW_succ, ← HL.out]
      have HO3 : Hid (StL w (.slice (some ⟨g, 0, none⟩) (l.length + 1) c) (l ++ [.wr (first + k) (pieceB t k)]) x') := HO2
      have HM : Hid (64 * k < t.size ∧ k < needN t.size) := ⟨h64, hlt⟩
      have hk9 : k < 125 := by omega
      have hs1 : (0 : Int) ≤ (k : Int) * 64 := by omega
      have hs2 : (k : Int) * 64 ≤ (t.size : Int) := by omega
      have hs3 : (k : Int) * 64 ≤ (k : Int) * 64 + 64 := by omega
      have hs4 : k * 64 ≤ t.size := by omega
      clear HO HL hll HO2 h64 HPc hpr hmin
      by_cases hm : (t.size : Int) < (k : Int) * 64 + 64
      · have e : pieceB t k = t.extract (k * 64) t.size := by
          unfold pieceB; rw [show 64 * k = k * 64 by omega, show min t.size (64 * (k + 1)) = t.size by omega]
        rw [e] at hrun
        have d2 : decide ((t.size : Int) < (k : Int) * 64 + 64) = true := decide_eq_true hm
        clear e
        go_wp2_with (at_builtin; refine wpList_append_run rfl _ _ _ rfl _ _ _ _ rfl rfl hrun ?_)
        go_roundw
        case rel => exact ⟨k + 1, _, by omega, by go_num, HL2, HO3⟩
        case measure => have := HM.out; unfold needN at *; simp [intOf]; omega
      · have e : pieceB t k = t.extract (k * 64) (k * 64 + 64) := by
          unfold pieceB; rw [show 64 * k = k * 64 by omega, show min t.size (64 * (k + 1)) = k * 64 + 64 by omega]
        rw [e] at hrun
        have d2 : decide ((t.size : Int) < (k : Int) * 64 + 64) = false := decide_eq_false hm
        have hle : (k : Int) * 64 + 64 ≤ (t.size : Int) := by omega
        clear e
        go_wp2_with (at_builtin; refine wpList_append_run rfl _ _ _ rfl _ _ _ _ rfl rfl hrun ?_)
        go_roundw
        case rel => exact ⟨k + 1, _, by omega, by go_num, HL2, HO3⟩
        case measure => have := HM.out; unfold needN at *; simp [intOf]; omega
    · obtain rfl : k = needN t.size := by omega
      have hge : t.size ≤ 64 * needN t.size := by unfold needN; omega
      have d1 : decide ((needN t.size : Int) * 64 < (t.size : Int)) = false := decide_eq_false (by omega)
      obtain ⟨g, c, x', hrun, HO2⟩ := HO.out.app Stp.fl (by omega)
      have hrun : (Builtin.append_ #[57, 57] 57 #[u5, .slice (some ⟨wr.heap.size, 0, none⟩) 1 1]).run Tryz.prog (wr.alloc (.cells #[.bool true, .int .i64 0, .string ⟨#[]⟩] 93)) = .ok (.slice (some ⟨g, 0, none⟩) (l.length + 1) c) x' := hrun
      rw [HL.out] at HO2
      have HO3 : Hid (StL w (.slice (some ⟨g, 0, none⟩) (l.length + 1) c) (putW first t (needN t.size) ++ [.fl]) x') := by rw [HL.out]; exact HO2
      clear HO HL hll HO2 hge hlt HPc
      go_wp2_with (at_builtin; refine wpList_append_run rfl _ _ _ rfl _ _ _ _ rfl rfl hrun ?_)
      go_ret
      exact ⟨_, rfl, HO3.out.own, HO3.out.bel⟩
end Go.Proofs.YtkhffoailfnepakGreatDoor
/-
  An error and the code that the program's areaCode makes of it; what readArea answers, as a plain statement.
-/
namespace Go.Proofs.YtkhffoailfnepakGreatDoor
open Go.RowKit Go.Lib
set_option linter.unusedVariables false

/-- An error that areaCode turns into this code. -/
def ErrIs (a1 a2 a3 a4 : Addr) (v : Value) (c : Int) : Prop :=
  (v = .iface 159 (.pointer (some a1)) ∧ c = 1) ∨ (v = .iface 159 (.pointer (some a2)) ∧ c = 3) ∨ (v = .iface 159 (.pointer (some a3)) ∧ c = 5) ∨ (v = .iface 159 (.pointer (some a4)) ∧ c = 9) ∨ v = errV c
theorem ErrIs.iface {a1 a2 a3 a4 : Addr} {v : Value} {c : Int} (h : ErrIs a1 a2 a3 a4 v c) : ∃ ty p, v = .iface ty p := by
  rcases h with ⟨rfl, -⟩ | ⟨rfl, -⟩ | ⟨rfl, -⟩ | ⟨rfl, -⟩ | rfl
  all_goals exact ⟨_, _, rfl⟩
theorem areaCode_of {a1 a2 a3 a4 : Addr} {v : Value} {c : Int} (h : ErrIs a1 a2 a3 a4 v c) (w : World) (hS : Sents a1 a2 a3 a4 w) (hl : Laid w) : Calls Tryz.prog 29 #[v] w fun e w' => e = .returned (.int .i64 c) ∧ Below w.heap.size w w' := by
  rcases h with ⟨rfl, rfl⟩ | ⟨rfl, rfl⟩ | ⟨rfl, rfl⟩ | ⟨rfl, rfl⟩ | rfl
  · exact (areaCode_1 a1 a2 a3 a4 w hS).mono (by rintro e w' ⟨rfl, rfl⟩; exact ⟨rfl, Below.refl _ _⟩)
  · exact (areaCode_2 a1 a2 a3 a4 w hS).mono (by rintro e w' ⟨rfl, rfl⟩; exact ⟨rfl, Below.refl _ _⟩)
  · exact (areaCode_3 a1 a2 a3 a4 w hS).mono (by rintro e w' ⟨rfl, rfl⟩; exact ⟨rfl, Below.refl _ _⟩)
  · exact (areaCode_4 a1 a2 a3 a4 w hS).mono (by rintro e w' ⟨rfl, rfl⟩; exact ⟨rfl, Below.refl _ _⟩)
  · exact areaCode_wrong c a1 a2 a3 a4 w hS hl
/-- What readArea answers. -/
def RaP (ss : List ByteArray) (ps : List Pnd) (a1 a2 a3 a4 : Addr) (e : Ending) : Prop :=
  ∃ (G S Z : Nat) (T : ByteArray) (v : Value), e = .returned (.tuple #[.agg #[.int .i64 (G : Int), .int .i64 (S : Int), .int .i64 (Z : Int)], .string T, v]) ∧ (arC ss ps = 0 → G = arG ss ps ∧ S = seS (readB ss ps 0) (roomN ss) ∧ T = arT ss ps ∧ v = .nilIface) ∧ (arC ss ps ≠ 0 → ErrIs a1 a2 a3 a4 v (arC ss ps))
end Go.Proofs.YtkhffoailfnepakGreatDoor
/-
  What the program's sideSectors, sideStart, roomOf and AreaRoom answer.
  Conditions: the cells of Sectors and Pending hold the texts and the pendings; the numbers lie within 64 bits.
-/
namespace Go.Proofs.YtkhffoailfnepakGreatDoor
open Go.RowKit Go.Lib
set_option linter.unusedVariables false
set_option maxRecDepth 20000

theorem sideSectors_any (q1 : Option Addr) (n c1 : Nat) (q2 : Option Addr) (m c2 : Nat) (w : World) (h0 : 1 ≤ n) (hn : n ≤ 1048576) :
    Calls Tryz.prog 67 #[.agg #[.slice q1 n c1, .slice q2 m c2]] w fun e w' => e = .returned (.int .i64 (sideN n : Nat)) ∧ Below w.heap.size w w' := by
  have B1 : Below w.heap.size w (w.alloc (.cells #[.slice q1 n c1, .slice q2 m c2] 29)) := (Below.refl _ _).alloc (Nat.le_refl _) _
  have hw : IntKind.i64.wrap ((n : Int) - 1) = (n : Int) - 1 := by rw [IntKind.wrap_i64]; omega
  have hq : ((n : Int) - 1).tdiv 2 = ((sideN n : Nat) : Int) := by
    unfold sideN
    rw [Int.tdiv_eq_ediv_of_nonneg (by omega)]
    omega
  have hw2 : IntKind.i64.wrap ((sideN n : Nat) : Int) = ((sideN n : Nat) : Int) := by
    have : sideN n ≤ 1048576 := by unfold sideN; omega
    rw [IntKind.wrap_i64]; omega
  generalize sideN n = H at *
  go_enter Tryz.func67, Tryz.ntmps67
  go_wp2
  go_ret
  exact ⟨rfl, B1⟩
theorem sideStart_any (q1 : Option Addr) (n c1 : Nat) (q2 : Option Addr) (m c2 : Nat) (side : Nat) (w : World) (h0 : 1 ≤ n) (hn : n ≤ 1048576) (hs : side ≤ 1) :
    Calls Tryz.prog 49 #[.agg #[.slice q1 n c1, .slice q2 m c2], .int .i64 (side : Int)] w fun e w' => e = .returned (.int .i64 ((1 + side * sideN n : Nat) : Int)) ∧ Below w.heap.size w w' := by
  obtain ⟨W1, hW1⟩ : ∃ W1, W1 = w.alloc (.cells #[.slice q1 n c1, .slice q2 m c2] 29) := ⟨_, rfl⟩
  have HW1 : Hid (W1 = w.alloc (.cells #[.slice q1 n c1, .slice q2 m c2] 29)) := hW1
  have B1 : Below w.heap.size w W1 := by rw [hW1]; exact (Below.refl _ _).alloc (Nat.le_refl _) _
  have hh := sideSectors_any q1 n c1 q2 m c2 W1 h0 hn
  have hH : sideN n ≤ 1048576 := by unfold sideN; omega
  generalize sideN n = H at *
  have hp : side * H ≤ 1048576 := by
    rcases Nat.le_one_iff_eq_zero_or_eq_one.1 hs with rfl | rfl <;> omega
  have hw1 : IntKind.i64.wrap ((side : Int) * (H : Int)) = (side : Int) * (H : Int) := by
    rw [IntKind.wrap_i64, ← Int.natCast_mul]; omega
  have hw2 : IntKind.i64.wrap (1 + (side : Int) * (H : Int)) = 1 + (side : Int) * (H : Int) := by
    rw [IntKind.wrap_i64, ← Int.natCast_mul]; omega
  have he : ((1 + side * H : Nat) : Int) = 1 + (side : Int) * (H : Int) := by simp
  rw [he]
  clear hW1 he
  go_enter Tryz.func49, Tryz.ntmps49
  go_wp2_with fail
  rw [← HW1.out]
  refine hh.mono ?_
  rintro e w2 ⟨rfl, b2⟩
  have b2 := chainB B1 b2
  go_wp2_with fail
  go_ret
  exact ⟨rfl, b2⟩
theorem roomOf_any (q1 : Option Addr) (n c1 : Nat) (q2 : Option Addr) (m c2 : Nat) (w : World) (h0 : 1 ≤ n) (hn : n ≤ 1048576) :
    Calls Tryz.prog 46 #[.agg #[.slice q1 n c1, .slice q2 m c2]] w fun e w' => e = .returned (.int .i64 (64 * sideN n : Nat)) ∧ Below w.heap.size w w' := by
  obtain ⟨W1, hW1⟩ : ∃ W1, W1 = w.alloc (.cells #[.slice q1 n c1, .slice q2 m c2] 29) := ⟨_, rfl⟩
  have HW1 : Hid (W1 = w.alloc (.cells #[.slice q1 n c1, .slice q2 m c2] 29)) := hW1
  have B1 : Below w.heap.size w W1 := by rw [hW1]; exact (Below.refl _ _).alloc (Nat.le_refl _) _
  have hh := sideSectors_any q1 n c1 q2 m c2 W1 h0 hn
  have hH : sideN n ≤ 1048576 := by unfold sideN; omega
  generalize sideN n = H at *
  have hw1 : IntKind.i64.wrap ((H : Int) * 64) = (H : Int) * 64 := by rw [IntKind.wrap_i64]; omega
  have he : ((64 * H : Nat) : Int) = (H : Int) * 64 := by omega
  rw [he]
  clear hW1 he
  go_enter Tryz.func46, Tryz.ntmps46
  go_wp2_with fail
  rw [← HW1.out]
  refine hh.mono ?_
  rintro e w2 ⟨rfl, b2⟩
  have b2 := chainB B1 b2
  go_wp2_with fail
  go_ret
  exact ⟨rfl, b2⟩
end Go.Proofs.YtkhffoailfnepakGreatDoor
/-
  What the program's (areaHead).next answers; a row of steps of the call's own takes two steps more.
  Conditions: the numbers lie within 64 bits.
-/
namespace Go.Proofs.YtkhffoailfnepakGreatDoor
open Go.RowKit Go.Lib
set_option linter.unusedVariables false
set_option maxRecDepth 20000

theorem next_any (g s z size : Nat) (w : World) (hg : g < 1000000) (hs : s ≤ 1) :
    Calls Tryz.prog 47 #[.agg #[.int .i64 (g : Int), .int .i64 (s : Int), .int .i64 (z : Int)], .int .i64 (size : Int)] w fun e w' => e = .returned (.agg #[.int .i64 ((g + 1 : Nat) : Int), .int .i64 ((1 - s : Nat) : Int), .int .i64 (size : Int)]) ∧ Below w.heap.size w w' := by
  have hw1 : IntKind.i64.wrap ((g : Int) + 1) = (g : Int) + 1 := by rw [IntKind.wrap_i64]; omega
  obtain ⟨o, ho⟩ : ∃ o : Int, o = ((1 - s : Nat) : Int) := ⟨_, rfl⟩
  have hw2 : IntKind.i64.wrap (1 - (s : Int)) = o := by rw [IntKind.wrap_i64, ho]; omega
  rw [← ho, show ((g + 1 : Nat) : Int) = (g : Int) + 1 by omega]
  have HB : Hid (Below w.heap.size w ((w.alloc (.cells #[.int .i64 (g : Int), .int .i64 (s : Int), .int .i64 (z : Int)] 85)).alloc (.cells #[.int .i64 ((g : Int) + 1), .int .i64 o, .int .i64 (size : Int)] 85))) := ((Below.refl _ _).alloc (Nat.le_refl _) _).alloc (by simp) _
  clear ho
  go_enter Tryz.func47, Tryz.ntmps47
  go_wp2_with fail
  refine bodyPost_ret (v := .agg #[.int .i64 ((g : Int) + 1), .int .i64 o, .int .i64 (size : Int)]) (by simp [results, Tryz.results47, go_sem]) rfl ?_
  exact ⟨rfl, HB.out⟩
/-- Two steps that lie in a block of their own are appended. -/
theorem app_two {W : World} {v : Value} {l : List Stp} {x : World} (h : StL W v l x) (b : Nat) (s1 s2 : Stp) (hb : x.heap[b]? = some (.cells #[.bool s1.f, .int .i64 (s1.a : Int), .string s1.t, .bool s2.f, .int .i64 (s2.a : Int), .string s2.t] 93 (0, 0))) (hv : ∀ j, v.ownBlock = some j → j ≠ b) (hl : l.length + 2 ≤ 1048576) :
    ∃ g c x', (Builtin.append_ #[57, 57] 57 #[v, .slice (some ⟨b, 0, none⟩) 2 2]).run Tryz.prog x = .ok (.slice (some ⟨g, 0, none⟩) (l.length + 2) c) x' ∧ StL W (.slice (some ⟨g, 0, none⟩) (l.length + 2) c) (l ++ [s1, s2]) x' := by
  obtain ⟨i0, hi, hz0, hz1, hz2⟩ := info_parts infoStp
  have hlt := lt_of_block hb
  obtain ⟨g, c, w', h1, h2, h3, h4, _⟩ := run_append_lies (P := Tryz.prog) x 57 57 W.heap.size 93 i0 _ 3 32 Tryz.underlying57 hi hz0 hz1 hz2 rfl (by omega) v l.length (stpRow l) h.own ⟨b, 0, none⟩ 2 2 (stpRow [s1, s2]) rfl (fun j u hu => by
      have hj : j < 6 := by
        rcases Nat.lt_or_ge j 6 with q | q
        · exact q
        · rw [List.getElem?_eq_none (by rw [stpRow_len]; exact q)] at hu; cases hu
      have hadd : (⟨b, 0, none⟩ : Addr).add j = ⟨b, 0 + j, none⟩ := by unfold Addr.add; split <;> simp_all
      rw [hadd, Nat.zero_add]
      have hc : x.cell? ⟨b, j, none⟩ = (#[.bool s1.f, .int .i64 (s1.a : Int), .string s1.t, .bool s2.f, .int .i64 (s2.a : Int), .string s2.t] : Array Value)[j]? := by simp [World.cell?, hb]
      rw [hc]
      match j, hj with
      | 0, _ => exact hu
      | 1, _ => exact hu
      | 2, _ => exact hu
      | 3, _ => exact hu
      | 4, _ => exact hu
      | 5, _ => exact hu) (fun u hu => by
      simp [stpRow] at hu
      rcases hu with rfl | rfl | rfl | rfl | rfl | rfl <;> rfl) (by omega) (by unfold maxLen; omega) (by omega) h.bel.size x.heap.size rfl
  refine ⟨g, c, w', h1, ?_, h.bel.grown h3 h.bel.size (fun j hj => (h.own.lt j hj).1)⟩
  have e1 : (l ++ [s1, s2]).length = l.length + 2 := by simp
  rw [e1, stpRow_append]; exact h2
end Go.Proofs.YtkhffoailfnepakGreatDoor
