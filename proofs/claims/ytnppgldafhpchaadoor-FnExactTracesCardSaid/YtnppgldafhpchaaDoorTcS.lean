/-
  What the specification's Traces answers.
-/
import Derived.Test.YtnppgldafhpchaaDoorRows
import Derived.Test.YtnppgldafhpchaaDoorBytes
import Derived.Test.YtnppgldafhpchaaDoorSlASlBOwnS
import Derived.Test.YtnppgldafhpchaaDoorBxK
import Derived.Test.YtnppgldafhpchaaDoorDskMath
import Derived.Test.YtnppgldafhpchaaDoorDskR
import Derived.Test.YtnppgldafhpchaaDoorDskA
import Derived.Test.YtnppgldafhpchaaDoorDskC
import Derived.Test.YtnppgldafhpchaaDoorDskT
import Derived.Test.YtnppgldafhpchaaDoorAreaMath
import Derived.Test.YtnppgldafhpchaaDoorAreaA
import Derived.Test.YtnppgldafhpchaaDoorTcMathAreaF
import Derived.Test.YtnppgldafhpchaaDoorAreaSeen
import Derived.Test.YtnppgldafhpchaaDoorAreaRd
import Derived.Handy
import Derived.WalkSpells
import Derived.OwnWalk
import Derived.Deep.Cut
namespace Go.Proofs.YtnppgldafhpchaaDoor
open Go.RowKit Go.Lib
set_option linter.unusedVariables false
set_option maxRecDepth 20000

def usB (st en k : Nat) : Bool := (k == 0) || (decide (st ≤ k) && decide (k < en))
theorem usB_tc (ss : List ByteArray) (ps : List Pnd) (st en k : Nat) : tcT ss ps st en k = (!(usB st en k) && !(readB ss ps (k : Int)).toList.isEmpty) := by
  unfold tcT usB
  cases (k == 0) <;> cases (decide (st ≤ k) && decide (k < en)) <;> rfl
set_option maxHeartbeats 2000000 in
theorem l11Used_any (q1 : Option Addr) (c1 : Nat) (ss : List ByteArray) (q2 : Option Addr) (c2 : Nat) (ps : List Pnd) (k : Nat) (w : World) (h1 : TxtAt w q1 ss) (h2 : PndAt w q2 ps) (m1 : ss.length ≤ c1) (m2 : ps.length ≤ c2) (hc : arC ss ps = 0) (hk : k ≤ 64) :
    Calls Tryd.prog 12 #[.agg #[.slice q1 ss.length c1, .slice q2 ps.length c2], .int .i64 (k : Int)] w fun e w' => e = .returned (.bool (usB (tcS ss (seS (readB ss ps 0) (roomN ss))) (tcE ss (seS (readB ss ps 0) (roomN ss)) (seZ (readB ss ps 0) (roomN ss))) k)) ∧ Below w.heap.size w w' := by
  obtain ⟨W1, hW1⟩ : ∃ W1, W1 = w.alloc (.cells #[.slice q1 ss.length c1, .slice q2 ps.length c2] 30) := ⟨_, rfl⟩
  have HW1 : Hid (W1 = w.alloc (.cells #[.slice q1 ss.length c1, .slice q2 ps.length c2] 30)) := hW1
  have B1 : Hid (Below w.heap.size w W1) := by rw [hW1]; exact (Below.refl _ _).alloc (Nat.le_refl _) _
  have K1 : Hid (Bxs W1 w.heap.size 30 #[.slice q1 ss.length c1, .slice q2 ps.length c2]) := by rw [hW1]; exact Bxs.new _ _ _
  obtain ⟨hr, hsc, -⟩ := arC_ok hc
  have hSn := l06Seen_any q1 c1 ss q2 c2 ps W1 (h1.below B1.out) (h2.below B1.out) hr m1 m2
  obtain ⟨⟨p1, p2⟩, s1, z1, t1⟩ := ar_bd hc
  rw [hsc] at hSn
  have HF : Hid (∀ x, Calls Tryd.prog 23 #[.agg #[.slice q1 ss.length c1, .slice q2 ps.length c2], .int .i64 ((seS (readB ss ps 0) (roomN ss) : Nat) : Int)] x fun e w' => e = .returned (.int .i64 ((tcS ss (seS (readB ss ps 0) (roomN ss)) : Nat) : Int)) ∧ Below x.heap.size x w') := fun x => l06First_any q1 ss.length c1 q2 ps.length c2 (seS (readB ss ps 0) (roomN ss)) x p1 (by omega) s1
  have hen : tcE ss (seS (readB ss ps 0) (roomN ss)) (seZ (readB ss ps 0) (roomN ss)) = tcS ss (seS (readB ss ps 0) (roomN ss)) + (seZ (readB ss ps 0) (roomN ss) + 63) / 64 := rfl
  generalize tcE ss (seS (readB ss ps 0) (roomN ss)) (seZ (readB ss ps 0) (roomN ss)) = en at *
  generalize tcS ss (seS (readB ss ps 0) (roomN ss)) = st at *
  generalize seS (readB ss ps 0) (roomN ss) = S at *
  generalize seZ (readB ss ps 0) (roomN ss) = Z at *
  generalize seG (readB ss ps 0) (roomN ss) = G at *
  obtain ⟨N, hN⟩ : ∃ N, N = (Z + 63) / 64 := ⟨_, rfl⟩
  have hq : ((Z : Int) + 64 - 1).tdiv 64 = (N : Int) := by
    rw [Int.tdiv_eq_ediv_of_nonneg (by omega)]
    omega
  have hw1 : IntKind.i64.wrap ((Z : Int) + 64) = (Z : Int) + 64 := by rw [IntKind.wrap_i64]; omega
  have hw2 : IntKind.i64.wrap ((Z : Int) + 64 - 1) = (Z : Int) + 64 - 1 := by rw [IntKind.wrap_i64]; omega
  have hw3 : IntKind.i64.wrap (N : Int) = (N : Int) := by rw [IntKind.wrap_i64]; omega
  have hw4 : (st : Int) + (N : Int) = (en : Int) := by omega
  have hw5 : IntKind.i64.wrap (en : Int) = (en : Int) := by rw [IntKind.wrap_i64]; omega
  have x0 := K1.out.cell 0
  have x1 := K1.out.cell 1
  rw [HW1.out] at x0 x1
  have HBx : Hid (∀ x, Below W1.heap.size W1 x → x.cell? ⟨w.heap.size, 0, none⟩ = some (.slice q1 ss.length c1) ∧ x.cell? ⟨w.heap.size, 1, none⟩ = some (.slice q2 ps.length c2)) := fun x hb => ⟨(K1.out.below hb).cell 0, (K1.out.below hb).cell 1⟩
  clear hW1 h1 h2 hr hsc K1 hc p1 p2 s1 hN hen
  go_enter Tryd.func12, Tryd.ntmps12
  go_wp2_with fail
  rw [← HW1.out] at x0 x1 ⊢
  refine hSn.mono ?_
  rintro e y1 ⟨rfl, b1⟩
  have HB1 : Hid (Below W1.heap.size W1 y1) := b1
  clear x0 x1 hSn b1
  obtain ⟨x0, x1⟩ := HBx.out y1 HB1.out
  have hF := HF.out y1
  go_wp2_with fail
  refine hF.mono ?_
  rintro e y2 ⟨rfl, b2⟩
  have HE : Hid (Below w.heap.size w y2) := chainB (chainB B1.out HB1.out) b2
  clear x0 x1 hF b2 HF HBx HB1 HW1 B1
  by_cases h0 : k = 0
  · have e0 : ((k : Int) == 0) = true := by rw [h0]; rfl
    have HU : Hid (usB st en k = true) := by show _ = _; rw [h0]; rfl
    have d0 : (k : Int) = 0 := by omega
    clear h0
    go_wp2_with fail
    go_ret
    exact ⟨ret_bool (by rw [HU.out]), HE.out⟩
  · have e0 : ((k : Int) == 0) = false := by simp; omega
    have d0 : ¬ (k : Int) = 0 := by omega
    have HU0 : Hid (usB st en k = (decide (st ≤ k) && decide (k < en))) := by show _ = _; unfold usB; rw [show (k == 0) = false by simp; omega]; rfl
    clear h0
    by_cases d1 : (st : Int) ≤ k
    · have d1b : decide ((st : Int) ≤ (k : Int)) = true := decide_eq_true d1
      by_cases d2 : (k : Int) < en
      · have d2b : decide ((k : Int) < (en : Int)) = true := decide_eq_true d2
        have HU : Hid (usB st en k = true) := by show _ = _; rw [HU0.out]; simp; omega
        go_wp2_with fail
        go_ret
        exact ⟨ret_bool (by rw [HU.out]), HE.out⟩
      · have d2b : decide ((k : Int) < (en : Int)) = false := decide_eq_false d2
        have HU : Hid (usB st en k = false) := by show _ = _; rw [HU0.out]; simp; omega
        go_wp2_with fail
        go_ret
        exact ⟨ret_bool (by rw [HU.out]; exact decide_eq_false (by omega)), HE.out⟩
    · have d1b : decide ((st : Int) ≤ (k : Int)) = false := decide_eq_false d1
      have HU : Hid (usB st en k = false) := by show _ = _; rw [HU0.out]; simp; omega
      go_wp2_with fail
      go_ret
      exact ⟨ret_bool (by rw [HU.out]), HE.out⟩
theorem field_code (v1 v2 : Value) (t : ByteArray) (g c : Int) (a1 : Option Addr) (n1 k1 : Nat) (a2 : Option Addr) (n2 k2 : Nat) (x : World) : (Instr.field 37 (.agg #[.slice a1 n1 k1, .slice a2 n2 k2, .string t, .int .i64 g, .int .i64 c]) 3).run Tryd.prog x = .ok (.int .i64 c) x := by first | rfl | kernel_rfl
theorem field_data (t : ByteArray) (c : Int) (a1 : Option Addr) (n1 k1 : Nat) (a2 : Option Addr) (n2 k2 : Nat) (x : World) : (Instr.field 41 (.agg #[.slice a1 n1 k1, .slice a2 n2 k2, .string t, .int .i64 c]) 1).run Tryd.prog x = .ok (.string t) x := by first | rfl | kernel_rfl
set_option maxHeartbeats 4000000 in
theorem specTraces_any (q1 : Option Addr) (c1 : Nat) (ss : List ByteArray) (q2 : Option Addr) (c2 : Nat) (ps : List Pnd) (w : World) (h1 : TxtAt w q1 ss) (h2 : PndAt w q2 ps) (n1 : ss.length ≤ 1048576) (n2 : ps.length ≤ 1048576) (m1 : ss.length ≤ c1) (m2 : ps.length ≤ c2) :
    Calls Tryd.prog 5 #[.agg #[.slice q1 ss.length c1, .slice q2 ps.length c2]] w fun e w' => e = .returned (.int .i64 (tcO ss ps)) ∧ Below w.heap.size w w' := by
  obtain ⟨W1, hW1⟩ : ∃ W1, W1 = w.alloc (.cells #[.slice q1 ss.length c1, .slice q2 ps.length c2] 30) := ⟨_, rfl⟩
  have HW1 : Hid (W1 = w.alloc (.cells #[.slice q1 ss.length c1, .slice q2 ps.length c2] 30)) := hW1
  have B1 : Hid (Below w.heap.size w W1) := by rw [hW1]; exact (Below.refl _ _).alloc (Nat.le_refl _) _
  have K1 : Hid (Bxs W1 w.heap.size 30 #[.slice q1 ss.length c1, .slice q2 ps.length c2]) := by rw [hW1]; exact Bxs.new _ _ _
  have H1 : Hid (TxtAt W1 q1 ss) := h1.below B1.out
  have H2 : Hid (PndAt W1 q2 ps) := h2.below B1.out
  have hAR := specAreaRead_any q1 c1 ss q2 c2 ps W1 H1.out H2.out n1 n2 m1 m2
  have HNo : Hid (arC ss ps ≠ 0 → tcO ss ps = -1) := fun h => if_neg h
  have HBx : Hid (∀ x, Below W1.heap.size W1 x → x.cell? ⟨w.heap.size, 0, none⟩ = some (.slice q1 ss.length c1) ∧ x.cell? ⟨w.heap.size, 1, none⟩ = some (.slice q2 ps.length c2)) := fun x hb => ⟨(K1.out.below hb).cell 0, (K1.out.below hb).cell 1⟩
  have x0 := K1.out.cell 0
  have x1 := K1.out.cell 1
  rw [HW1.out] at x0 x1
  clear hW1 h1 h2 K1
  go_enter Tryd.func5, Tryd.ntmps5
  go_wp2_with fail
  rw [← HW1.out] at x0 x1 ⊢
  refine hAR.mono ?_
  rintro e y1 ⟨v1, v2, rfl, oA, b1⟩
  obtain ⟨o1, d1, hv1, -, -⟩ := ownS_form oA.own1
  obtain ⟨o2, d2, hv2, -, -⟩ := ownP_form oA.own2
  subst hv1 hv2
  have HB1 : Hid (Below W1.heap.size W1 y1) := b1
  clear x0 x1 hAR b1 oA
  have fc := fun x : World => field_code .nilIface .nilIface (arT ss ps) ((arG ss ps : Nat) : Int) (arC ss ps) o1 (arS ss ps).length d1 o2 (arP ss ps).length d2 x
  by_cases hc : arC ss ps = 0
  case neg =>
    have HN : Hid (tcO ss ps = -1) := HNo.out hc
    have HE : Hid (Below w.heap.size w y1) := chainB B1.out HB1.out
    have e0 : (arC ss ps != 0) = true := by simpa using hc
    have e0b : (arC ss ps == 0) = false := by simpa using hc
    generalize arC ss ps = C at *
    go_wp2_with fail
    go_ret
    exact ⟨ret_tc (by rw [HN.out]), HE.out⟩
  obtain ⟨⟨p1, p2⟩, s1, z1, t1⟩ := ar_bd hc
  have HUs : Hid (∀ x (k : Nat), Below W1.heap.size W1 x → k ≤ 64 → Calls Tryd.prog 12 #[.agg #[.slice q1 ss.length c1, .slice q2 ps.length c2], .int .i64 (k : Int)] x fun e w' => e = .returned (.bool (usB (tcS ss (seS (readB ss ps 0) (roomN ss))) (tcE ss (seS (readB ss ps 0) (roomN ss)) (seZ (readB ss ps 0) (roomN ss))) k)) ∧ Below x.heap.size x w') := fun x k hx hk => l11Used_any q1 c1 ss q2 c2 ps k x (H1.out.below hx) (H2.out.below hx) m1 m2 hc hk
  have HRd : Hid (∀ x (k : Nat), Below W1.heap.size W1 x → k < ss.length → Calls Tryd.prog 13 #[.agg #[.slice q1 ss.length c1, .slice q2 ps.length c2], .int .i64 (k : Int)] x fun e w' => ∃ a1 n1 k1 a2 n2 k2, e = .returned (.agg #[.slice a1 n1 k1, .slice a2 n2 k2, .string (readB ss ps (k : Int)), .int .i64 0]) ∧ Below x.heap.size x w') := fun x k hx hk => by
    refine (specDiskRead_any q1 c1 ss q2 c2 ps (k : Int) x (H1.out.below hx) (H2.out.below hx) n1 n2 m1 m2).mono ?_
    rintro e w' ⟨v1, v2, rfl, o, b⟩
    obtain ⟨o1, d1, hv1, -, -⟩ := ownS_form o.own1
    obtain ⟨o2, d2, hv2, -, -⟩ := ownP_form o.own2
    subst hv1 hv2
    have hz : rdC ss ps (k : Int) = 0 := by
      unfold rdC inB
      rw [if_pos (arC_ok hc).1, if_pos (by simp; omega)]
    have ht : rdT ss ps (k : Int) = readB ss ps (k : Int) := if_pos hz
    rw [hz, ht]
    exact ⟨_, _, _, _, _, _, rfl, b⟩
  obtain ⟨st, hst⟩ : ∃ st, st = tcS ss (seS (readB ss ps 0) (roomN ss)) := ⟨_, rfl⟩
  obtain ⟨en, hen⟩ : ∃ en, en = tcE ss (seS (readB ss ps 0) (roomN ss)) (seZ (readB ss ps 0) (roomN ss)) := ⟨_, rfl⟩
  rw [← hst, ← hen] at HUs
  have HO : Hid (tcO ss ps = ((tcN ss ps st en ss.length : Nat) : Int)) := by
    show _ = _
    unfold tcO
    rw [if_pos hc, ← hst, ← hen]
  have HE : Hid (∀ x, Below W1.heap.size W1 x → Below w.heap.size w x) := fun x hx => chainB B1.out hx
  rw [hc] at fc
  have hn64 : ss.length ≤ 64 := p2
  clear hst hen HNo H1 H2 s1 z1 t1 p1 p2
  generalize arT ss ps = AT at *
  generalize arG ss ps = AGn at *
  generalize (arS ss ps).length = AS at *
  generalize (arP ss ps).length = AP at *
  have hc2 := hc
  clear hc
  rw [hc2]
  go_wp2_with fail
  go_loopw [4, 3] (fun i v wr => ∃ (k : Nat), k ≤ ss.length ∧ i = .int .i64 (k : Int) ∧ v = .int .i64 ((tcN ss ps st en k : Nat) : Int) ∧ Hid (Below W1.heap.size W1 wr)) (fun i _ _ => ss.length - (intOf i).toNat)
  case atStart => exact ⟨0, Nat.zero_le _, rfl, rfl, HB1⟩
  case round =>
    obtain ⟨k, hk, rfl, rfl, HK⟩ := hrel
    obtain ⟨x0, x1⟩ := HBx.out wr HK.out
    by_cases hlt : k < ss.length
    · have i1 : (k : Int) < ss.length := by omega
      have hUs := HUs.out wr k HK.out (by omega)
      have HN : Hid (tcN ss ps st en (k + 1) = tcN ss ps st en k + (if tcT ss ps st en k = true then 1 else 0)) := rfl
      have HTk : Hid (tcT ss ps st en k = (!(usB st en k) && !(readB ss ps (k : Int)).toList.isEmpty)) := usB_tc ss ps st en k
      have HRk : Hid (∀ x, Below W1.heap.size W1 x → Calls Tryd.prog 13 #[.agg #[.slice q1 ss.length c1, .slice q2 ps.length c2], .int .i64 (k : Int)] x fun e w' => ∃ a1 n1 k1 a2 n2 k2, e = .returned (.agg #[.slice a1 n1 k1, .slice a2 n2 k2, .string (readB ss ps (k : Int)), .int .i64 0]) ∧ Below x.heap.size x w') := fun x hx => HRd.out x k hx hlt
      have hcn : tcN ss ps st en k ≤ 64 := by have := tcN_le ss ps st en k; omega
      generalize readB ss ps (k : Int) = R at *
      generalize usB st en k = U at *
      generalize tcN ss ps st en k = C at *
      go_wp2_with fail
      refine hUs.mono ?_
      rintro e y2 ⟨rfl, b2⟩
      have HB2 : Hid (Below W1.heap.size W1 y2) := chainB HK.out b2
      clear x0 x1 hUs b2
      obtain ⟨x0, x1⟩ := HBx.out y2 HB2.out
      cases U with
      | true =>
        have HT : Hid (tcN ss ps st en (k + 1) = C) := by show _ = _; rw [HN.out, HTk.out]; rfl
        go_wp2_with fail
        go_roundw
        case rel => exact ⟨k + 1, by omega, by go_num, by rw [HT.out], HB2⟩
        case measure => simp [intOf]; omega
      | false =>
        have hRk := HRk.out y2 HB2.out
        go_wp2_with fail
        refine hRk.mono ?_
        rintro e y3 ⟨a1, l1, k1, a2, l2, k2, rfl, b3⟩
        have HB3 : Hid (Below W1.heap.size W1 y3) := chainB HB2.out b3
        have fd := fun x : World => field_data R 0 a1 l1 k1 a2 l2 k2 x
        clear x0 x1 hRk b3
        cases hR : R.toList with
        | nil =>
          have HT : Hid (tcN ss ps st en (k + 1) = C) := by show _ = _; rw [HN.out, HTk.out, hR]; simp
          have hRe : R.toList.isEmpty = true := by rw [hR]; rfl
          have hRe2 : (R.toList == ([] : List UInt8)) = true := by rw [hR]; rfl
          go_wp2_with fail
          go_roundw
          case rel => exact ⟨k + 1, by omega, by go_num, by rw [HT.out], HB3⟩
          case measure => simp [intOf]; omega
        | cons z zs =>
          have HT : Hid (tcN ss ps st en (k + 1) = C + 1) := by show _ = _; rw [HN.out, HTk.out, hR]; rfl
          have hRe : R.toList.isEmpty = false := by rw [hR]; rfl
          have hRe2 : (R.toList == ([] : List UInt8)) = false := by rw [hR]; rfl
          have hRe3 : ¬ R.toList = [] := by rw [hR]; exact List.cons_ne_nil _ _
          clear hR
          go_wp2_with fail
          go_roundw
          case rel => exact ⟨k + 1, by omega, by go_num, by rw [HT.out]; go_num, HB3⟩
          case measure => simp [intOf]; omega
    · obtain rfl : k = ss.length := by omega
      have HEy := HE.out _ HK.out
      have HEz : Hid (Below w.heap.size w wr) := HEy
      clear HEy
      generalize tcN ss ps st en ss.length = C at *
      go_wp2_with fail
      go_ret
      exact ⟨ret_tc (by rw [HO.out]), HEz.out⟩
end Go.Proofs.YtnppgldafhpchaaDoor
