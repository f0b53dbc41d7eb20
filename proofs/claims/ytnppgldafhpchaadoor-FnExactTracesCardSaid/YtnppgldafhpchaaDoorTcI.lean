/-
  What the program's Traces answers.
-/
import Derived.Test.YtnppgldafhpchaaDoorRows
import Derived.Test.YtnppgldafhpchaaDoorBytes
import Derived.Test.YtnppgldafhpchaaDoorSlASlBOwnS
import Derived.Test.YtnppgldafhpchaaDoorBxK
import Derived.Test.YtnppgldafhpchaaDoorDskMath
import Derived.Test.YtnppgldafhpchaaDoorDskMap
import Derived.Test.YtnppgldafhpchaaDoorDskA
import Derived.Test.YtnppgldafhpchaaDoorLawD
import Derived.Test.YtnppgldafhpchaaDoorAreaMath
import Derived.Test.YtnppgldafhpchaaDoorAreaSeen
import Derived.Test.YtnppgldafhpchaaDoorRowOps
import Derived.Test.YtnppgldafhpchaaDoorImplAA
import Derived.Test.YtnppgldafhpchaaDoorImplDO
import Derived.Test.YtnppgldafhpchaaDoorCopiedImplDFErrI3
import Derived.Test.YtnppgldafhpchaaDoorSen3PutMath
import Derived.Test.YtnppgldafhpchaaDoorImplRH3
import Derived.Test.YtnppgldafhpchaaDoorImplRA3
import Derived.Test.YtnppgldafhpchaaDoorImplRZ3
import Derived.Test.YtnppgldafhpchaaDoorTcMathAreaF
import Derived.Handy
import Derived.WalkSpells
import Derived.OwnWalk
import Derived.Deep.Cut
namespace Go.Proofs.YtnppgldafhpchaaDoor
open Go.RowKit Go.Lib
set_option linter.unusedVariables false
set_option maxRecDepth 20000

theorem hmfT : ∀ (fn : Fn) (first cap : Array Value) (w : World), (Instr.makeFunc fn first cap).run Tryd.prog w = .ok (.func fn first cap) w := fun _ _ _ _ => rfl
theorem elT64 : ∃ i, ElT Tryd.prog 45 2 i (.int .i64 0) 1 8 :=
  elT_of Tryd.underlying45 (by kernel_rfl) (by kernel_rfl) (by omega) (by intro v hv; simp [Value.cells] at hv; subst hv; rfl)
/-- The traces so far, in a row of their own. -/
def TcR (W : World) (n : Nat) (v : Value) (x : World) : Prop := Below W.heap.size W x ∧ ∃ xs, x.ownsRow W.heap.size 2 1 v n xs
theorem TcR.below {W x y : World} {n : Nat} {v : Value} (h : TcR W n v x) (hb : Below x.heap.size x y) : TcR W n v y := by
  obtain ⟨h1, xs, h2⟩ := h
  exact ⟨chainB h1 hb, xs, ownS_below h2 hb⟩
theorem TcR.form {W x : World} {n : Nat} {v : Value} (h : TcR W n v x) : ∃ p c, v = .slice p n c := by
  obtain ⟨-, xs, h2⟩ := h
  rcases h2.2 with ⟨h0, h3⟩ | ⟨g, cap, cur, h3, _⟩
  · exact ⟨none, 0, by rw [h0, h3]⟩
  · exact ⟨_, _, h3⟩
theorem TcR.app {W x : World} {n : Nat} {v : Value} (h : TcR W n v x) (k : Int) (hn : n + 1 ≤ 1048576) :
    ∃ p c y, (Builtin.append_ #[45, 45] 45 #[v, .slice (some ⟨x.heap.size, 0, none⟩) 1 1]).run Tryd.prog (x.alloc (.cells #[.int .i64 k] 2)) = .ok (.slice p (n + 1) c) y ∧ TcR W (n + 1) (.slice p (n + 1) c) y := by
  obtain ⟨h1, xs, h2⟩ := h
  obtain ⟨i, E⟩ := elT64
  have hb : Below W.heap.size W (x.alloc (.cells #[.int .i64 k] 2)) := alB h1 _
  have hp : CelAt (x.alloc (.cells #[.int .i64 k] 2)) (some ⟨x.heap.size, 0, none⟩) [.int .i64 k] := fun j hj => ⟨x.heap.size, 0, rfl, by simp, by
    have hj1 : j < 1 := by simpa using hj
    rw [Nat.zero_add, (Bxs.new x 2 #[.int .i64 k]).cell j]
    match j, hj1 with
    | 0, _ => rfl⟩
  have own1 := h2.alloc (.cells #[.int .i64 k] 2)
  obtain ⟨v', y, k1, k2, k3, k4⟩ := app_cel E 45 _ W.heap.size v n xs own1 (some ⟨x.heap.size, 0, none⟩) 1 1 [.int .i64 k] hp (by simp) (by intro u hu; rw [List.mem_singleton.1 hu]; rfl) (by omega) (by unfold maxLen; omega) hb.size
  have hby : Below W.heap.size W y := hb.grown k3 hb.size (fun j hj => (own1.lt j hj).1)
  obtain ⟨p, c, rfl⟩ := TcR.form ⟨hby, _, k2⟩
  exact ⟨p, c, y, k1, hby, _, k2⟩
set_option maxHeartbeats 4000000 in
theorem traceSectors_any (q1 : Option Addr) (c1 : Nat) (ss : List ByteArray) (q2 : Option Addr) (c2 : Nat) (ps : List Pnd) (a1 a2 a3 a4 : Addr) (w : World) (h1 : TxtAt w q1 ss) (h2 : PndAt w q2 ps) (n1 : ss.length ≤ 1048576) (n2 : ps.length ≤ 1048576) (m1 : ss.length ≤ c1) (m2 : ps.length ≤ c2) (hS : Sents a1 a2 a3 a4 w) :
    Calls Tryd.prog 16 #[.agg #[.slice q1 ss.length c1, .slice q2 ps.length c2]] w fun e w' => (arC ss ps = 0 ∧ (∃ p n c, e = .returned (.tuple #[.slice p n c, .nilIface]) ∧ tcO ss ps = (n : Int)) ∨ arC ss ps ≠ 0 ∧ ∃ ty pp, e = .returned (.tuple #[.slice none 0 0, .iface ty pp])) ∧ Below w.heap.size w w' := by
  obtain ⟨W1, hW1⟩ : ∃ W1, W1 = w.alloc (.cells #[.slice q1 ss.length c1, .slice q2 ps.length c2] 30) := ⟨_, rfl⟩
  have HW1 : Hid (W1 = w.alloc (.cells #[.slice q1 ss.length c1, .slice q2 ps.length c2] 30)) := hW1
  have B1 : Hid (Below w.heap.size w W1) := by rw [hW1]; exact (Below.refl _ _).alloc (Nat.le_refl _) _
  have K1 : Hid (Bxs W1 w.heap.size 30 #[.slice q1 ss.length c1, .slice q2 ps.length c2]) := by rw [hW1]; exact Bxs.new _ _ _
  have H1 : Hid (TxtAt W1 q1 ss) := h1.below B1.out
  have H2 : Hid (PndAt W1 q2 ps) := h2.below B1.out
  have hRA := readAreaZ_any q1 c1 ss q2 c2 ps a1 a2 a3 a4 W1 H1.out H2.out n1 n2 m1 m2 (hS.below B1.out)
  have x0 := K1.out.cell 0
  have x1 := K1.out.cell 1
  clear hW1 h1 h2 hS
  go_enter Tryd.func16, Tryd.ntmps16
  go_upto_region 1 with fail
  rw [← HW1.out]
  go_wp2_with fail
  refine hRA.mono ?_
  rintro e y1 ⟨⟨G, S, Z, T, v, rfl, g0, g1⟩, b1⟩
  clear x0 x1 hRA
  by_cases hc : arC ss ps = 0
  case neg =>
    obtain ⟨ty, pp, rfl⟩ := (g1 hc).iface
    have HE : Hid (∀ o, Below w.heap.size w (y1.alloc o)) := fun o => alB (chainB B1.out b1) o
    have HP : Hid (arC ss ps ≠ 0) := hc
    clear g0 g1 b1 hc
    go_wp2_with fail
    go_ret2
    exact ⟨.inr ⟨HP.out, _, _, rfl⟩, HE.out _⟩
  obtain ⟨-, hSe, hZe, -, rfl⟩ := g0 hc
  obtain ⟨⟨p1, p2⟩, s1, z1, t1⟩ := ar_bd hc
  rw [← hSe] at s1 t1
  rw [← hZe] at z1
  obtain ⟨st, hst⟩ : ∃ st, st = tcS ss S := ⟨_, rfl⟩
  obtain ⟨en, hen⟩ : ∃ en, en = tcE ss S Z := ⟨_, rfl⟩
  have HO : Hid (∀ n : Nat, n = tcN ss ps st en ss.length → tcO ss ps = (n : Int)) := fun n h => by rw [h, hst, hen]; unfold tcO; rw [if_pos hc, hSe, hZe]
  have hen2 : en = st + (Z + 63) / 64 := by rw [hen, hst]; rfl
  rw [← hst] at t1
  obtain ⟨N, hN⟩ : ∃ N, N = (Z + 63) / 64 := ⟨_, rfl⟩
  have hq : ((Z : Int) + 64 - 1).tdiv 64 = (N : Int) := by
    rw [Int.tdiv_eq_ediv_of_nonneg (by omega)]
    omega
  have hw1 : IntKind.i64.wrap ((Z : Int) + 64) = (Z : Int) + 64 := by rw [IntKind.wrap_i64]; omega
  have hw2 : IntKind.i64.wrap ((Z : Int) + 64 - 1) = (Z : Int) + 64 - 1 := by rw [IntKind.wrap_i64]; omega
  have hw3 : IntKind.i64.wrap (N : Int) = (N : Int) := by rw [IntKind.wrap_i64]; omega
  have hw4 : (st : Int) + (N : Int) = (en : Int) := by omega
  have hw5 : IntKind.i64.wrap (en : Int) = (en : Int) := by rw [IntKind.wrap_i64]; omega
  have HST : Hid (∀ x, Calls Tryd.prog 30 #[.agg #[.slice q1 ss.length c1, .slice q2 ps.length c2], .int .i64 (S : Int)] x fun e w' => e = .returned (.int .i64 (st : Int)) ∧ Below x.heap.size x w') := fun x => by rw [hst]; exact sideStart_any q1 ss.length c1 q2 ps.length c2 S x p1 (by omega) s1
  obtain ⟨-, -, p4, p5⟩ := dskB_parts (arC_ok hc).1
  have HOp : Hid (∀ x, Below W1.heap.size W1 x → Calls Tryd.prog 31 #[.slice q1 ss.length c1, .slice q2 ps.length c2] x fun e w' => ∃ b D, e = .returned (.agg #[.slice q1 ss.length c1, .map (some b)]) ∧ Opn q1 ss b ps.length D ps w' ∧ Below x.heap.size x w') := fun x hx => by
    refine (openDisk_any q1 ss.length c1 q2 c2 ps ss.length x (H2.out.below hx) n2 m2 n1 p5).mono ?_
    rintro e w' ⟨b, D, rfl, hb, hm, hof, hbl⟩
    exact ⟨b, D, rfl, ⟨(H1.out.below hx).below hbl, hm, hof⟩, hbl⟩
  have HRd : Hid (∀ b D x (k : Nat), Opn q1 ss b ps.length D ps x → k < ss.length → Calls Tryd.prog 32 #[.agg #[.slice q1 ss.length c1, .map (some b)], .int .i64 (k : Int)] x fun e w' => e = .returned (.string (readB ss ps (k : Int))) ∧ Below x.heap.size x w') := fun b D x k hO hk => read_any q1 c1 ss b ps.length D ps k x hO.txt m1 p2 hO.map hO.of hk p4 p5
  have HC0 : Hid (arC ss ps = 0) := hc
  have HBx : Hid (∀ x, Below W1.heap.size W1 x → x.cell? ⟨w.heap.size, 0, none⟩ = some (.slice q1 ss.length c1) ∧ x.cell? ⟨w.heap.size, 1, none⟩ = some (.slice q2 ps.length c2)) := fun x hb => ⟨(K1.out.below hb).cell 0, (K1.out.below hb).cell 1⟩
  obtain ⟨W2, hW2⟩ : ∃ W2, W2 = y1.alloc (.cells #[.int .i64 (G : Int), .int .i64 (S : Int), .int .i64 (Z : Int)] 68) := ⟨_, rfl⟩
  have HW2 : Hid (W2 = y1.alloc (.cells #[.int .i64 (G : Int), .int .i64 (S : Int), .int .i64 (Z : Int)] 68)) := hW2
  have HB2 : Hid (Below W1.heap.size W1 W2) := by rw [hW2]; exact alB b1 _
  have K2 : Hid (Bxs W2 y1.heap.size 68 #[.int .i64 (G : Int), .int .i64 (S : Int), .int .i64 (Z : Int)]) := by rw [hW2]; exact Bxs.new _ _ _
  obtain ⟨x0, x1⟩ := HBx.out W2 HB2.out
  have u1 := K2.out.cell 1
  rw [hW2] at x0 x1 u1
  have hSt := HST.out W2
  have hnn : ss.length ≤ 64 := p2
  clear hW2 g0 g1 b1 hc hSe hZe hst hen p4 p5 H1 H2 K1 s1 p2 hN hen2
  go_wp2_with fail
  rw [← HW2.out] at x0 x1 u1 ⊢
  refine hSt.mono ?_
  rintro e y2 ⟨rfl, b2⟩
  have HB3 : Hid (Below W1.heap.size W1 y2) := chainB HB2.out b2
  have u2 := (K2.out.below b2).cell 2
  clear x0 x1 u1 hSt b2
  obtain ⟨x0, x1⟩ := HBx.out y2 HB3.out
  have hOp := HOp.out y2 HB3.out
  go_wp2_with fail
  refine hOp.mono ?_
  rintro e y3 ⟨b, D, rfl, hO, b3⟩
  have HO3 : Hid (Opn q1 ss b ps.length D ps y3) := hO
  have HB4 : Hid (Below W1.heap.size W1 y3) := chainB HB3.out b3
  clear x0 x1 u2 hOp hO b3 HOp HST HB3
  obtain ⟨x0, x1⟩ := HBx.out y3 HB4.out
  have hmf := hmfT
  go_wp2_with fail
  have HR0 : Hid (TcR y3 0 (.slice none 0 0) y3) := ⟨Below.refl _ _, [], World.ownsRow_nil _ _ _ _⟩
  have HRd2 : Hid (∀ x (k : Nat), Below y3.heap.size y3 x → k < ss.length → Calls Tryd.prog 32 #[.agg #[.slice q1 ss.length c1, .map (some b)], .int .i64 (k : Int)] x fun e w' => e = .returned (.string (readB ss ps (k : Int))) ∧ Below x.heap.size x w') := fun x k hx hk => HRd.out b D x k (HO3.out.below hx) hk
  have HEn : Hid (∀ n v x, TcR y3 n v x → Below w.heap.size w x) := fun n v x h => chainB (chainB B1.out HB4.out) h.1
  clear x0 x1 HRd HO3 HBx HB2 K2 HW2
  go_loopw [42, 10] (fun i v wr => ∃ (k : Nat), k ≤ ss.length ∧ i = .int .i64 (k : Int) ∧ (∃ p c, v = .slice p (tcN ss ps st en k) c) ∧ Hid (TcR y3 (tcN ss ps st en k) v wr)) (fun i _ _ => ss.length - (intOf i).toNat)
  case atStart => exact ⟨0, Nat.zero_le _, rfl, ⟨_, _, rfl⟩, HR0⟩
  case round =>
    obtain ⟨k, hk, rfl, ⟨p, c, rfl⟩, HK⟩ := hrel
    by_cases hlt : k < ss.length
    · have i1 : (k : Int) < ss.length := by omega
      have hRd := HRd2.out wr k HK.out.1 hlt
      have HN : Hid (tcN ss ps st en (k + 1) = tcN ss ps st en k + (if tcT ss ps st en k = true then 1 else 0)) := rfl
      have HTk : Hid (tcT ss ps st en k = (!(k == 0) && (!(decide (st ≤ k) && decide (k < en)) && !(readB ss ps (k : Int)).toList.isEmpty))) := rfl
      have hcn : tcN ss ps st en k ≤ 64 := by have := tcN_le ss ps st en k; omega
      generalize readB ss ps (k : Int) = R at *
      generalize tcN ss ps st en k = C at *
      by_cases h0 : k = 0
      case pos =>
        have e0 : ((k : Int) != 0) = false := by rw [h0]; rfl
        have e0b : ((k : Int) == 0) = true := by rw [h0]; rfl
        have HT : Hid (tcN ss ps st en (k + 1) = C) := by show _ = _; rw [HN.out, HTk.out, h0]; rfl
        clear hRd h0
        by_cases d1 : (st : Int) ≤ k
        · have d1b : decide ((st : Int) ≤ (k : Int)) = true := decide_eq_true d1
          by_cases d2 : (k : Int) < en
          · have d2b : decide ((k : Int) < (en : Int)) = true := decide_eq_true d2
            go_wp2_with fail
            go_roundw
            case rel => exact ⟨k + 1, by omega, by go_num, ⟨p, c, by rw [HT.out]⟩, by rw [HT.out]; exact HK⟩
            case measure => simp [intOf]; omega
          · have d2b : decide ((k : Int) < (en : Int)) = false := decide_eq_false d2
            go_wp2_with fail
            go_roundw
            case rel => exact ⟨k + 1, by omega, by go_num, ⟨p, c, by rw [HT.out]⟩, by rw [HT.out]; exact HK⟩
            case measure => simp [intOf]; omega
        · have d1b : decide ((st : Int) ≤ (k : Int)) = false := decide_eq_false d1
          go_wp2_with fail
          go_roundw
          case rel => exact ⟨k + 1, by omega, by go_num, ⟨p, c, by rw [HT.out]⟩, by rw [HT.out]; exact HK⟩
          case measure => simp [intOf]; omega
      case neg =>
        have e0 : ((k : Int) != 0) = true := by simp; omega
        have e0b : ((k : Int) == 0) = false := by simp; omega
        have e00 : (k == 0) = false := by simp; omega
        by_cases hin : (decide (st ≤ k) && decide (k < en)) = true
        · have HT : Hid (tcN ss ps st en (k + 1) = C) := by show _ = _; rw [HN.out, HTk.out, hin]; simp
          obtain ⟨q1', q2'⟩ : st ≤ k ∧ k < en := by simpa using hin
          have d1b : decide ((st : Int) ≤ (k : Int)) = true := decide_eq_true (by omega)
          have d2b : decide ((k : Int) < (en : Int)) = true := decide_eq_true (by omega)
          have d1c : (st : Int) ≤ (k : Int) := by omega
          have d2c : (k : Int) < (en : Int) := by omega
          clear hRd hin
          go_wp2_with fail
          go_roundw
          case rel => exact ⟨k + 1, by omega, by go_num, ⟨p, c, by rw [HT.out]⟩, by rw [HT.out]; exact HK⟩
          case measure => simp [intOf]; omega
        · have hin2 : (decide (st ≤ k) && decide (k < en)) = false := by simpa using hin
          cases hR : R.toList with
          | nil =>
            have HT : Hid (tcN ss ps st en (k + 1) = C) := by show _ = _; rw [HN.out, HTk.out, hR]; simp
            have HRr : Hid (∀ y, Below wr.heap.size wr y → TcR y3 C (.slice p C c) y) := fun y hy => HK.out.below hy
            have HR0 : Hid (R.toList = []) := hR
            have hRe : R.toList.isEmpty = true := by rw [hR]; rfl
            have hRe2 : (R.toList == ([] : List UInt8)) = true := by rw [hR]; rfl
            by_cases d1 : (st : Int) ≤ k
            · have d1b : decide ((st : Int) ≤ (k : Int)) = true := decide_eq_true d1
              have d2 : ¬ (k : Int) < en := fun d2 => by apply hin; simp; omega
              have d2b : decide ((k : Int) < (en : Int)) = false := decide_eq_false d2
              go_wp2_with fail
              refine hRd.mono ?_
              rintro e y4 ⟨rfl, b4⟩
              have HR4 := HRr.out y4 b4
              have HR5 : Hid (TcR y3 C (.slice p C c) y4) := HR4
              clear HR4 b4 hRd
              go_wp2_with fail
              go_roundw
              case rel => exact ⟨k + 1, by omega, by go_num, ⟨p, c, by rw [HT.out]⟩, by rw [HT.out]; exact HR5⟩
              case measure => simp [intOf]; omega
            · have d1b : decide ((st : Int) ≤ (k : Int)) = false := decide_eq_false d1
              go_wp2_with fail
              refine hRd.mono ?_
              rintro e y4 ⟨rfl, b4⟩
              have HR4 := HRr.out y4 b4
              have HR5 : Hid (TcR y3 C (.slice p C c) y4) := HR4
              clear HR4 b4 hRd
              go_wp2_with fail
              go_roundw
              case rel => exact ⟨k + 1, by omega, by go_num, ⟨p, c, by rw [HT.out]⟩, by rw [HT.out]; exact HR5⟩
              case measure => simp [intOf]; omega
          | cons z zs =>
            have HT : Hid (tcN ss ps st en (k + 1) = C + 1) := by show _ = _; rw [HN.out, HTk.out, hR, hin2, e00]; rfl
            have hRe : R.toList.isEmpty = false := by rw [hR]; rfl
            have hRe2 : (R.toList == ([] : List UInt8)) = false := by rw [hR]; rfl
            have hRe3 : ¬ R.toList = [] := by rw [hR]; exact List.cons_ne_nil _ _
            clear hR
            by_cases d1 : (st : Int) ≤ k
            · have d1b : decide ((st : Int) ≤ (k : Int)) = true := decide_eq_true d1
              have d2 : ¬ (k : Int) < en := fun d2 => by apply hin; simp; omega
              have d2b : decide ((k : Int) < (en : Int)) = false := decide_eq_false d2
              go_wp2_with fail
              refine hRd.mono ?_
              rintro e y4 ⟨rfl, b4⟩
              obtain ⟨p', c', y5, hrun, hT5⟩ := (HK.out.below b4).app (k : Int) (by omega)
              have HR5 : Hid (TcR y3 (C + 1) (.slice p' (C + 1) c') y5) := hT5
              clear b4 hRd hT5
              go_wp2_with (at_builtin; refine wpList_app rfl _ _ 45 45 rfl (.slice p C c) (.slice (some ⟨y4.heap.size, 0, none⟩) 1 1) _ _ rfl rfl hrun ?_)
              go_roundw
              case rel => exact ⟨k + 1, by omega, by go_num, ⟨p', c', by rw [HT.out]⟩, by rw [HT.out]; exact HR5⟩
              case measure => simp [intOf]; omega
            · have d1b : decide ((st : Int) ≤ (k : Int)) = false := decide_eq_false d1
              go_wp2_with fail
              refine hRd.mono ?_
              rintro e y4 ⟨rfl, b4⟩
              obtain ⟨p', c', y5, hrun, hT5⟩ := (HK.out.below b4).app (k : Int) (by omega)
              have HR5 : Hid (TcR y3 (C + 1) (.slice p' (C + 1) c') y5) := hT5
              clear b4 hRd hT5
              go_wp2_with (at_builtin; refine wpList_app rfl _ _ 45 45 rfl (.slice p C c) (.slice (some ⟨y4.heap.size, 0, none⟩) 1 1) _ _ rfl rfl hrun ?_)
              go_roundw
              case rel => exact ⟨k + 1, by omega, by go_num, ⟨p', c', by rw [HT.out]⟩, by rw [HT.out]; exact HR5⟩
              case measure => simp [intOf]; omega
    · obtain rfl : k = ss.length := by omega
      have HEx := HEn.out _ _ _ HK.out
      have HEy : Hid (Below w.heap.size w wr) := HEx
      have HOn : Hid (tcO ss ps = ((tcN ss ps st en ss.length : Nat) : Int)) := HO.out _ rfl
      clear HEx
      generalize tcN ss ps st en ss.length = C at *
      go_wp2_with fail
      go_ret2
      exact ⟨.inl ⟨HC0.out, _, _, _, rfl, HOn.out⟩, HEy.out⟩
set_option maxHeartbeats 1000000 in
theorem implTraces_any (q1 : Option Addr) (c1 : Nat) (ss : List ByteArray) (q2 : Option Addr) (c2 : Nat) (ps : List Pnd) (a1 a2 a3 a4 : Addr) (w : World) (h1 : TxtAt w q1 ss) (h2 : PndAt w q2 ps) (n1 : ss.length ≤ 1048576) (n2 : ps.length ≤ 1048576) (m1 : ss.length ≤ c1) (m2 : ps.length ≤ c2) (hS : Sents a1 a2 a3 a4 w) :
    Calls Tryd.prog 7 #[.agg #[.slice q1 ss.length c1, .slice q2 ps.length c2]] w fun e w' => e = .returned (.int .i64 (tcO ss ps)) ∧ Below w.heap.size w w' := by
  obtain ⟨W1, hW1⟩ : ∃ W1, W1 = w.alloc (.cells #[.slice q1 ss.length c1, .slice q2 ps.length c2] 30) := ⟨_, rfl⟩
  have HW1 : Hid (W1 = w.alloc (.cells #[.slice q1 ss.length c1, .slice q2 ps.length c2] 30)) := hW1
  have B1 : Hid (Below w.heap.size w W1) := by rw [hW1]; exact (Below.refl _ _).alloc (Nat.le_refl _) _
  have hT := traceSectors_any q1 c1 ss q2 c2 ps a1 a2 a3 a4 W1 (h1.below B1.out) (h2.below B1.out) n1 n2 m1 m2 (hS.below B1.out)
  have HNo : Hid (arC ss ps ≠ 0 → tcO ss ps = -1) := fun h => if_neg h
  clear hW1 h1 h2 hS
  go_enter Tryd.func7, Tryd.ntmps7
  go_wp2_with fail
  rw [← HW1.out]
  refine hT.mono ?_
  rintro e y ⟨hr, b⟩
  have HE : Hid (Below w.heap.size w y) := chainB B1.out b
  clear hT b
  rcases hr with ⟨hc, p, n, c, rfl, hn⟩ | ⟨hc, ty, pp, rfl⟩
  · have HN : Hid (tcO ss ps = (n : Int)) := hn
    clear hn hc
    go_wp2_with fail
    go_ret
    exact ⟨ret_tc (by rw [HN.out]), HE.out⟩
  · have HN : Hid (tcO ss ps = -1) := HNo.out hc
    clear hc
    go_wp2_with fail
    go_ret
    exact ⟨ret_tc (by rw [HN.out]), HE.out⟩
end Go.Proofs.YtnppgldafhpchaaDoor
