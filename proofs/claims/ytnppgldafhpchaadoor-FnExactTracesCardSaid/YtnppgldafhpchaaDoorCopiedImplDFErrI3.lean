/-
  Parts of one proof, laid as one text: Copied, ImplDF, ErrI3; what each says stands at its head.
-/
import Derived.Test.YtnppgldafhpchaaDoorRows
import Derived.Test.YtnppgldafhpchaaDoorBytes
import Derived.Test.YtnppgldafhpchaaDoorJoined
import Derived.Test.YtnppgldafhpchaaDoorSlASlBOwnS
import Derived.Handy
import Derived.OwnWalk
import Derived.Deep.AppendLies
import Derived.Test.YtnppgldafhpchaaDoorOwnB
import Derived.Test.YtnppgldafhpchaaDoorDskMath
import Derived.Test.YtnppgldafhpchaaDoorDskT
import Derived.Test.YtnppgldafhpchaaDoorDskWDskFIntKDskK
import Derived.Test.YtnppgldafhpchaaDoorLawD
import Derived.Test.YtnppgldafhpchaaDoorDskMap
import Derived.Test.YtnppgldafhpchaaDoorImplDO
import Derived.WalkSpells
import Derived.Laws.OwnMore
import Derived.Maps.RangeWalk
import Derived.Deep.RegionWith
import Derived.Test.YtnppgldafhpchaaDoorAreaMath
import Derived.Test.YtnppgldafhpchaaDoorSen3PutMath
/-
  The program's copied: the same texts, in new memory of their own.
  Conditions: the slice's cells hold the texts, each of at most 2^20 bytes, at most 2^20 of them.
-/
namespace Go.Proofs.YtnppgldafhpchaaDoor
open Go.RowKit Go.Lib
set_option linter.unusedVariables false
set_option maxRecDepth 20000

end Go.Proofs.YtnppgldafhpchaaDoor
/-
  What the program's read, flush and flushed do on a disk at work: of each place the last that is pending there, whatever the order in which the map is gone through.
  Conditions: the disk is right: at most 64 sectors, nothing greater than 64 bytes, each place one of the disk's.
-/
namespace Go.Proofs.YtnppgldafhpchaaDoor
open Go.RowKit Go.Lib Go.Maps
set_option linter.unusedVariables false
set_option maxRecDepth 20000

theorem grown_below {w w' : World} (h : Below w.heap.size w w') : w.grownBy w' none := ⟨h.os, h.tape, h.output, h.size, fun k hk _ => h.block k hk⟩
set_option maxHeartbeats 2000000 in
theorem read_any (q1 : Option Addr) (c1 : Nat) (ss : List ByteArray) (M n : Nat) (D : DataW Pnd) (ps : List Pnd) (A : Nat) (w : World) (h1 : TxtAt w q1 ss) (m1 : ss.length ≤ c1) (n1 : ss.length ≤ 64) (hO : w.ownsMap Tryd.prog 2 pndElem M n D) (hD : MapOf D ps) (hA : A < ss.length) (h4 : ∀ x ∈ ss, x.size ≤ 64) (h5 : ∀ p ∈ ps, pndOk ss.length p) :
    Calls Tryd.prog 32 #[.agg #[.slice q1 ss.length c1, .map (some M)], .int .i64 (A : Int)] w fun e w' => e = .returned (.string (readB ss ps (A : Int))) ∧ Below w.heap.size w w' := by
  obtain ⟨W1, hW1⟩ : ∃ W1, W1 = w.alloc (.cells #[.slice q1 ss.length c1, .map (some M)] 74) := ⟨_, rfl⟩
  have HW1 : Hid (W1 = w.alloc (.cells #[.slice q1 ss.length c1, .map (some M)] 74)) := hW1
  have B1 : Below w.heap.size w W1 := by rw [hW1]; exact (Below.refl _ _).alloc (Nat.le_refl _) _
  have K1 : Bxs W1 w.heap.size 74 #[.slice q1 ss.length c1, .map (some M)] := by rw [hW1]; exact Bxs.new _ _ _
  have O1 : W1.ownsMap Tryd.prog 2 pndElem M n D := by rw [hW1]; exact hO.alloc _
  have hw : (Lit.int .i64 (A : Int)).wf = true := WalkArith.wf_i64 (by omega)
  have hRd : readB ss ps (A : Int) = match lastP (A : Int) ps with | some p => p.2 | none => secAt ss (A : Int) := readTo_last _ _ _
  have hi : (A : Int) < ss.length := by omega
  cases hl : lastP (A : Int) ps with
  | some p =>
    obtain ⟨hmem, -⟩ := lastP_at hl
    have hsz := (h5 p hmem).2
    obtain ⟨g1, g2⟩ := hD.yes _ p hl
    rw [hl] at hRd
    obtain ⟨P1, P2⟩ := p
    have hRd : readB ss ps (A : Int) = P2 := hRd
    have hsz : P2.size ≤ 64 := hsz
    rw [hRd]
    obtain ⟨W2, hW2⟩ : ∃ W2, W2 = W1.alloc (.cells #[.int .i64 P1, .string P2] 65) := ⟨_, rfl⟩
    have HW2 : Hid (W2 = W1.alloc (.cells #[.int .i64 P1, .string P2] 65)) := hW2
    have B2 : Below w.heap.size w W2 := by rw [hW2]; exact B1.alloc B1.size _
    have K2 : Bxs W2 W1.heap.size 65 #[.int .i64 P1, .string P2] := by rw [hW2]; exact Bxs.new _ _ _
    have c0 := K1.cell 1
    have hj := joined_one P2 W2 (by omega)
    have s1 : W1.heap.size = w.heap.size + 1 := by rw [hW1]; simp
    have s2 : W2.heap.size = w.heap.size + 2 := by rw [hW2]; simp [s1]
    rw [s2] at hj
    have e0 := g2 (.held (0, ByteArray.empty))
    have k2 := K2.cell 1
    rw [s1] at k2
    rw [hW2, HW1.out] at k2
    rw [HW1.out] at c0 O1
    rw [hW1] at HW2
    clear hl hRd hD hmem h4 h5 h1 hO K1 K2 g2
    go_enter Tryd.func32, Tryd.ntmps32
    go_wp2_with (first
      | (at_lookup; refine wpList_lookup_pnd _ rfl _ _ 72 rfl 2 65 keyedI Tryd.underlying72 (zeroPnd _) M n D rfl O1 _ _ rfl (keyOf_int_mk Tryd.underlying2 hw) P1 P2 true e0 g1 ?_))
    rw [← HW2.out]
    refine hj.mono ?_
    rintro e w3 ⟨rfl, b3⟩
    rw [← s2] at b3
    have b3 := chainB B2 b3
    go_wp2_with fail
    go_ret
    exact ⟨rfl, b3⟩
  | none =>
    have g1 := hD.no _ hl
    have e0 := atKey_of_not_has g1 (.held (0, ByteArray.empty))
    rw [hl] at hRd
    have hSec : secAt ss (A : Int) = ss[A] := by show ss.getD _ _ = _; simp [List.getD_eq_getElem?_getD, hA]
    have hRd : readB ss ps (A : Int) = ss[A] := hRd.trans hSec
    have hsz := h4 ss[A] (List.getElem_mem hA)
    rw [hRd]
    obtain ⟨W2, hW2⟩ : ∃ W2, W2 = W1.alloc (.cells #[.int .i64 0, .string ByteArray.empty] 65) := ⟨_, rfl⟩
    have HW2 : Hid (W2 = W1.alloc (.cells #[.int .i64 0, .string ByteArray.empty] 65)) := hW2
    have b12 : Below W1.heap.size W1 W2 := by rw [hW2]; exact (Below.refl _ _).alloc (Nat.le_refl _) _
    have B2 : Below w.heap.size w W2 := chainB B1 b12
    obtain ⟨b, off, rfl, hb, hc⟩ := (h1.below B2) A hA
    have c0 := K1.cell 1
    have c2 := (K1.below b12).cell 0
    have hj := joined_one ss[A] W2 (by omega)
    have s1 : W1.heap.size = w.heap.size + 1 := by rw [hW1]; simp
    have s2 : W2.heap.size = w.heap.size + 2 := by rw [hW2]; simp [s1]
    rw [s2] at hj
    generalize ss[A] = T at *
    rw [hW2, HW1.out] at c2 hc
    rw [HW1.out] at c0 O1
    rw [hW1] at HW2
    clear hl hRd hD h4 h5 h1 hO K1 hSec
    go_enter Tryd.func32, Tryd.ntmps32
    go_wp2_with (first
      | (at_lookup; refine wpList_lookup_pnd _ rfl _ _ 72 rfl 2 65 keyedI Tryd.underlying72 (zeroPnd _) M n D rfl O1 _ _ rfl (keyOf_int_mk Tryd.underlying2 hw) 0 ByteArray.empty false e0 g1 ?_))
    rw [← HW2.out]
    refine hj.mono ?_
    rintro e w3 ⟨rfl, b3⟩
    rw [← s2] at b3
    have b3 := chainB B2 b3
    go_wp2_with fail
    go_ret
    exact ⟨rfl, b3⟩

/-- The step of a range over such a map, whose places are all below N. -/
theorem wpList_next_pnd {P : Program} (w : World) {ops : Array Oper} {rest : List Oper} {o : Oper} {a : Act} {Q : Exit → Act → World → Prop} (hg : o.guard = none) (it : Operand) (hop : o.op = Op.next it false) (k : TypeId) (K : Keyed P k) (hk : P.underlying k = some (.int .i64))
    (b r n : Nat) (D : DataW Pnd) (left : Lit → Bool) (cnt : Nat) (hit : a.eval it = .pointer (some ⟨r, 0, none⟩)) (h : w.ranges P k pndElem b r n D left cnt) (N : Nat) (hin : ∀ x, left (.int .i64 x) = true → ∃ A : Nat, A < N ∧ x = (A : Int))
    (hDone : (∀ kl, left kl = false) → wpList P ops Q rest (a.put o.dst (.tuple #[.bool false])) w)
    (hMore : ∀ (A : Nat) (x : Int) (Dt : ByteArray) (w' : World) (cnt' : Nat), A < N → left (.int .i64 (A : Int)) = true → (∀ zd, D.atKey (.int .i64 (A : Int)) zd = .held (x, Dt)) → w'.ranges P k pndElem b r n D (fun z => left z && !z.sameKey (.int .i64 (A : Int))) cnt' → cnt' < cnt →
      w.grownBy w' (some r) → w'.heap.size = w.heap.size → (Instr.entry (.pointer (some ⟨r, 0, none⟩))).run P w' = .ok (.tuple #[.int .i64 (A : Int), .agg #[.int .i64 x, .string Dt]]) w' → wpList P ops Q rest (a.put o.dst (.tuple #[.bool true, .int .i64 (A : Int), .agg #[.int .i64 x, .string Dt]])) w') :
    wpList P ops Q (o :: rest) a w :=
  wpList_next_ranges w hg it hop k K pndElem (Value.int .i64) (fun p : Pnd => .agg #[.int .i64 p.1, .string p.2]) (fun key kl hkey => by obtain ⟨x, rfl, _⟩ := keyOf_int_inv hk hkey; exact ⟨x, rfl⟩) (fun v y hv => by obtain ⟨c, rfl, _⟩ := pndElem_inv hv; exact ⟨c, rfl⟩)
    b r n D left cnt hit h (fun _ h0 => hDone h0) (fun x c kl y w' cnt' hkey hlk hv hat hrg hlt hgr hsz hen => by
      obtain ⟨x', ex, rfl, hwx⟩ := keyOf_int_inv hk hkey
      cases ex
      obtain ⟨c', ec, rfl⟩ := pndElem_inv hv
      simp only [Value.agg.injEq, Array.mk.injEq, List.cons.injEq, Value.int.injEq, Value.string.injEq, true_and, and_true] at ec
      obtain ⟨A, hA, rfl⟩ := hin x hlk
      obtain ⟨c1, c2⟩ := c
      obtain ⟨d1, d2⟩ := c'
      obtain ⟨e1, e2⟩ := ec
      have e1 : c1 = d1 := e1
      have e2 : c2 = d2 := e2
      subst e1 e2
      exact hMore A c1 c2 w' cnt' hA hlk hat hrg hlt hgr hsz hen)
end Go.Proofs.YtnppgldafhpchaaDoor
/-
  An error and the code that the program's areaCode makes of it; what readArea answers, as a plain statement.
-/
namespace Go.Proofs.YtnppgldafhpchaaDoor
open Go.RowKit Go.Lib
set_option linter.unusedVariables false

/-- An error that areaCode turns into this code. -/
def ErrIs (a1 a2 a3 a4 : Addr) (v : Value) (c : Int) : Prop :=
  (v = .iface 107 (.pointer (some a1)) ∧ c = 1) ∨ (v = .iface 107 (.pointer (some a2)) ∧ c = 3) ∨ (v = .iface 107 (.pointer (some a3)) ∧ c = 5) ∨ (v = .iface 107 (.pointer (some a4)) ∧ c = 9) ∨ v = errV c
theorem ErrIs.iface {a1 a2 a3 a4 : Addr} {v : Value} {c : Int} (h : ErrIs a1 a2 a3 a4 v c) : ∃ ty p, v = .iface ty p := by
  rcases h with ⟨rfl, -⟩ | ⟨rfl, -⟩ | ⟨rfl, -⟩ | ⟨rfl, -⟩ | rfl
  all_goals exact ⟨_, _, rfl⟩
/-- What readArea answers. -/
def RaP (ss : List ByteArray) (ps : List Pnd) (a1 a2 a3 a4 : Addr) (e : Ending) : Prop :=
  ∃ (G S Z : Nat) (T : ByteArray) (v : Value), e = .returned (.tuple #[.agg #[.int .i64 (G : Int), .int .i64 (S : Int), .int .i64 (Z : Int)], .string T, v]) ∧ (arC ss ps = 0 → G = arG ss ps ∧ S = seS (readB ss ps 0) (roomN ss) ∧ T = arT ss ps ∧ v = .nilIface) ∧ (arC ss ps ≠ 0 → ErrIs a1 a2 a3 a4 v (arC ss ps))
end Go.Proofs.YtnppgldafhpchaaDoor
