/-
  Rules and policies that came in: what the opened data of a law's parameter says of the cells.
-/
import Derived.Test.YteehhpmmnpajmaaRows
import Derived.Test.YteehhpmmnpajmaaBytes
import Derived.Test.YteehhpmmnpajmaaSlA
import Derived.Test.YteehhpmmnpajmaaRulMath
import Derived.Test.YteehhpmmnpajmaaPolMath
import Derived.Test.YteehhpmmnpajmaaIntK
import Derived.WalkKit
import Derived.ProofKit
import Derived.OpenShut
import Derived.Deep.Slices
import Derived.ChangeSame
import Derived.ChangeSlices
namespace Go.Proofs.Yteehhpmmnpajmaa
open Go.ChangeShapes Go.WideShapes Go.ChangeAt Go.RowKit Go.Deep
set_option linter.unusedVariables false
set_option maxRecDepth 100000

instance : Inhabited Rul := ⟨⟨ByteArray.empty, ByteArray.empty, 0, 0⟩⟩
def RulLe (f : Rul) : Prop := f.k.size ≤ maxLen ∧ f.f.size ≤ maxLen
theorem rul_of {H : Type} {enc : TypeId × Value → H} {W : World} {base fuel : Nat} {cs : List Value} {x : DataW H × List MemPlace}
    (h : DataW.trod enc Try.prog W base (fun _ => true) true fuel 50 cs = some x) : ∃ f : Rul, cs = [.string f.k, .string f.f, .int .i64 f.l, .int .i64 f.m] ∧ RulLe f := by
  obtain ⟨xs, n, hk, hxy, hl, hxl, hf⟩ := DataW.trod_struct Try.underlying50 h
  have hl : cs.length = 4 := hl.trans (by kernel_rfl)
  have e0 : Try.prog.cellsOf 9 = 1 := by kernel_rfl
  have e1 : Try.prog.cellsOf 2 = 1 := by kernel_rfl
  have g0 : DataW.trod enc Try.prog W base (fun _ => true) true n 9 ((cs.drop 0).take (Try.prog.cellsOf 9)) = xs[0]? := hf 0 _ rfl
  have g1 : DataW.trod enc Try.prog W base (fun _ => true) true n 9 ((cs.drop 1).take (Try.prog.cellsOf 9)) = xs[1]? := hf 1 _ rfl
  have g2 : DataW.trod enc Try.prog W base (fun _ => true) true n 2 ((cs.drop 2).take (Try.prog.cellsOf 2)) = xs[2]? := hf 2 _ rfl
  have g3 : DataW.trod enc Try.prog W base (fun _ => true) true n 2 ((cs.drop 3).take (Try.prog.cellsOf 2)) = xs[3]? := hf 3 _ rfl
  clear hf
  match xs, hxl, cs, hl with
  | [y0, y1, y2, y3], _, [c0, c1, c2, c3], _ =>
    simp only [e0, e1, List.drop_zero, List.take_succ_cons, List.take_zero, List.drop_succ_cons, List.getElem?_cons_zero, List.getElem?_cons_succ] at g0 g1 g2 g3
    obtain ⟨s0, h0, _, z0⟩ := DataW.trod_string Try.underlying9 g0
    obtain ⟨s1, h1, _, z1⟩ := DataW.trod_string Try.underlying9 g1
    obtain ⟨i2, h2, _, _⟩ := DataW.trod_int Try.underlying2 g2
    obtain ⟨i3, h3, _, _⟩ := DataW.trod_int Try.underlying2 g3
    simp only [List.cons.injEq, and_true] at h0 h1 h2 h3
    subst h0 h1 h2 h3
    exact ⟨⟨s0, s1, i2, i3⟩, rfl, z0, z1⟩
theorem addN_none (b off j : Nat) : (⟨b, off, none⟩ : Addr).add j = ⟨b, off + j, none⟩ := by unfold Addr.add; split <;> simp_all
/-- What a walk is told of a slice of rules that came in. -/
def IsRuls (w : World) (a : Option Addr) (len cap : Nat) (fs : List Rul) : Prop :=
  fs.length = len ∧ RulAt w a fs ∧ len ≤ cap ∧ cap ≤ maxLen ∧ RulsLe fs
theorem ruls_of {H : Type} {enc : TypeId × Value → H} {W : World} {base fuel : Nat} {x : DataW H × List MemPlace} {cs : List Value}
    (h : DataW.trod enc Try.prog W base (fun _ => true) true fuel 43 cs = some x) : ∃ a len cap fs, cs = [.slice a len cap] ∧ IsRuls W a len cap fs := by
  have ce : Try.prog.cellsOf 50 = 4 := by kernel_rfl
  rcases open_slice Try.underlying43 h with ⟨hcs, _⟩ | ⟨ad, len, cap, m, n, D, Pl, hcs, _, hl, hm, hmm, _, hx⟩
  · exact ⟨none, 0, 0, [], hcs, rfl, RulAt.nil _ _, Nat.le_refl _, by unfold maxLen; omega, fun x hx => by cases hx⟩
  · have hmm : m = cap := hmm
    subst hmm
    have each : ∀ i, i < m → ∃ f : Rul, (W.cell? (ad.add (i * 4)) = some (.string f.k) ∧ W.cell? (ad.add (i * 4 + 1)) = some (.string f.f) ∧ W.cell? (ad.add (i * 4 + 2)) = some (.int .i64 f.l) ∧ W.cell? (ad.add (i * 4 + 3)) = some (.int .i64 f.m)) ∧ RulLe f := by
      intro i hi
      obtain ⟨cs', h1, h2⟩ := hx i hi
      rw [ce] at h1
      obtain ⟨_, hlen, hcell⟩ := World.cells?_some h1
      obtain ⟨f, rfl, hz⟩ := rul_of h2
      have e0 := hcell 0 (by omega)
      have e1 := hcell 1 (by omega)
      have e2 := hcell 2 (by omega)
      have e3 := hcell 3 (by omega)
      rw [add_add] at e0 e1 e2 e3
      exact ⟨f, ⟨by simpa using e0, by simpa using e1, by simpa using e2, by simpa using e3⟩, hz⟩
    obtain ⟨F, hF⟩ := choose_lt each
    refine ⟨some ad, len, m, (List.range len).map F, hcs, by simp, ?_, hl, hm, ?_⟩
    · intro i hi
      have hi2 : i < len := by simpa using hi
      obtain ⟨b, off, spot⟩ := ad
      obtain ⟨⟨q0, q1, q2, q3⟩, -⟩ := hF i (by omega)
      have q00 := (hF 0 (by omega)).1.1
      rw [Nat.zero_mul] at q00
      have hspot : spot = none := by simpa [Addr.add] using World.cell?_spot q00
      subst hspot
      rw [addN_none] at q0 q1 q2 q3
      have he : ((List.range len).map F)[i] = F i := by simp
      rw [he]
      refine ⟨b, off, rfl, World.block_lt_of_cell? W _ q0, q0, ?_, ?_, ?_⟩
      · rw [Nat.add_assoc]; exact q1
      · rw [Nat.add_assoc]; exact q2
      · rw [Nat.add_assoc]; exact q3
    · intro f hf
      obtain ⟨i, hi, rfl⟩ := List.mem_map.1 hf
      exact (hF i (by have := List.mem_range.1 hi; omega)).2
/-- What the walk is told of a slice of numbers that came in. -/
def IsIntsP (w : World) (a : Option Addr) (len cap : Nat) (ks : List Int) : Prop :=
  ks.length = len ∧ IntAt w a ks ∧ len ≤ cap ∧ cap ≤ maxLen
theorem intsP_of {H : Type} {enc : TypeId × Value → H} {W : World} {base : Nat} {fuel : Nat} {x : DataW H × List MemPlace} {a : Option Addr} {len cap : Nat}
    (h : DataW.trod enc Try.prog W base (fun _ => true) true fuel 24 [.slice a len cap] = some x) : ∃ ks, IsIntsP W a len cap ks := by
  rcases open_ints Try.underlying24 Try.underlying2 (by kernel_rfl) h with ⟨hcs, _⟩ | ⟨ad, l, c, zs, hcs, _, hl, hm, hz, _, hx, _⟩
  · simp at hcs
    obtain ⟨rfl, rfl, rfl⟩ := hcs
    exact ⟨[], rfl, IntAt.nil _ _, Nat.le_refl _, by unfold maxLen; omega⟩
  · simp at hcs
    obtain ⟨rfl, rfl, rfl⟩ := hcs
    rw [if_pos rfl] at hz
    refine ⟨zs.take len, by simp; omega, ?_, hl, hm⟩
    intro i hi
    have hi2 : i < len := by simp at hi; omega
    obtain ⟨b, off, spot⟩ := ad
    have hc := hx i (by omega)
    have hspot : spot = none := by simpa [Addr.add] using World.cell?_spot (hx 0 (by omega))
    subst hspot
    have hadd : (⟨b, off, none⟩ : Addr).add i = ⟨b, off + i, none⟩ := by unfold Addr.add; split <;> simp_all
    rw [hadd] at hc
    refine ⟨b, off, rfl, World.block_lt_of_cell? W _ hc, ?_⟩
    rw [hc, List.getElem_take, List.getD_eq_getElem?_getD, List.getElem?_eq_getElem (by omega)]
    rfl
theorem open_rule {H : Type} {enc : TypeId × Value → H} {W : World} {base : Nat} {v : Value} {d : DataW H} {ps : List MemPlace} (hval : Value.okWide Try.prog W .any base 50 v)
    (h : DataW.Trod enc Try.prog W 0 (fun _ => true) true 50 v d ps) : ∃ f : Rul, v = .agg #[.string f.k, .string f.f, .int .i64 f.l, .int .i64 f.m] ∧ RulLe f := by
  obtain ⟨cs, rfl, hsz⟩ := okWide_struct Try.underlying50 hval
  obtain ⟨fuel, hf⟩ := h
  obtain ⟨f, hc, hz⟩ := rul_of hf
  refine ⟨f, ?_, hz⟩
  simp only [Value.cells] at hc
  rw [show cs = #[.string f.k, .string f.f, .int .i64 f.l, .int .i64 f.m] from by cases cs; simp_all]
theorem open_policy {H : Type} {enc : TypeId × Value → H} {W : World} {base : Nat} {v : Value} {d : DataW H} {qs : List MemPlace} (hval : Value.okWide Try.prog W .any base 45 v)
    (h : DataW.Trod enc Try.prog W 0 (fun _ => true) true 45 v d qs) : ∃ a1 len1 cap1 a2 len2 cap2, v = .agg #[.slice a1 len1 cap1, .slice a2 len2 cap2] ∧ (∃ ss, IsRuls W a1 len1 cap1 ss) ∧ ∃ ps, IsIntsP W a2 len2 cap2 ps := by
  obtain ⟨cs, rfl, hsz⟩ := okWide_struct Try.underlying45 hval
  have h2 : cs.size = 2 := hsz.trans (by kernel_rfl)
  obtain ⟨fuel, hf⟩ := h
  obtain ⟨y0, y1, m, _, _, ht0, ht1⟩ := trod_struct2 Try.underlying45 hf
  obtain ⟨c0, c1, rfl⟩ : ∃ c0 c1, cs = #[c0, c1] := by
    match cs, h2 with
    | ⟨[c0, c1]⟩, _ => exact ⟨c0, c1, rfl⟩
  have e0 : Try.prog.cellsOf 43 = 1 := by kernel_rfl
  have e1 : Try.prog.cellsOf 24 = 1 := by kernel_rfl
  simp only [Value.cells, e0, e1, List.drop_zero, List.take_succ_cons, List.take_zero, List.drop_succ_cons] at ht0 ht1
  obtain ⟨a1, l1, k1, ss, hr, w1⟩ := ruls_of ht0
  simp at hr
  subst hr
  rcases open_ints Try.underlying24 Try.underlying2 (by kernel_rfl) ht1 with ⟨hcs, _⟩ | ⟨ad, l, c, zs, hcs, _⟩
  · simp at hcs
    subst hcs
    exact ⟨a1, l1, k1, _, _, _, rfl, ⟨ss, w1⟩, intsP_of ht1⟩
  · simp at hcs
    subst hcs
    exact ⟨a1, l1, k1, _, _, _, rfl, ⟨ss, w1⟩, intsP_of ht1⟩
end Go.Proofs.Yteehhpmmnpajmaa
