/-
  append of all that a slice leads to onto an empty one of the call's own, in a region that draws its order: texts, and pendings.
-/
import Derived.Test.YtnppgldafhpchaaDoorRows
import Derived.Test.YtnppgldafhpchaaDoorBytes
import Derived.Test.YtnppgldafhpchaaDoorSlASlBOwnS
import Derived.Test.YtnppgldafhpchaaDoorBxK
import Derived.Test.YtnppgldafhpchaaDoorLawSGAppSStepApp
import Derived.Test.YtnppgldafhpchaaDoorDskMath
import Derived.Handy
import Derived.OwnWalk
import Derived.Deep.AppendLies
import Derived.Deep.RegionLaw
namespace Go.Proofs.YtnppgldafhpchaaDoor
open Go.RowKit Go.Lib
set_option linter.unusedVariables false

/-- A copy of a row: a block of its own that came behind, or the empty one at g. -/
structure Cop (w : World) (g : Nat) (e : TypeId) (s : Nat) (n : Nat) (xs : List Value) (v : Value) (w' : World) : Prop where
  own : w'.ownsRow 0 e s v n xs
  bel : Below w.heap.size w w'
  at_ : ∃ b c, v = .slice (some ⟨b, 0, none⟩) n c ∧ n ≤ c ∧ (b = g ∨ w.heap.size ≤ b) ∧ b < w'.heap.size
theorem copy_texts (w : World) (g : Nat) (hg : w.heap[g]? = some (.cells #[] 9 (0, 0))) (p : Option Addr) (cap : Nat) (ss : List ByteArray) (hp : TxtAt w p ss) (hn : ss.length ≤ 1048576) :
    ∃ v' w', (Builtin.append_ #[22, 22] 22 #[.slice (some ⟨g, 0, none⟩) 0 0, .slice p ss.length cap]).run Tryd.prog w = .ok v' w' ∧ Cop w g 9 1 ss.length (strRow ss) v' w' := by
  have own0 : w.ownsRow 0 9 1 (.slice (some ⟨g, 0, none⟩) 0 0) 0 [] := ⟨rfl, .inr ⟨g, 0, #[], rfl, Nat.zero_le _, hg, Nat.le_refl _, by unfold maxLen; omega, rfl, rfl⟩⟩
  obtain ⟨i0, hi, hz0, hz1, hz2⟩ := info_parts infoStr
  by_cases h0 : ss.length = 0
  · obtain rfl : ss = [] := List.length_eq_zero_iff.1 h0
    exact ⟨_, w, run_append_len0 w 0 _ _ _ i0 1 Tryd.underlying22 hi _ 0 [] own0 p cap, own0, Below.refl _ _, g, 0, rfl, Nat.le_refl _, .inl rfl, lt_of_block hg⟩
  · obtain ⟨b, off, rfl, hb, _⟩ := hp 0 (by omega)
    obtain ⟨v', w', h1, h2, h3⟩ := run_append_arg_grows (P := Tryd.prog) w 22 22 9 i0 (.string ByteArray.empty) 1 16 Tryd.underlying22 hi hz0 hz1 hz2 rfl (by omega) ⟨g, 0, none⟩ 0 0 [] rfl (fun j u hu => by simp at hu) ⟨b, off, none⟩ ss.length cap (strRow ss) (by simp [strRow]) (fun j u hu => by
      have hj : j < ss.length := by
        rcases Nat.lt_or_ge j ss.length with q | q
        · exact q
        · rw [List.getElem?_eq_none (by simpa [strRow] using q)] at hu; cases hu
      have hadd : (⟨b, off, none⟩ : Addr).add j = ⟨b, off + j, none⟩ := by unfold Addr.add; split <;> simp_all
      rw [hadd, hp.at j hj]
      simp [strRow, hj] at hu
      rw [hu]) (by omega) (by unfold maxLen; omega) (by omega)
    rw [Nat.zero_add, List.nil_append] at h2
    have h2' := h2
    rcases h2'.2 with ⟨hv, hn0⟩ | ⟨b', c', cur, rfl, hb1, hb2, hb3, -⟩
    · exact absurd hn0 h0
    · exact ⟨_, w', h1, ownS_mono h2 (Nat.zero_le _), below_none h3, b', c', rfl, hb3, .inr hb1, lt_of_block hb2⟩
theorem infoPnd : (Tryd.prog.info? 65).map (fun i => (i.zero, i.size, i.bytes)) = some (some (.agg #[.int .i64 0, .string ByteArray.empty]), 2, 24) := by kernel_rfl
theorem copy_pends (w : World) (g : Nat) (hg : w.heap[g]? = some (.cells #[] 65 (0, 0))) (p : Option Addr) (cap : Nat) (ps : List Pnd) (hp : PndAt w p ps) (hn : ps.length ≤ 1048576) :
    ∃ v' w', (Builtin.append_ #[28, 28] 28 #[.slice (some ⟨g, 0, none⟩) 0 0, .slice p ps.length cap]).run Tryd.prog w = .ok v' w' ∧ Cop w g 65 2 ps.length (pndRow ps) v' w' := by
  have own0 : w.ownsRow 0 65 2 (.slice (some ⟨g, 0, none⟩) 0 0) 0 [] := ⟨rfl, .inr ⟨g, 0, #[], rfl, Nat.zero_le _, hg, Nat.le_refl _, by unfold maxLen; omega, rfl, rfl⟩⟩
  obtain ⟨i0, hi, hz0, hz1, hz2⟩ := info_parts infoPnd
  by_cases h0 : ps.length = 0
  · obtain rfl : ps = [] := List.length_eq_zero_iff.1 h0
    exact ⟨_, w, run_append_len0 w 0 _ _ _ i0 2 Tryd.underlying28 hi _ 0 [] own0 p cap, own0, Below.refl _ _, g, 0, rfl, Nat.le_refl _, .inl rfl, lt_of_block hg⟩
  · obtain ⟨b, off, rfl, hb, _⟩ := hp 0 (by omega)
    obtain ⟨v', w', h1, h2, h3⟩ := run_append_arg_grows (P := Tryd.prog) w 28 28 65 i0 _ 2 24 Tryd.underlying28 hi hz0 hz1 hz2 rfl (by omega) ⟨g, 0, none⟩ 0 0 [] rfl (fun j u hu => by simp at hu) ⟨b, off, none⟩ ps.length cap (pndRow ps) (pndRow_len ps) (fun j u hu => by
      have hj : j < ps.length * 2 := by
        rcases Nat.lt_or_ge j (ps.length * 2) with q | q
        · exact q
        · rw [List.getElem?_eq_none (by rw [pndRow_len]; exact q)] at hu; cases hu
      have hadd : (⟨b, off, none⟩ : Addr).add j = ⟨b, off + j, none⟩ := by unfold Addr.add; split <;> simp_all
      have hc := hp.at (j / 2) (by omega)
      have hr := pndRow_at ps (j / 2) (by omega)
      rw [hadd]
      rcases Nat.mod_two_eq_zero_or_one j with h | h
      · have e : j / 2 * 2 = j := by omega
        rw [e] at hc hr
        rw [hc.1, ← hu, hr.1]
      · have e : j / 2 * 2 + 1 = j := by omega
        rw [Nat.add_assoc, e] at hc
        rw [e] at hr
        rw [hc.2, ← hu, hr.2]) (by omega) (by unfold maxLen; omega) (by omega)
    rw [Nat.zero_add, List.nil_append] at h2
    have h2' := h2
    rcases h2'.2 with ⟨hv, hn0⟩ | ⟨b', c', cur, rfl, hb1, hb2, hb3, -⟩
    · exact absurd hn0 h0
    · exact ⟨_, w', h1, ownS_mono h2 (Nat.zero_le _), below_none h3, b', c', rfl, hb3, .inr hb1, lt_of_block hb2⟩
theorem step_copy_texts {w : World} {ops : Array Oper} {o : Oper} {a : Act} {K : Act → World → Prop} {Q : Exit → Act → World → Prop} {E : Prop} (hgd : o.guard = none) (s x : Operand)
    (ho : o.op = .call { callee := .builtin .append, args := #[s, x], argTypes := #[22, 22] }) (hty : o.type = 22) (g : Nat) (p : Option Addr) (cap : Nat) (ss : List ByteArray) (hs : a.eval s = .slice (some ⟨g, 0, none⟩) 0 0) (hx : a.eval x = .slice p ss.length cap)
    (hg : w.heap[g]? = some (.cells #[] 9 (0, 0))) (hp : TxtAt w p ss) (hn : ss.length ≤ 1048576) (h : ∀ v' w', Cop w g 9 1 ss.length (strRow ss) v' w' → K (a.put o.dst v') w') :
    if Region.wanted o (yielded ops a.tmps) = true then Oper.wp Tryd.prog o a w K Q else E := by
  obtain ⟨v', w', hr, hc⟩ := copy_texts w g hg p cap ss hp hn
  exact step_append_run hgd s x 22 ho _ _ v' w' hs hx (by rw [hty]; exact hr) (h v' w' hc)
theorem step_copy_pends {w : World} {ops : Array Oper} {o : Oper} {a : Act} {K : Act → World → Prop} {Q : Exit → Act → World → Prop} {E : Prop} (hgd : o.guard = none) (s x : Operand)
    (ho : o.op = .call { callee := .builtin .append, args := #[s, x], argTypes := #[28, 28] }) (hty : o.type = 28) (g : Nat) (p : Option Addr) (cap : Nat) (ps : List Pnd) (hs : a.eval s = .slice (some ⟨g, 0, none⟩) 0 0) (hx : a.eval x = .slice p ps.length cap)
    (hg : w.heap[g]? = some (.cells #[] 65 (0, 0))) (hp : PndAt w p ps) (hn : ps.length ≤ 1048576) (h : ∀ v' w', Cop w g 65 2 ps.length (pndRow ps) v' w' → K (a.put o.dst v') w') :
    if Region.wanted o (yielded ops a.tmps) = true then Oper.wp Tryd.prog o a w K Q else E := by
  obtain ⟨v', w', hr, hc⟩ := copy_pends w g hg p cap ps hp hn
  exact step_append_run hgd s x 28 ho _ _ v' w' hs hx (by rw [hty]; exact hr) (h v' w' hc)
end Go.Proofs.YtnppgldafhpchaaDoor
