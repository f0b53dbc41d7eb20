/-
  What the program's headOf answers, whole: the three numbers of a head's text, or that it is none.
  Conditions: the text fits the form's own reach; the sentinels are laid.
-/
import Derived.Test.YtnppgldafhpchaaDoorRows
import Derived.Test.YtnppgldafhpchaaDoorBytes
import Derived.Test.YtnppgldafhpchaaDoorScanMath
import Derived.Test.YtnppgldafhpchaaDoorPutTextGetValGetTxtScopes
import Derived.Test.YtnppgldafhpchaaDoorRdNumIAsDAs2CodeOfGetNumIRdTextIGetTextI
import Derived.Test.YtnppgldafhpchaaDoorAreaMath
import Derived.Test.YtnppgldafhpchaaDoorSen3PutMath
import Derived.Test.YtnppgldafhpchaaDoorImplHO3
import Derived.Handy
namespace Go.Proofs.YtnppgldafhpchaaDoor
open Go.RowKit Go.Lib
set_option linter.unusedVariables false

theorem hoV_bad {t : ByteArray} {a2 : Addr} (h : ¬ HdI t) : hoV t a2 = .tuple #[.agg #[.int .i64 0, .int .i64 0, .int .i64 0], .iface 107 (.pointer (some a2))] := if_neg h
theorem headOf_any (t : ByteArray) (a1 a2 a3 a4 : Addr) (w : World) (hS : Sents a1 a2 a3 a4 w) (ht : t.size ≤ 8000) :
    Calls Tryd.prog 49 #[.string t] w fun e w' => e = .returned (hoV t a2) ∧ Below w.heap.size w w' := by
  have hm : t.size ≤ maxLen := by unfold maxLen; omega
  have key : ∀ (a : Int), a ≤ 9223372036854775807 → (∃ n b, getN t a = (n, b, 0) ∧ Hid (∀ x, Calls Tryd.prog 53 #[.string t, .int .i64 a] x fun e w' => e = .returned (.tuple #[.int .i64 n, .int .i64 b, .nilIface]) ∧ w' = x)) ∨ (∃ c, c ≠ 0 ∧ getN t a = (0, 0, c) ∧ Hid (∀ x, Calls Tryd.prog 53 #[.string t, .int .i64 a] x fun e w' => e = .returned (.tuple #[.int .i64 0, .int .i64 0, .iface 95 (.agg #[.int .i64 c])]) ∧ w' = x)) := fun a ha => by
    rcases getN_cases t a with ⟨n, b, h⟩ | ⟨c, hc, h⟩
    · refine .inl ⟨n, b, h, fun x => ?_⟩
      have := readNum_any t a x hm ha
      rw [rnV_okk h] at this
      exact this
    · refine .inr ⟨c, hc, h, fun x => ?_⟩
      have := readNum_any t a x hm ha
      rw [rnV_of h hc] at this
      exact this
  obtain ⟨-, -, n1, u3, u4⟩ := getN_bd t 0 ht
  rcases key 0 (by omega) with ⟨g, b1, E1, R1⟩ | ⟨c, hc, E1, R1⟩
  · have H1 : hd1 t = (g, b1, 0) := E1
    have e1 : b1 = (n1 : Int) := by
      have : (getN t ((0 : Nat) : Int)).2.1 = (n1 : Int) := u3
      rw [show ((0 : Nat) : Int) = 0 from rfl, E1] at this; exact this
    by_cases hg : g < 0
    · rw [hoV_bad (fun h => by have := h.1.2; rw [H1] at this; omega)]
      exact headOf_n1 t a1 a2 a3 a4 w hS g b1 (decide_eq_true hg) R1
    obtain ⟨-, -, n2, v3, v4⟩ := getN_bd t n1 ht
    rcases key b1 (by omega) with ⟨s, b2, E2, R2⟩ | ⟨c, hc, E2, R2⟩
    · have H2 : hd2 t = (s, b2, 0) := by unfold hd2; rw [H1]; exact E2
      have e2 : b2 = (n2 : Int) := by rw [← e1, E2] at v3; exact v3
      by_cases hs : s < 0
      · rw [hoV_bad (fun h => by have := h.2.1.2; rw [H2] at this; omega)]
        exact headOf_n2 t a1 a2 a3 a4 w hS g b1 (decide_eq_false hg) R1 s b2 (decide_eq_true hs) R2
      rcases key b2 (by omega) with ⟨z, b3, E3, R3⟩ | ⟨c, hc, E3, R3⟩
      · have H3 : hd3 t = (z, b3, 0) := by unfold hd3; rw [H2]; exact E3
        by_cases hz : z < 0
        · rw [hoV_bad (fun h => by have := h.2.2.1.2; rw [H3] at this; omega)]
          exact headOf_n3 t a1 a2 a3 a4 w hS g b1 (decide_eq_false hg) R1 s b2 (decide_eq_false hs) R2 z b3 (decide_eq_true hz) R3
        by_cases h4 : b3 = (t.size : Int)
        · by_cases h5 : 2 ≤ s
          · rw [hoV_bad (fun h => by have := h.2.2.2.2; rw [H2] at this; omega)]
            exact headOf_t2 t a1 a2 a3 a4 w hS g b1 (decide_eq_false hg) R1 s b2 (decide_eq_false hs) R2 z b3 (decide_eq_false hz) R3 (by simp [h4]) (by simp [h4]) (decide_eq_true h5)
          · have hk : HdI t := by
              unfold HdI; rw [H1, H2, H3]
              exact ⟨⟨rfl, by omega⟩, ⟨rfl, by omega⟩, ⟨rfl, by omega⟩, h4, by omega⟩
            have hv : hoV t a2 = .tuple #[.agg #[.int .i64 g, .int .i64 s, .int .i64 z], .nilIface] := by
              unfold hoV; rw [if_pos hk, H1, H2, H3]
            rw [hv]
            exact headOf_ok t a1 a2 a3 a4 w hS g b1 (decide_eq_false hg) R1 s b2 (decide_eq_false hs) R2 z b3 (decide_eq_false hz) R3 (by simp [h4]) (by simp [h4]) (decide_eq_false h5)
        · rw [hoV_bad (fun h => by have := h.2.2.2.1; rw [H3] at this; exact h4 this)]
          exact headOf_t1 t a1 a2 a3 a4 w hS g b1 (decide_eq_false hg) R1 s b2 (decide_eq_false hs) R2 z b3 (decide_eq_false hz) R3 (by simpa using h4) (by simpa using h4)
      · have H3 : hd3 t = (0, 0, c) := by unfold hd3; rw [H2]; exact E3
        rw [hoV_bad (fun h => by have := h.2.2.1.1; rw [H3] at this; exact hc this)]
        exact headOf_c3 t a1 a2 a3 a4 w hS g b1 (decide_eq_false hg) R1 s b2 (decide_eq_false hs) R2 c R3
    · have H2 : hd2 t = (0, 0, c) := by unfold hd2; rw [H1]; exact E2
      rw [hoV_bad (fun h => by have := h.2.1.1; rw [H2] at this; exact hc this)]
      exact headOf_c2 t a1 a2 a3 a4 w hS g b1 (decide_eq_false hg) R1 c R2
  · have H1 : hd1 t = (0, 0, c) := E1
    rw [hoV_bad (fun h => by have := h.1.1; rw [H1] at this; exact hc this)]
    exact headOf_c1 t a1 a2 a3 a4 w hS c R1
end Go.Proofs.YtnppgldafhpchaaDoor
