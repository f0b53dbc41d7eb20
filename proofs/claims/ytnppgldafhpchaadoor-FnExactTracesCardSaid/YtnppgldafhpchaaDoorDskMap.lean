/-
  What is pending as a map by its place: of more than one at one place the last alone; what is put into the sectors out of it in any order.
-/
import Derived.Test.YtnppgldafhpchaaDoorRows
import Derived.Test.YtnppgldafhpchaaDoorDskMath
import Derived.Test.YtnppgldafhpchaaDoorDskLaw
import Derived.Handy
import Derived.Maps.RangeWalk
namespace Go.Proofs.YtnppgldafhpchaaDoor
open Go.RowKit Go.Lib Go.Maps
set_option linter.unusedVariables false

/-- How an element of the map reads. -/
def pndElem : Value → Option (DataW Pnd × List MemPlace)
  | .agg cs => (match cs.toList with | [.int .i64 a, .string s] => some (.held (a, s), []) | _ => none)
  | _ => none
theorem pndElem_mk (a : Int) (s : ByteArray) : pndElem (.agg #[.int .i64 a, .string s]) = some (.held (a, s), []) := rfl
theorem pndElem_inv {v : Value} {y : DataW Pnd × List MemPlace} (h : pndElem v = some y) : ∃ p : Pnd, v = .agg #[.int .i64 p.1, .string p.2] ∧ y = (.held p, []) := by
  unfold pndElem at h
  split at h
  · rename_i cs
    split at h
    · rename_i a s hcs
      cases h
      obtain ⟨l⟩ := cs
      simp at hcs
      subst hcs
      exact ⟨(a, s), rfl, rfl⟩
    · cases h
  · cases h

/-- The last of what is pending at a place. -/
def lastP (at_ : Int) (ps : List Pnd) : Option Pnd := ps.foldl (fun o p => if p.1 = at_ then some p else o) none
theorem lastP_snoc (at_ : Int) (ps : List Pnd) (k : Nat) (h : k < ps.length) : lastP at_ (ps.take (k + 1)) = if ps[k].1 = at_ then some ps[k] else lastP at_ (ps.take k) := by
  unfold lastP
  rw [List.take_succ_eq_append_getElem h, List.foldl_append]; rfl
theorem readTo_fold (at_ : Int) (t0 : ByteArray) (ps : List Pnd) : ∀ (o : Option Pnd) (t : ByteArray), (match o with | some p => p.2 | none => t0) = t → readTo at_ t ps = match ps.foldl (fun o p => if p.1 = at_ then some p else o) o with | some p => p.2 | none => t0 := by
  induction ps with
  | nil => intro o t h; exact h.symm
  | cons p ps ih =>
    intro o t h
    show readTo at_ (if p.1 = at_ then p.2 else t) ps = _
    rw [List.foldl_cons]
    refine ih _ _ ?_
    by_cases e : p.1 = at_
    · rw [if_pos e, if_pos e]
    · rw [if_neg e, if_neg e]; exact h
theorem readTo_last (at_ : Int) (t : ByteArray) (ps : List Pnd) : readTo at_ t ps = match lastP at_ ps with | some p => p.2 | none => t := readTo_fold at_ t ps none t rfl
theorem lastP_mem (at_ : Int) (ps : List Pnd) : ∀ (o : Option Pnd) (p : Pnd), ps.foldl (fun o p => if p.1 = at_ then some p else o) o = some p → o = some p ∨ (p ∈ ps ∧ p.1 = at_) := by
  induction ps with
  | nil => intro o p h; exact .inl h
  | cons q ps ih =>
    intro o p h
    rw [List.foldl_cons] at h
    rcases ih _ p h with h | h
    · by_cases e : q.1 = at_
      · rw [if_pos e] at h; cases h; exact .inr ⟨List.mem_cons_self, e⟩
      · rw [if_neg e] at h; exact .inl h
    · exact .inr ⟨List.mem_cons_of_mem _ h.1, h.2⟩
theorem lastP_at {at_ : Int} {ps : List Pnd} {p : Pnd} (h : lastP at_ ps = some p) : p ∈ ps ∧ p.1 = at_ := by
  rcases lastP_mem at_ ps none p h with h | h
  · cases h
  · exact h

/-- A map that has, at each place, the last that is pending there. -/
structure MapOf (D : DataW Pnd) (ps : List Pnd) : Prop where
  is : IsMap D
  no : ∀ a, lastP a ps = none → has D (.int .i64 a) = false
  yes : ∀ a p, lastP a ps = some p → has D (.int .i64 a) = true ∧ ∀ zd, D.atKey (.int .i64 a) zd = .held p
theorem MapOf.nil : MapOf (.map []) [] := ⟨isMap_empty, fun a _ => rfl, fun a p h => by cases h⟩
theorem kL_is (a : Int) : WideAt.IsKeyLit (Lit.int .i64 a) := trivial
theorem kL_ne {a b : Int} (h : a ≠ b) : (Lit.int .i64 a) ≠ (Lit.int .i64 b) := fun e => by cases e; exact h rfl
theorem MapOf.step {D : DataW Pnd} {ps : List Pnd} {k : Nat} (h : MapOf D (ps.take k)) (hk : k < ps.length) : MapOf (D.put (.int .i64 ps[k].1) (.held ps[k])) (ps.take (k + 1)) := by
  refine ⟨h.is.put _ _, fun a ha => ?_, fun a p ha => ?_⟩
  · rw [lastP_snoc a ps k hk] at ha
    by_cases e : ps[k].1 = a
    · rw [if_pos e] at ha; cases ha
    · rw [if_neg e] at ha
      rw [has_put_other (kL_ne fun e' => e e'.symm)]
      exact h.no a ha
  · rw [lastP_snoc a ps k hk] at ha
    by_cases e : ps[k].1 = a
    · rw [if_pos e] at ha
      cases ha
      subst e
      exact ⟨has_put_same h.is (kL_is _) _, fun zd => atKey_put_same h.is (kL_is _) _ zd⟩
    · rw [if_neg e] at ha
      rw [has_put_other (kL_ne fun e' => e e'.symm)]
      exact ⟨(h.yes a p ha).1, fun zd => by rw [atKey_put_other (kL_ne fun e' => e e'.symm)]; exact (h.yes a p ha).2 zd⟩

/-- The sectors while what is pending is put into them: those that are still to come are what they were. -/
structure FlR (ss : List ByteArray) (ps : List Pnd) (D : DataW Pnd) (left : Lit → Bool) (L : List ByteArray) : Prop where
  len : L.length = ss.length
  to_ : ∀ a, left (.int .i64 a) = true → ∃ p, lastP a ps = some p ∧ ∀ zd, D.atKey (.int .i64 a) zd = .held p
  at_ : ∀ i : Nat, secAt L (i : Int) = if left (.int .i64 (i : Int)) = true then secAt ss (i : Int) else readTo (i : Int) (secAt ss (i : Int)) ps
theorem FlR.start {ss : List ByteArray} {ps : List Pnd} {D : DataW Pnd} (h : MapOf D ps) : FlR ss ps D (has D) ss := by
  refine ⟨rfl, fun a ha => ?_, fun i => ?_⟩
  · cases hl : lastP a ps with
    | none => rw [h.no a hl] at ha; cases ha
    | some p => exact ⟨p, rfl, (h.yes a p hl).2⟩
  · split
    · rfl
    · rename_i hn
      rw [readTo_last]
      cases hl : lastP (i : Int) ps with
      | none => rfl
      | some p => exact absurd (h.yes _ p hl).1 hn
theorem FlR.step {ss : List ByteArray} {ps : List Pnd} {D : DataW Pnd} {left : Lit → Bool} {L : List ByteArray} (h : FlR ss ps D left L) {A : Nat} {p : Pnd} (hA : A < ss.length) (hl : left (.int .i64 (A : Int)) = true) (hp : ∀ zd, D.atKey (.int .i64 (A : Int)) zd = .held p) :
    FlR ss ps (D.del (.int .i64 (A : Int))) (fun z => left z && !z.sameKey (.int .i64 (A : Int))) (L.set A p.2) := by
  have hlast : lastP (A : Int) ps = some p := by
    obtain ⟨q, h1, h2⟩ := h.to_ _ hl
    have := (hp .nil).symm.trans (h2 .nil)
    cases this
    exact h1
  refine ⟨by rw [List.length_set]; exact h.len, fun a ha => ?_, fun i => ?_⟩
  · rw [Bool.and_eq_true, Bool.not_eq_true'] at ha
    have hne : a ≠ (A : Int) := fun e => by
      subst e
      rw [WideAt.sameKey_self (kL_is _)] at ha
      exact absurd ha.2 (by simp)
    obtain ⟨q, h1, h2⟩ := h.to_ a ha.1
    exact ⟨q, h1, fun zd => by rw [atKey_del_other (kL_ne hne)]; exact h2 zd⟩
  · rw [secAt_set L A i p.2 (by rw [h.len]; exact hA)]
    by_cases e : A = i
    · subst e
      have hk : (left (.int .i64 (A : Int)) && !(Lit.int .i64 (A : Int)).sameKey (.int .i64 (A : Int))) = false := by
        rw [WideAt.sameKey_self (kL_is _)]; simp
      rw [if_pos rfl, hk, if_neg Bool.false_ne_true, readTo_last, hlast]
    · have hne : (Lit.int .i64 (i : Int)).sameKey (.int .i64 (A : Int)) = false := sameKey_ne (kL_ne (by omega))
      have hk : (left (.int .i64 (i : Int)) && !(Lit.int .i64 (i : Int)).sameKey (.int .i64 (A : Int))) = left (.int .i64 (i : Int)) := by
        rw [hne]; simp
      rw [if_neg e, hk, h.at_ i]
theorem secAt_ext {L M : List ByteArray} (hl : L.length = M.length) (h : ∀ i : Nat, secAt L (i : Int) = secAt M (i : Int)) : L = M := by
  refine List.ext_getElem hl fun i h1 h2 => ?_
  have := h i
  simpa [secAt, List.getD_eq_getElem?_getD, h1, h2] using this
theorem FlR.done {ss : List ByteArray} {ps : List Pnd} {D : DataW Pnd} {left : Lit → Bool} {L : List ByteArray} (h : FlR ss ps D left L) (h0 : ∀ kl, left kl = false) (hok : ∀ p ∈ ps, pndOk ss.length p) : L = flushB ss ps := by
  refine secAt_ext (by rw [h.len, flushB_len]) fun i => ?_
  rw [h.at_ i, h0, if_neg Bool.false_ne_true, flush_read ps ss i hok]
end Go.Proofs.YtnppgldafhpchaaDoor
