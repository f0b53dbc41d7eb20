/-
  What the functions on policies answer, as plain functions; rows of a policy that are written anew.
-/
import Derived.Test.YtbgpkngnlfafcaaRows
import Derived.Test.YtbgpkngnlfafcaaBytes
import Derived.Test.YtbgpkngnlfafcaaSlA
import Derived.Test.YtbgpkngnlfafcaaOwnS
import Derived.Test.YtbgpkngnlfafcaaBxK
import Derived.Test.YtbgpkngnlfafcaaNameRight
import Derived.Test.YtbgpkngnlfafcaaIntK
import Derived.Test.YtbgpkngnlfafcaaRulMath
import Derived.Test.YtbgpkngnlfafcaaRulBlk
import Derived.Test.YtbgpkngnlfafcaaPolMath
import Derived.Test.YtbgpkngnlfafcaaPolIdx
import Derived.Test.YtbgpkngnlfafcaaRulIdx
import Derived.Test.YtbgpkngnlfafcaaLawI
import Derived.Test.YtbgpkngnlfafcaaRowOps
import Derived.Test.YtbgpkngnlfafcaaPolO
import Derived.Handy
import Derived.OwnWalk
namespace Go.Proofs.Ytbgpkngnlfafcaa
open Go.RowKit Go.Lib
set_option linter.unusedVariables false

def hoT (hs : List Int) (r : Int) : Nat := twI (ltI r) hs
def hoB (hs : List Int) (r : Int) : Bool := thereB (ltI r) (eqI r) hs
def hoC (rs : List Rul) (hs : List Int) (r : Int) : Int := if polB rs hs = true ∧ heB r = true then (if hoB hs r = true then 7 else 0) else 1
def hoR (rs : List Rul) (hs : List Int) (r : Int) : List Rul := if hoC rs hs r = 0 then rs else []
def hoH (rs : List Rul) (hs : List Int) (r : Int) : List Int := if hoC rs hs r = 0 then hs.take (hoT hs r) ++ [r] ++ hs.drop (hoT hs r) else []
def frC (rs : List Rul) (hs : List Int) (r : Int) : Int := if polB rs hs = true ∧ heB r = true then (if hoB hs r = true then 0 else 6) else 1
def frR (rs : List Rul) (hs : List Int) (r : Int) : List Rul := if frC rs hs r = 0 then rs else []
def frH (rs : List Rul) (hs : List Int) (r : Int) : List Int := if frC rs hs r = 0 then hs.take (hoT hs r) ++ hs.drop (hoT hs r + 1) else []
def rpT (rs : List Rul) (R : Rul) : Nat := twI (ltR R.k R.f) rs
def rpB (rs : List Rul) (R : Rul) : Bool := thereB (ltR R.k R.f) (eqR R.k R.f) rs
def rpC (rs : List Rul) (hs : List Int) (R : Rul) : Int := if polB rs hs = true ∧ ruB R = true then (if rpB rs R = true then 0 else if rs.length = 6 then 9 else 0) else 1
def rpR (rs : List Rul) (hs : List Int) (R : Rul) : List Rul := if rpC rs hs R = 0 then (if rpB rs R = true then rs.set (rpT rs R) R else rs.take (rpT rs R) ++ [R] ++ rs.drop (rpT rs R)) else []
def rpH (rs : List Rul) (hs : List Int) (R : Rul) : List Int := if rpC rs hs R = 0 then hs else []
def rdT (rs : List Rul) (k f : ByteArray) : Nat := twI (ltR k f) rs
def rdB (rs : List Rul) (k f : ByteArray) : Bool := thereB (ltR k f) (eqR k f) rs
def rdC (rs : List Rul) (hs : List Int) (k f : ByteArray) : Int := if 8000 < k.size ∨ 8000 < f.size then 2 else if polB rs hs = true then (if rdB rs k f = true then 0 else 6) else 1
def rdR (rs : List Rul) (hs : List Int) (k f : ByteArray) : List Rul := if rdC rs hs k f = 0 then rs.take (rdT rs k f) ++ rs.drop (rdT rs k f + 1) else []
def rdH (rs : List Rul) (hs : List Int) (k f : ByteArray) : List Int := if rdC rs hs k f = 0 then hs else []
theorem nrB_len20 {s : ByteArray} (h : nrB s = true) : 1 ≤ s.size ∧ s.size ≤ 20 := by
  unfold nrB at h
  rw [decide_eq_true_iff] at h
  exact ⟨h.1, h.2.1⟩
theorem there_lt {α : Type} {lt q : α → Bool} {l : List α} (h : thereB lt q l = true) : twI lt l < l.length := by
  unfold thereB at h
  split at h
  · assumption
  · cases h
theorem polB_parts {rs : List Rul} {hs : List Int} (h : polB rs hs = true) : rs.length ≤ 6 ∧ okL ruB ruLt rs = true ∧ okL heB heLt hs = true ∧ hs.length ≤ 6 ∧ ∀ r ∈ rs, r.k.size ≤ 20 ∧ r.f.size ≤ 20 := by
  unfold polB at h
  simp only [Bool.and_eq_true, decide_eq_true_eq] at h
  obtain ⟨h1, h2, h3⟩ := h
  refine ⟨h1, h2, h3, held_len h3, fun r hr => ?_⟩
  have := (okL_parts h2).1 r hr
  unfold ruB rlB at this
  simp only [Bool.and_eq_true] at this
  exact ⟨(nrB_len20 this.1).2, (nrB_len20 this.2.1).2⟩
theorem ruB_le {R : Rul} (h : ruB R = true) : R.k.size ≤ 20 ∧ R.f.size ≤ 20 := by
  unfold ruB rlB at h
  simp only [Bool.and_eq_true] at h
  exact ⟨(nrB_len20 h.1).2, (nrB_len20 h.2.1).2⟩
/-- The second row of a policy was written anew. -/
theorem PolO.new2 {base : Nat} {rs : List Rul} {hs hs' : List Int} {v1 v2 v2' : Value} {w w' : World} (h : PolO base rs hs v1 v2 w) (hg : w.grownBy w' v2.ownBlock) (ho : w'.ownsRow base 2 1 v2' hs'.length (intRow hs')) (hl : Lies w v2 v2') : PolO base rs hs' v1 v2' w' := by
  refine ⟨h.own1.kept hg h.ne, ho, ?_⟩
  cases h1 : v1.ownBlock with
  | none => exact .inl rfl
  | some j =>
    refine .inr (fun e => ?_)
    rcases hl j e.symm with q | q
    · rcases h.ne with h0 | h0
      · rw [h1] at h0; cases h0
      · exact h0 (h1.trans q.symm)
    · have := (h.lt.1 j h1).2; omega
/-- The first row of a policy was written anew. -/
theorem PolO.new1 {base : Nat} {rs rs' : List Rul} {hs : List Int} {v1 v1' v2 : Value} {w w' : World} (h : PolO base rs hs v1 v2 w) (hg : w.grownBy w' v1.ownBlock) (ho : w'.ownsRow base 28 4 v1' rs'.length (rulRow rs')) (hl : Lies w v1 v1') : PolO base rs' hs v1' v2 w' := by
  have hn : v2.ownBlock = none ∨ v2.ownBlock ≠ v1.ownBlock := by
    rcases h.ne with h0 | h0
    · cases h2 : v2.ownBlock with
      | none => exact .inl rfl
      | some j => exact .inr (by rw [h0]; simp)
    · exact .inr (fun e => h0 e.symm)
  refine ⟨ho, h.own2.kept hg hn, ?_⟩
  cases h1 : v1'.ownBlock with
  | none => exact .inl rfl
  | some j =>
    refine .inr (fun e => ?_)
    rcases hl j h1 with q | q
    · rcases hn with h0 | h0
      · rw [h0] at e; cases e
      · exact h0 (e.symm.trans q.symm)
    · have := (h.lt.2 j e.symm).2; omega
/-- The second row replaced by another one, of memory that came later. -/
theorem PolO.put2 {base : Nat} {rs : List Rul} {hs hs' : List Int} {v1 v2 v2' : Value} {w w' : World} (h : PolO base rs hs v1 v2 w) (hb : Below w.heap.size w w') (ho : w'.ownsRow w.heap.size 2 1 v2' hs'.length (intRow hs')) (hw : base ≤ w.heap.size) : PolO base rs hs' v1 v2' w' := by
  refine ⟨ownS_below h.own1 hb, own_lower ho hw, ?_⟩
  cases h1 : v1.ownBlock with
  | none => exact .inl rfl
  | some j => exact .inr (fun e => by have := (h.lt.1 j h1).2; have := (ho.lt j e.symm).1; omega)
theorem PolO.put1 {base : Nat} {rs rs' : List Rul} {hs : List Int} {v1 v1' v2 : Value} {w w' : World} (h : PolO base rs hs v1 v2 w) (hb : Below w.heap.size w w') (ho : w'.ownsRow w.heap.size 28 4 v1' rs'.length (rulRow rs')) (hw : base ≤ w.heap.size) : PolO base rs' hs v1' v2 w' := by
  refine ⟨own_lower ho hw, ownS_below h.own2 hb, ?_⟩
  cases h1 : v1'.ownBlock with
  | none => exact .inl rfl
  | some j => exact .inr (fun e => by have := (ho.lt j h1).1; have := (h.lt.2 j e.symm).2; omega)
end Go.Proofs.Ytbgpkngnlfafcaa
