/-
  Parts of one proof, laid as one text: PolLaw, LwPol; what each says stands at its head.
-/
import Derived.Test.YtbgpkngnlfafcaaRows
import Derived.Test.YtbgpkngnlfafcaaBytes
import Derived.Test.YtbgpkngnlfafcaaNameRight
import Derived.Test.YtbgpkngnlfafcaaBlNot
import Derived.Test.YtbgpkngnlfafcaaRulMath
import Derived.Test.YtbgpkngnlfafcaaPolMath
import Derived.Test.YtbgpkngnlfafcaaPolIdx
import Derived.Test.YtbgpkngnlfafcaaRulIdx
import Derived.Test.YtbgpkngnlfafcaaPolAns
import Derived.Test.YtbgpkngnlfafcaaSlA
import Derived.Test.YtbgpkngnlfafcaaBxK
import Derived.Test.YtbgpkngnlfafcaaIntK
import Derived.Test.YtbgpkngnlfafcaaPolS
import Derived.Test.YtbgpkngnlfafcaaLawI
import Derived.Handy
import Derived.WalkSpells
import Derived.OwnWalk
import Derived.Deep.QuietTactic
import Derived.BigQuiet
import Derived.Deep.Cut
import Derived.Deep.CutRange
/-
  Promise 16 as plain laws: a right policy stays right; a rule that is put is there once, and goes again; who is held is held once, and is free again.
-/
namespace Go.Proofs.Ytbgpkngnlfafcaa
open Go.RowKit Go.Lib
set_option linter.unusedVariables false

section
variable {α : Type} {A E : α → Bool}
theorem tw_app {l1 l2 : List α} (h : ∀ x ∈ l1, A x = true) : twI A (l1 ++ l2) = l1.length + twI A l2 := by
  induction l1 with
  | nil => simp
  | cons a l ih =>
    have ha := h a (by simp)
    have := ih (fun x hx => h x (by simp [hx]))
    unfold twI at *
    rw [List.cons_append, List.takeWhile_cons, ha]
    simp only [if_true, List.length_cons]
    omega
theorem tw_head {t : α} {l : List α} (h : A t = false) : twI A (t :: l) = 0 := by
  unfold twI; rw [List.takeWhile_cons, h]; rfl
theorem there_mid {l1 l2 : List α} {t : α} (h : ∀ x ∈ l1, A x = true) (h0 : A t = false) (h1 : E t = true) : twI A (l1 ++ t :: l2) = l1.length ∧ thereB A E (l1 ++ t :: l2) = true := by
  have e : twI A (l1 ++ t :: l2) = l1.length := by rw [tw_app h, tw_head h0]; rfl
  refine ⟨e, ?_⟩
  unfold thereB
  rw [dif_pos (by rw [e]; simp)]
  simp only [e]
  simpa using h1
theorem there_no {l1 l2 : List α} (h : ∀ x ∈ l1, A x = true) (h2 : ∀ x ∈ l2, A x = false ∧ E x = false) : twI A (l1 ++ l2) = l1.length ∧ thereB A E (l1 ++ l2) = false := by
  cases l2 with
  | nil =>
    have e : twI A (l1 ++ []) = l1.length := by rw [tw_app h]; rfl
    refine ⟨e, ?_⟩
    unfold thereB
    rw [dif_neg (by rw [e]; simp)]
  | cons y l =>
    obtain ⟨a, b⟩ := h2 y (by simp)
    have e : twI A (l1 ++ y :: l) = l1.length := by rw [tw_app h, tw_head a]; rfl
    refine ⟨e, ?_⟩
    unfold thereB
    rw [dif_pos (by rw [e]; simp)]
    simp only [e]
    simpa using b
/-- A sorted list at a target: what stands ahead of it, itself, what stands behind it. -/
theorem split_at {l : List α} (mono : ∀ j (hj : j < l.length) i (hi : i ≤ j), A l[j] = true → A (l[i]'(by omega)) = true) (cond : ∀ j (hj : j < l.length), E l[j] = true → A l[j] = false ∧ ∀ i (hi : i < j), A (l[i]'(by omega)) = true) :
    (∀ x ∈ l.take (twI A l), A x = true) ∧ (thereB A E l = true → ∃ x, twI A l < l.length ∧ l = l.take (twI A l) ++ x :: l.drop (twI A l + 1) ∧ E x = true ∧ A x = false ∧ ∀ y ∈ l.drop (twI A l + 1), A y = false ∧ E y = false) ∧ (thereB A E l = false → ∀ y ∈ l.drop (twI A l), A y = false ∧ E y = false) := by
  have far : ∀ j (hj : j < l.length), twI A l < j → A l[j] = false ∧ E l[j] = false := fun j hj h => by
    have a := tw_at A l (by omega)
    have b : A l[j] = false := by
      cases hb : A l[j] with
      | false => rfl
      | true => rw [mono j hj _ (by omega) hb] at a; cases a
    refine ⟨b, ?_⟩
    cases hc : E l[j] with
    | false => rfl
    | true => rw [(cond j hj hc).2 _ h] at a; cases a
  refine ⟨fun x hx => ?_, fun ht => ?_, fun ht y hy => ?_⟩
  · obtain ⟨i, hi, rfl⟩ := List.getElem_of_mem hx
    rw [List.getElem_take]
    exact tw_lt A l i (by simp at hi; omega)
  · unfold thereB at ht
    split at ht
    · rename_i hk
      refine ⟨l[twI A l], hk, ?_, ht, tw_at A l hk, fun y hy => ?_⟩
      · rw [← List.drop_eq_getElem_cons hk, List.take_append_drop]
      · obtain ⟨i, hi, rfl⟩ := List.getElem_of_mem hy
        rw [List.getElem_drop]
        exact far _ (by simp at hi; omega) (by omega)
    · cases ht
  · obtain ⟨i, hi, rfl⟩ := List.getElem_of_mem hy
    rw [List.getElem_drop]
    have hk : twI A l < l.length := by simp at hi; omega
    unfold thereB at ht
    rw [dif_pos hk] at ht
    by_cases h0 : i = 0
    · subst h0
      exact ⟨by simpa using tw_at A l hk, by simpa using ht⟩
    · exact far _ (by simp at hi; omega) (by omega)
end
theorem monoI' {hs : List Int} (h : okL heB heLt hs = true) (r : Int) : ∀ j (hj : j < hs.length) i (hi : i ≤ j), ltI r hs[j] = true → ltI r (hs[i]'(by omega)) = true := monoI h r
theorem okI_pw {hs : List Int} : okL heB heLt hs = true ↔ (∀ x ∈ hs, heB x = true) ∧ hs.Pairwise (fun a b => heLt a b = true) := by
  refine ⟨fun h => ⟨(okL_parts h).1, List.pairwise_iff_getElem.2 (fun i j hi hj hij => by unfold heLt; exact decide_eq_true (rise_lt h j i hj hij))⟩, fun ⟨h1, h2⟩ => okL_true (fun j hj => h1 _ (List.getElem_mem hj)) (fun j h0 hj => List.pairwise_iff_getElem.1 h2 _ _ (by omega) hj (by omega))⟩
theorem okR_pw {rs : List Rul} : okL ruB ruLt rs = true ↔ (∀ x ∈ rs, ruB x = true) ∧ rs.Pairwise (fun a b => ruLt a b = true) := by
  refine ⟨fun h => ⟨(okL_parts h).1, List.pairwise_iff_getElem.2 (fun i j hi hj hij => riseR h j i hj hij)⟩, fun ⟨h1, h2⟩ => okL_true (fun j hj => h1 _ (List.getElem_mem hj)) (fun j h0 hj => List.pairwise_iff_getElem.1 h2 _ _ (by omega) hj (by omega))⟩
theorem rl_total (ak af bk bf : ByteArray) (h1 : rlLess ak af bk bf = false) (h2 : ((ak.toList == bk.toList) && (af.toList == bf.toList)) = false) : rlLess bk bf ak af = true := by
  unfold rlLess at *
  have n1 := bl_not ak.toList bk.toList
  have n2 := bl_not af.toList bf.toList
  simp only [Bool.or_eq_false_iff] at h1
  obtain ⟨a1, a2⟩ := h1
  rw [a1] at n1
  cases e : (ak.toList == bk.toList) with
  | false =>
    have e' : (bk.toList == ak.toList) = false := by
      cases h : (bk.toList == ak.toList) with
      | false => rfl
      | true => rw [eq_of_beq h] at e; simp at e
    rw [e'] at n1
    simp only [Bool.or_false, Bool.not_false] at n1
    rw [n1]; rfl
  | true =>
    rw [e] at a2 h2
    simp only [Bool.true_and] at a2 h2
    rw [a2] at n2
    have e' : (bk.toList == ak.toList) = true := by rw [eq_of_beq e]; exact beq_self_eq_true _
    have f' : (bf.toList == af.toList) = false := by
      cases h : (bf.toList == af.toList) with
      | false => rfl
      | true => rw [eq_of_beq h] at h2; simp at h2
    rw [f'] at n2
    simp only [Bool.or_false, Bool.not_false] at n2
    rw [e', n2]; simp
theorem eqR_self (R : Rul) : eqR R.k R.f R = true := by unfold eqR; simp
theorem ltR_self (R : Rul) : ltR R.k R.f R = false := by unfold ltR rlLess; rw [bl_irr, bl_irr]; simp
theorem polB_of {rs : List Rul} {hs : List Int} (h1 : rs.length ≤ 6) (h2 : okL ruB ruLt rs = true) (h3 : okL heB heLt hs = true) : polB rs hs = true := by
  unfold polB; rw [h2, h3]; simp; exact h1

/-- What is held and what is not, taken apart at a number. -/
theorem hold_parts {rs : List Rul} {hs : List Int} {r : Int} (h : hoC rs hs r = 0) : polB rs hs = true ∧ heB r = true ∧ hoB hs r = false ∧ hoR rs hs r = rs ∧ hoH rs hs r = hs.take (hoT hs r) ++ r :: hs.drop (hoT hs r) := by
  have hR : hoR rs hs r = rs := by unfold hoR; rw [if_pos h]
  have hH : hoH rs hs r = hs.take (hoT hs r) ++ [r] ++ hs.drop (hoT hs r) := by unfold hoH; rw [if_pos h]
  unfold hoC at h
  split at h
  · rename_i hp
    split at h
    · omega
    · rename_i hb
      exact ⟨hp.1, hp.2, by simpa using hb, hR, by rw [hH]; simp⟩
  · omega
theorem ho_right {rs : List Rul} {hs : List Int} {r : Int} (h : hoC rs hs r = 0) : polB (hoR rs hs r) (hoH rs hs r) = true := by
  obtain ⟨hp, hr, hb, e1, e2⟩ := hold_parts h
  obtain ⟨p1, p2, p3, p4, p5⟩ := polB_parts hp
  rw [e1, e2]
  refine polB_of p1 p2 ?_
  obtain ⟨s1, -, s3⟩ := split_at (monoI p3 r) (condI p3 r)
  have s3 := s3 hb
  obtain ⟨q1, q2⟩ := okI_pw.1 p3
  have e : hs.take (hoT hs r) ++ hs.drop (hoT hs r) = hs := List.take_append_drop _ _
  have q3 := q2
  rw [← e] at q3
  rw [List.pairwise_append] at q3
  refine okI_pw.2 ⟨fun x hx => ?_, ?_⟩
  · rcases List.mem_append.1 hx with g | g
    · exact q1 x (List.mem_of_mem_take g)
    · rcases List.mem_cons.1 g with rfl | g
      · exact hr
      · exact q1 x (List.mem_of_mem_drop g)
  · rw [List.pairwise_append]
    refine ⟨q3.1, List.pairwise_cons.2 ⟨fun y hy => ?_, q3.2.1⟩, fun x hx y hy => ?_⟩
    · obtain ⟨a, b⟩ := s3 y hy
      unfold ltI at a
      unfold eqI at b
      unfold heLt
      simp at a b ⊢
      omega
    · rcases List.mem_cons.1 hy with rfl | g
      · have := s1 x hx
        unfold ltI at this
        unfold heLt
        exact this
      · exact q3.2.2 x hx y g
/-- Who is held is held once. -/
theorem ho_again {rs : List Rul} {hs : List Int} {r : Int} (h : hoC rs hs r = 0) : hoC (hoR rs hs r) (hoH rs hs r) r = 7 ∧ frC (hoR rs hs r) (hoH rs hs r) r = 0 ∧ frR (hoR rs hs r) (hoH rs hs r) r = rs ∧ frH (hoR rs hs r) (hoH rs hs r) r = hs := by
  have hq := ho_right h
  obtain ⟨hp, hr, hb, e1, e2⟩ := hold_parts h
  obtain ⟨p1, p2, p3, p4, p5⟩ := polB_parts hp
  obtain ⟨s1, -, -⟩ := split_at (monoI p3 r) (condI p3 r)
  have m := there_mid (A := ltI r) (E := eqI r) (t := r) (l2 := hs.drop (hoT hs r)) s1 (by unfold ltI; simp) (by unfold eqI; simp)
  have hT : hoT (hoH rs hs r) r = (hs.take (hoT hs r)).length := by rw [e2]; exact m.1
  have hB : hoB (hoH rs hs r) r = true := by rw [e2]; exact m.2
  have hF : frC (hoR rs hs r) (hoH rs hs r) r = 0 := by unfold frC; rw [if_pos ⟨hq, hr⟩, if_pos hB]
  refine ⟨by unfold hoC; rw [if_pos ⟨hq, hr⟩, if_pos hB], hF, by unfold frR; rw [if_pos hF, e1], ?_⟩
  unfold frH
  rw [if_pos hF, hT, e2, List.take_left' rfl, show (hs.take (hoT hs r)).length + 1 = (hs.take (hoT hs r) ++ [r]).length by simp, show hs.take (hoT hs r) ++ r :: hs.drop (hoT hs r) = (hs.take (hoT hs r) ++ [r]) ++ hs.drop (hoT hs r) by simp, List.drop_left' rfl, List.take_append_drop]
theorem fr_right {rs : List Rul} {hs : List Int} {r : Int} (h : frC rs hs r = 0) : polB (frR rs hs r) (frH rs hs r) = true := by
  have e1 : frR rs hs r = rs := by unfold frR; rw [if_pos h]
  have e2 : frH rs hs r = hs.take (hoT hs r) ++ hs.drop (hoT hs r + 1) := by unfold frH; rw [if_pos h]
  unfold frC at h
  split at h
  · rename_i hp
    obtain ⟨p1, p2, p3, p4, p5⟩ := polB_parts hp.1
    rw [e1, e2]
    refine polB_of p1 p2 (okI_pw.2 ?_)
    obtain ⟨q1, q2⟩ := okI_pw.1 p3
    have sub : List.Sublist (hs.take (hoT hs r) ++ hs.drop (hoT hs r + 1)) hs := by
      have g : List.Sublist (hs.drop (hoT hs r + 1)) (hs.drop (hoT hs r)) := by rw [← List.drop_drop]; exact List.drop_sublist _ _
      have := (List.Sublist.refl (hs.take (hoT hs r))).append g
      rwa [List.take_append_drop] at this
    exact ⟨fun x hx => q1 x (sub.subset hx), q2.sublist sub⟩
  · omega
/-- A rule that is put stands at its place, once. -/
theorem put_parts {rs : List Rul} {hs : List Int} {R : Rul} (h : rpC rs hs R = 0) : polB rs hs = true ∧ ruB R = true ∧ rpH rs hs R = hs ∧ ∃ l1 l2, rpR rs hs R = l1 ++ R :: l2 ∧ (∀ x ∈ l1, ltR R.k R.f x = true) ∧ (∀ x ∈ l2, ltR R.k R.f x = false ∧ eqR R.k R.f x = false) ∧ List.Sublist (l1 ++ l2) rs ∧ (l1 ++ R :: l2).length ≤ 6 := by
  have e1 : rpR rs hs R = if rpB rs R = true then rs.set (rpT rs R) R else rs.take (rpT rs R) ++ [R] ++ rs.drop (rpT rs R) := by unfold rpR; rw [if_pos h]
  have e2 : rpH rs hs R = hs := by unfold rpH; rw [if_pos h]
  unfold rpC at h
  split at h
  · rename_i hp
    obtain ⟨p1, p2, p3, p4, p5⟩ := polB_parts hp.1
    obtain ⟨s1, s2, s3⟩ := split_at (monoR p2 R.k R.f) (condR p2 R.k R.f)
    refine ⟨hp.1, hp.2, e2, ?_⟩
    by_cases hb : rpB rs R = true
    · obtain ⟨x, hk, hl, -, -, s4⟩ := s2 hb
      refine ⟨rs.take (rpT rs R), rs.drop (rpT rs R + 1), ?_, s1, s4, ?_, ?_⟩
      · rw [e1, if_pos hb]
        have hk' : rpT rs R < rs.length := hk
        rw [List.set_eq_take_append_cons_drop, if_pos hk']
      · have g : List.Sublist (rs.drop (rpT rs R + 1)) (rs.drop (rpT rs R)) := by rw [← List.drop_drop]; exact List.drop_sublist _ _
        have := (List.Sublist.refl (rs.take (rpT rs R))).append g
        rwa [List.take_append_drop] at this
      · have hk' : rpT rs R < rs.length := hk
        simp
        omega
    · rw [if_neg hb] at h
      have hne : rs.length ≠ 6 := fun e => by rw [if_pos e] at h; omega
      have s3 := s3 (by simpa [rpB] using hb)
      have hk : rpT rs R ≤ rs.length := tw_le _ _
      refine ⟨rs.take (rpT rs R), rs.drop (rpT rs R), ?_, s1, s3, ?_, ?_⟩
      · rw [e1, if_neg hb]; simp
      · rw [List.take_append_drop]; exact List.Sublist.refl _
      · simp; omega
  · omega
theorem rp_right {rs : List Rul} {hs : List Int} {R : Rul} (h : rpC rs hs R = 0) : polB (rpR rs hs R) (rpH rs hs R) = true := by
  obtain ⟨hp, hr, e2, l1, l2, e1, s1, s2, sub, hl⟩ := put_parts h
  obtain ⟨p1, p2, p3, p4, p5⟩ := polB_parts hp
  obtain ⟨q1, q2⟩ := okR_pw.1 p2
  have q3 := q2.sublist sub
  rw [List.pairwise_append] at q3
  rw [e1, e2]
  refine polB_of hl (okR_pw.2 ⟨fun x hx => ?_, ?_⟩) p3
  · rcases List.mem_append.1 hx with g | g
    · exact q1 x (sub.subset (List.mem_append.2 (.inl g)))
    · rcases List.mem_cons.1 g with rfl | g
      · exact hr
      · exact q1 x (sub.subset (List.mem_append.2 (.inr g)))
  · rw [List.pairwise_append]
    refine ⟨q3.1, List.pairwise_cons.2 ⟨fun y hy => ?_, q3.2.1⟩, fun x hx y hy => ?_⟩
    · obtain ⟨a, b⟩ := s2 y hy
      exact rl_total _ _ _ _ a b
    · rcases List.mem_cons.1 hy with rfl | g
      · exact s1 x hx
      · exact q3.2.2 x hx y g
theorem rd_right {rs : List Rul} {hs : List Int} {k f : ByteArray} (h : rdC rs hs k f = 0) : polB (rdR rs hs k f) (rdH rs hs k f) = true := by
  have e1 : rdR rs hs k f = rs.take (rdT rs k f) ++ rs.drop (rdT rs k f + 1) := by unfold rdR; rw [if_pos h]
  have e2 : rdH rs hs k f = hs := by unfold rdH; rw [if_pos h]
  unfold rdC at h
  split at h
  · omega
  · split at h
    · rename_i hp
      obtain ⟨p1, p2, p3, p4, p5⟩ := polB_parts hp
      have sub : List.Sublist (rs.take (rdT rs k f) ++ rs.drop (rdT rs k f + 1)) rs := by
        have g : List.Sublist (rs.drop (rdT rs k f + 1)) (rs.drop (rdT rs k f)) := by rw [← List.drop_drop]; exact List.drop_sublist _ _
        have := (List.Sublist.refl (rs.take (rdT rs k f))).append g
        rwa [List.take_append_drop] at this
      obtain ⟨q1, q2⟩ := okR_pw.1 p2
      rw [e1, e2]
      exact polB_of (Nat.le_trans sub.length_le p1) (okR_pw.2 ⟨fun x hx => q1 x (sub.subset hx), q2.sublist sub⟩) p3
    · omega
/-- A rule that was put goes again, and is there no more. -/
theorem rp_drop {rs : List Rul} {hs : List Int} {R : Rul} (h : rpC rs hs R = 0) : rdC (rpR rs hs R) (rpH rs hs R) R.k R.f = 0 ∧ rdC (rdR (rpR rs hs R) (rpH rs hs R) R.k R.f) (rdH (rpR rs hs R) (rpH rs hs R) R.k R.f) R.k R.f = 6 := by
  have hq := rp_right h
  obtain ⟨hp, hr, e2, l1, l2, e1, s1, s2, sub, hl⟩ := put_parts h
  have m := there_mid (A := ltR R.k R.f) (E := eqR R.k R.f) (t := R) (l2 := l2) s1 (ltR_self R) (eqR_self R)
  have hT : rdT (rpR rs hs R) R.k R.f = l1.length := by rw [e1]; exact m.1
  have hB : rdB (rpR rs hs R) R.k R.f = true := by rw [e1]; exact m.2
  obtain ⟨z1, z2⟩ := ruB_le hr
  have hz : ¬ (8000 < R.k.size ∨ 8000 < R.f.size) := by omega
  have hF : rdC (rpR rs hs R) (rpH rs hs R) R.k R.f = 0 := by unfold rdC; rw [if_neg hz, if_pos hq, if_pos hB]
  refine ⟨hF, ?_⟩
  have hq2 := rd_right hF
  have e3 : rdR (rpR rs hs R) (rpH rs hs R) R.k R.f = l1 ++ l2 := by
    unfold rdR
    rw [if_pos hF, hT, e1, List.take_left' rfl, show l1.length + 1 = (l1 ++ [R]).length by simp, show l1 ++ R :: l2 = (l1 ++ [R]) ++ l2 by simp, List.drop_left' rfl]
  have hB2 : rdB (rdR (rpR rs hs R) (rpH rs hs R) R.k R.f) R.k R.f = false := by rw [e3]; exact (there_no s1 s2).2
  unfold rdC
  rw [if_neg hz, if_pos hq2, if_neg (by rw [hB2]; simp)]
end Go.Proofs.Ytbgpkngnlfafcaa
/-
  What lwPolicy answers of two answers that are alike.
  Conditions: the slices' cells hold the rules and the numbers; with the code OK the policy is right.
-/
namespace Go.Proofs.Ytbgpkngnlfafcaa
open Go.RowKit Go.Lib
set_option linter.unusedVariables false
set_option maxRecDepth 20000

theorem two_new (W : World) (cs ds : Array Value) (T : TypeId) : Bxs ((W.alloc (.cells cs T)).alloc (.cells ds T)).drew W.heap.size T cs ∧ Bxs ((W.alloc (.cells cs T)).alloc (.cells ds T)).drew (W.heap.size + 1) T ds ∧ Below W.heap.size W ((W.alloc (.cells cs T)).alloc (.cells ds T)).drew := by
  have hs : (W.alloc (.cells cs T)).heap.size = W.heap.size + 1 := by simp
  refine ⟨(Bxs.new W T cs).alloc _, ?_, (((Below.refl _ _).alloc (Nat.le_refl _) _).alloc (by rw [hs]; omega) _).drew⟩
  have := Bxs.new (W.alloc (.cells cs T)) T ds
  rw [hs] at this
  exact this
set_option maxHeartbeats 4000000 in
theorem lwPolicy_any (p1 p2 q1 q2 : Option Addr) (c1 c2 d1 d2 : Nat) (rs : List Rul) (hs : List Int) (c : Int) (w : World) (h1 : RulAt w p1 rs) (h2 : IntAt w p2 hs) (g1 : RulAt w q1 rs) (g2 : IntAt w q2 hs) (n1 : rs.length ≤ 1048576) (n2 : hs.length ≤ 1048576) (m1 : rs.length ≤ c1) (m2 : hs.length ≤ c2) (m3 : rs.length ≤ d1) (m4 : hs.length ≤ d2) (hz : RulsLe rs) (hr : c = 0 → polB rs hs = true) :
    Calls Try.prog 10 #[.agg #[.slice p1 rs.length c1, .slice p2 hs.length c2, .int .i64 c], .agg #[.slice q1 rs.length d1, .slice q2 hs.length d2, .int .i64 c]] w fun e w' => e = .returned (.bool true) ∧ Below w.heap.size w w' := by
  obtain ⟨W0, hW0⟩ : ∃ W0, W0 = w.alloc (.cells #[.slice p1 rs.length c1, .slice p2 hs.length c2, .int .i64 c] 32) := ⟨_, rfl⟩
  have hz0 : W0.heap.size = w.heap.size + 1 := by rw [hW0]; simp
  obtain ⟨W1, hW1⟩ : ∃ W1, W1 = W0.alloc (.cells #[.slice q1 rs.length d1, .slice q2 hs.length d2, .int .i64 c] 32) := ⟨_, rfl⟩
  have hzW : W1.heap.size = w.heap.size + 1 + 1 := by rw [hW1]; simp [hz0]
  have HW1 : Hid (W1 = (w.alloc (.cells #[.slice p1 rs.length c1, .slice p2 hs.length c2, .int .i64 c] 32)).alloc (.cells #[.slice q1 rs.length d1, .slice q2 hs.length d2, .int .i64 c] 32)) := by rw [hW1, hW0]; exact rfl
  have hB0 : Below w.heap.size w W0 := by rw [hW0]; exact (Below.refl _ _).alloc (Nat.le_refl _) _
  have B1 : Hid (Below w.heap.size w W1) := by rw [hW1]; exact alB hB0 _
  have X1 : Hid (Bxs W1 w.heap.size 32 #[.slice p1 rs.length c1, .slice p2 hs.length c2, .int .i64 c]) := by rw [hW1]; refine Bxs.alloc ?_ _; rw [hW0]; exact Bxs.new _ _ _
  have X2 : Hid (Bxs W1 (w.heap.size + 1) 32 #[.slice q1 rs.length d1, .slice q2 hs.length d2, .int .i64 c]) := by rw [hW1, ← hz0]; exact Bxs.new _ _ _
  have HRI : Hid (∀ x, Below W1.heap.size W1 x → RulAt x p1 rs ∧ IntAt x p2 hs ∧ RulAt x q1 rs ∧ IntAt x q2 hs) := fun x hb => by
    have k := chainB B1.out hb
    exact ⟨h1.below k, h2.below k, g1.below k, g2.below k⟩
  have HZ : Hid (∀ r ∈ rs, r.k.size ≤ maxLen ∧ r.f.size ≤ maxLen) := hz
  have x0 : W1.cell? ⟨w.heap.size, 0, none⟩ = some (.slice p1 rs.length c1) := X1.out.cell 0
  have x1 : W1.cell? ⟨w.heap.size, 1, none⟩ = some (.slice p2 hs.length c2) := X1.out.cell 1
  have x2 : W1.cell? ⟨w.heap.size, 2, none⟩ = some (.int .i64 c) := X1.out.cell 2
  have y0 : W1.cell? ⟨w.heap.size + 1, 0, none⟩ = some (.slice q1 rs.length d1) := X2.out.cell 0
  have y1 : W1.cell? ⟨w.heap.size + 1, 1, none⟩ = some (.slice q2 hs.length d2) := X2.out.cell 1
  have y2 : W1.cell? ⟨w.heap.size + 1, 2, none⟩ = some (.int .i64 c) := X2.out.cell 2
  clear hW1 hW0 h1 h2 g1 g2 hB0 hz0 hz
  go_enter Try.func10, Try.ntmps10
  go_upto_region 1 with fail

  have HT1 := two_new W1 #[.slice p1 rs.length c1, .slice p2 hs.length c2] #[.slice q1 rs.length d1, .slice q2 hs.length d2] 26
  have HT2 := two_new W1 #[.slice q1 rs.length d1, .slice q2 hs.length d2] #[.slice p1 rs.length c1, .slice p2 hs.length c2] 26
  rw [hzW] at HT1 HT2
  have HT1 : Hid _ := HT1
  have HT2 : Hid _ := HT2
  go_cut [5, 6] from 9 to 12 (fun s5 s6 wx => ∃ E1 E2, s5 = .pointer (some ⟨E1, 0, none⟩) ∧ s6 = .pointer (some ⟨E2, 0, none⟩) ∧ Hid (Bxs wx E1 26 #[.slice p1 rs.length c1, .slice p2 hs.length c2]) ∧ Hid (Bxs wx E2 26 #[.slice q1 rs.length d1, .slice q2 hs.length d2]) ∧ Hid (Below (w.heap.size + 1 + 1) W1 wx))
  case first =>
    go_region
    all_goals
      go_wp2_with fail
      go_meet
      rw [← HW1.out]
      first
        | exact ⟨_, _, rfl, rfl, HT1.out.1, HT1.out.2.1, HT1.out.2.2⟩
        | exact ⟨_, _, rfl, rfl, HT2.out.2.1, HT2.out.1, HT2.out.2.2⟩
  case rest =>
    obtain ⟨E1, E2, rfl, rfl, K1, K2, BX⟩ := hcut
    obtain ⟨w2, rfl⟩ : ∃ w2 : World, w2 = wc := ⟨_, rfl⟩
    rw [← hzW] at BX
    have e0 : w2.cell? ⟨E1, 0, none⟩ = some (.slice p1 rs.length c1) := K1.out.cell 0
    have e1 : w2.cell? ⟨E1, 1, none⟩ = some (.slice p2 hs.length c2) := K1.out.cell 1
    have e2 : w2.cell? ⟨E2, 0, none⟩ = some (.slice q1 rs.length d1) := K2.out.cell 0
    have e3 : w2.cell? ⟨E2, 1, none⟩ = some (.slice q2 hs.length d2) := K2.out.cell 1
    have f2 : w2.cell? ⟨w.heap.size, 2, none⟩ = some (.int .i64 c) := (X1.out.below BX.out).cell 2
    have f5 : w2.cell? ⟨w.heap.size + 1, 2, none⟩ = some (.int .i64 c) := (X2.out.below BX.out).cell 2
    have FX : Hid (Bxs w2 w.heap.size 32 #[.slice p1 rs.length c1, .slice p2 hs.length c2, .int .i64 c]) := X1.out.below BX.out
    have HR2 : Hid (∀ x, Below w2.heap.size w2 x → RulAt x p1 rs ∧ IntAt x p2 hs ∧ RulAt x q1 rs ∧ IntAt x q2 hs) := fun x hb => HRI.out x (chainB BX.out hb)
    have BW : Hid (Below w.heap.size w w2) := chainB B1.out BX.out
    have HQ : Hid (∀ x, Below w2.heap.size w2 x → Calls Try.prog 18 #[.agg #[.slice p1 rs.length c1, .slice p2 hs.length c2]] x fun e x' => e = .returned (.bool (polB rs hs)) ∧ Below x.heap.size x x') := fun x hb => specPolicyRight_any p1 p2 c1 c2 rs hs x (HR2.out x hb).1 (HR2.out x hb).2.1 n1 n2 m1 m2 HZ.out
    clear HT1 HT2 X1 X2 HRI x0 x1 x2 y0 y1 y2 hzW HW1 BX B1
    have bcc : (c != c) = false := by simp
    go_wp2_with fail
    go_loopw [7] (fun i wr => ∃ k : Nat, k ≤ rs.length ∧ i = .int .i64 k ∧ Hid (Below w2.heap.size w2 wr)) (fun i _ => rs.length - (intOf i).toNat)
    case atStart => exact ⟨0, Nat.zero_le _, rfl, Below.refl _ _⟩
    case round =>
      clear e0 e1 e2 e3 f2 f5
      obtain ⟨k, hk, rfl, HB⟩ := hrel
      have e0 : wr.cell? ⟨E1, 0, none⟩ = some (.slice p1 rs.length c1) := (K1.out.below HB.out).cell 0
      have e2 : wr.cell? ⟨E2, 0, none⟩ = some (.slice q1 rs.length d1) := (K2.out.below HB.out).cell 0
      by_cases hlt : k < rs.length
      · obtain ⟨b, off, rfl, hb, hc1, hc2, hc3, hc4⟩ := (HR2.out _ HB.out).1 k hlt
        obtain ⟨b2, off2, rfl, hb2, hd1, hd2, hd3, hd4⟩ := (HR2.out _ HB.out).2.2.1 k hlt
        have j5 : (k : Int) < rs.length := by omega
        generalize rs[k] = P at *
        obtain ⟨A, D, l, m⟩ := P
        have hc1 : wr.cell? ⟨b, off + k * 4, none⟩ = some (.string A) := hc1
        have hc2 : wr.cell? ⟨b, off + k * 4 + 1, none⟩ = some (.string D) := hc2
        have hc3 : wr.cell? ⟨b, off + k * 4 + 2, none⟩ = some (.int .i64 l) := hc3
        have hc4 : wr.cell? ⟨b, off + k * 4 + 3, none⟩ = some (.int .i64 m) := hc4
        have hd1 : wr.cell? ⟨b2, off2 + k * 4, none⟩ = some (.string A) := hd1
        have hd2 : wr.cell? ⟨b2, off2 + k * 4 + 1, none⟩ = some (.string D) := hd2
        have hd3 : wr.cell? ⟨b2, off2 + k * 4 + 2, none⟩ = some (.int .i64 l) := hd3
        have hd4 : wr.cell? ⟨b2, off2 + k * 4 + 3, none⟩ = some (.int .i64 m) := hd4
        go_wp2_with fail
        go_quiet (fail)
        go_wp2_with fail
        go_roundw
        case rel => exact ⟨k + 1, by omega, by go_num, belowDi HB.out _⟩
        case measure => simp [intOf]; omega
      · have e1 : wr.cell? ⟨E1, 1, none⟩ = some (.slice p2 hs.length c2) := (K1.out.below HB.out).cell 1
        have HB1 : Hid (Below w2.heap.size w2 wr) := HB.out
        obtain ⟨w3, rfl⟩ : ∃ w3 : World, w3 = wr := ⟨_, rfl⟩
        clear HB
        go_wp2_with fail
        go_loopw [8] (fun i wr => ∃ k : Nat, k ≤ hs.length ∧ i = .int .i64 k ∧ Hid (Below w2.heap.size w2 wr)) (fun i _ => hs.length - (intOf i).toNat)
        case atStart => exact ⟨0, Nat.zero_le _, rfl, HB1.out⟩
        case round =>
          clear e0 e1 e2
          obtain ⟨k, hk, rfl, HB⟩ := hrel
          have e1 : wr.cell? ⟨E1, 1, none⟩ = some (.slice p2 hs.length c2) := (K1.out.below HB.out).cell 1
          have e3 : wr.cell? ⟨E2, 1, none⟩ = some (.slice q2 hs.length d2) := (K2.out.below HB.out).cell 1
          by_cases hlt2 : k < hs.length
          · obtain ⟨b, off, rfl, hb, hc1⟩ := (HR2.out _ HB.out).2.1 k hlt2
            obtain ⟨b2, off2, rfl, hb2, hd1⟩ := (HR2.out _ HB.out).2.2.2 k hlt2
            have j5 : (k : Int) < hs.length := by omega
            generalize hs[k] = P at *
            go_wp2_with fail
            go_quiet (fail)
            go_wp2_with fail
            go_roundw
            case rel => exact ⟨k + 1, by omega, by go_num, belowDi HB.out _⟩
            case measure => simp [intOf]; omega
          · have f2 : wr.cell? ⟨w.heap.size, 2, none⟩ = some (.int .i64 c) := (FX.out.below HB.out).cell 2
            have e0 : wr.cell? ⟨E1, 0, none⟩ = some (.slice p1 rs.length c1) := (K1.out.below HB.out).cell 0
            have h2 := HQ.out wr HB.out
            have b1 := chainB BW.out HB.out
            clear HQ HR2 FX K1 K2
            by_cases hc : c = 0
            · rw [hr hc] at h2
              subst hc
              go_wp2_with fail
              refine h2.mono ?_
              rintro e w4 ⟨rfl, b2⟩
              have b2 := chainB b1 b2
              go_wp2_with fail
              go_ret
              exact ⟨rfl, b2⟩
            · have dc : (c != 0) = true := bne_iff_ne.2 hc
              clear h2 hr
              go_wp2_with fail
              go_ret
              exact ⟨rfl, b1⟩
end Go.Proofs.Ytbgpkngnlfafcaa
