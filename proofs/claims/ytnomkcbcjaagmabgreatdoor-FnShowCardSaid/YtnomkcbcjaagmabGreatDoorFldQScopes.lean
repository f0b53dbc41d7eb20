/-
  Parts of one proof, laid as one text: FldQ, Scopes; what each says stands at its head.
-/
import Derived.Test.YtnomkcbcjaagmabGreatDoorRows
import Derived.Test.YtnomkcbcjaagmabGreatDoorBytesDigMath
import Derived.Test.YtnomkcbcjaagmabGreatDoorScanMathGetValGetTxtSpecGN
import Derived.Test.YtnomkcbcjaagmabGreatDoorFldRiseFldGShwK
import Derived.Test.YtnomkcbcjaagmabGreatDoorJoinedPutTextFldMath
import Derived.Test.YtnomkcbcjaagmabGreatDoorSpecGTTillTwoFldRd
import Derived.Test.YtnomkcbcjaagmabGreatDoorFldV
import Derived.Test.YtnomkcbcjaagmabGreatDoorFldB
import Derived.Test.YtnomkcbcjaagmabGreatDoorFldP
import Derived.Test.YtnomkcbcjaagmabGreatDoorNumMathNumFromFldK
import Derived.Handy
import Derived.ScopeJumps
import Derived.WalkMore
/-
  What the program's ShownRead reads, as plain functions (it reads on behind a fault, and at most three pairs); it answers as the specification's does.
-/
namespace Go.Proofs.YtnomkcbcjaagmabGreatDoor
open Go.RowKit Go.Lib
set_option linter.unusedVariables false

def rdIt (t : ByteArray) : Nat → RdT → RdT
  | 0, s => s
  | k + 1, s => rdIt t k (rdStep t s)
theorem rdIt_succ (t : ByteArray) : ∀ (k : Nat) (s : RdT), rdIt t (k + 1) s = rdStep t (rdIt t k s)
  | 0, s => rfl
  | k + 1, s => rdIt_succ t k (rdStep t s)
theorem rdL_it (t : ByteArray) : ∀ (k : Nat) (s : RdT), (rdL t k s).bd = false → rdL t k s = rdIt t k s
  | 0, s, _ => rfl
  | k + 1, s, h => by
    cases hb : s.bd with
    | true => rw [rdL_bad t (k + 1) s hb, hb] at h; cases h
    | false =>
      rw [rdL_step t k s hb] at h ⊢
      exact rdL_it t k (rdStep t s) h
def pa1 (t : ByteArray) : Int := rnA t (rtA t 0 false) (rtB t 0 false)
def pb1 (t : ByteArray) : Bool := rnB t (rtA t 0 false) (rtB t 0 false)
def prN (t : ByteArray) : Int := rnN t (pa1 t) (pb1 t)
def prM (t : ByteArray) : Int := if prN t < 3 then prN t else 3
def pr0 (t : ByteArray) : RdT := ⟨rnA t (pa1 t) (pb1 t), rnB t (pa1 t) (pb1 t), [], []⟩
def prL (t : ByteArray) : RdT := rdIt t (prM t).toNat (pr0 t)
def prP (t : ByteArray) : Shw := ⟨srK t, srAt t, (prL t).ns, (prL t).cs, srIx t (prL t), srS t (prL t), srV t (prL t)⟩
def prC (t : ByteArray) : Int := if 8000 < t.size then 2 else if srBd t (prL t) = true ∨ ((sbB (prP t)).toList == t.toList) = false then 3 else 0
def prO (t : ByteArray) : Shw := if prC t = 0 then prP t else shwZ
theorem rnB_bad (t : ByteArray) (a : Int) : rnB t a true = true := rfl
theorem rtB_bad (t : ByteArray) (a : Int) : rtB t a true = true := rfl
theorem srBd_false {t : ByteArray} {s : RdT} (h : srBd t s = false) : s.bd = false := by
  cases hb : s.bd with
  | false => rfl
  | true =>
    unfold srBd at h
    rw [hb, rnB_bad, rtB_bad, rtB_bad] at h; cases h
theorem pr_of_sr {t : ByteArray} (h : srBd t (srL t) = false) : prL t = srL t := by
  have hb := srBd_false h
  have e0 : srL t = rdL t (rmN t (pa1 t) (pb1 t) 3).toNat ⟨rnA t (pa1 t) (pb1 t), rmB t (pa1 t) (pb1 t) 3, [], []⟩ := rfl
  have hm : rmB t (pa1 t) (pb1 t) 3 = false := by
    cases hr : rmB t (pa1 t) (pb1 t) 3 with
    | false => rfl
    | true => rw [e0, hr, rdL_bad _ _ _ rfl] at hb; cases hb
  have hin : inM (prN t) 3 = true := by
    cases hi : inM (prN t) 3 with
    | true => rfl
    | false =>
      have e1 : rmB t (pa1 t) (pb1 t) 3 = true := if_neg (by show ¬ inM (prN t) 3 = true; rw [hi]; exact Bool.false_ne_true)
      rw [e1] at hm; cases hm
  have e2 : rmB t (pa1 t) (pb1 t) 3 = rnB t (pa1 t) (pb1 t) := if_pos hin
  have e3 : rmN t (pa1 t) (pb1 t) 3 = prN t := if_pos hin
  have e4 : prM t = prN t := by
    unfold inM at hin
    rw [decide_eq_true_iff] at hin
    unfold prM
    split <;> omega
  have h5 : (rdL t (prN t).toNat (pr0 t)).bd = false := by rw [e0, e2, e3] at hb; exact hb
  rw [e0, e2, e3]
  unfold prL
  rw [e4]
  exact (rdL_it t _ _ h5).symm
theorem rtB_none : rtB ByteArray.empty 0 false = true := by decide
theorem pr_sr (t : ByteArray) : prC t = srC t ∧ (srC t = 0 → prP t = srP t) := by
  by_cases h8 : 8000 < t.size
  · have e1 : prC t = 2 := if_pos h8
    have e2 : srC t = 2 := if_pos h8
    rw [e1, e2]; exact ⟨rfl, fun h => by cases h⟩
  by_cases hp : srBd t (prL t) = true ∨ ((sbB (prP t)).toList == t.toList) = false
  · have e1 : prC t = 3 := by unfold prC; rw [if_neg h8, if_pos hp]
    have e2 : srC t = 3 := by
      unfold srC
      rw [if_neg h8, if_pos]
      refine Decidable.byContradiction fun hn => ?_
      have n1 : srBd t (srL t) = false := by
        cases hb : srBd t (srL t) with
        | false => rfl
        | true => exact absurd (Or.inl hb) hn
      have n2 : ((sbB (srP t)).toList == t.toList) = true := by
        cases hb : ((sbB (srP t)).toList == t.toList) with
        | true => rfl
        | false => exact absurd (Or.inr (Or.inr hb)) hn
      have e := pr_of_sr n1
      have e3 : prP t = srP t := by unfold prP srP; rw [e]
      rcases hp with hp | hp
      · rw [e, n1] at hp; cases hp
      · rw [e3, n2] at hp; cases hp
    rw [e1, e2]; exact ⟨rfl, fun h => by cases h⟩
  · have e1 : prC t = 0 := by unfold prC; rw [if_neg h8, if_neg hp]
    have n1 : srBd t (prL t) = false := by
      cases hb : srBd t (prL t) with
      | false => rfl
      | true => exact absurd (Or.inl hb) hp
    have n2 : sbB (prP t) = t := by
      rw [← toL_iff]
      cases hb : ((sbB (prP t)).toList == t.toList) with
      | true => rfl
      | false => exact absurd (Or.inr hb) hp
    have hok : sbOk (prP t) = true := by
      cases hs : sbOk (prP t) with
      | true => rfl
      | false =>
        have e3 : sbB (prP t) = ByteArray.empty := if_neg (by rw [hs]; exact Bool.false_ne_true)
        rw [e3] at n2
        have hb : rtB t 0 false = true := by rw [← n2]; exact rtB_none
        have hl : (prL t).bd = true := by
          have hb1 : pb1 t = true := by unfold pb1; rw [hb]; rfl
          have hb0 : (pr0 t).bd = true := by show rnB t (pa1 t) (pb1 t) = true; rw [hb1]; rfl
          have hall : ∀ (k : Nat) (s : RdT), s.bd = true → (rdIt t k s).bd = true := by
            intro k
            induction k with
            | zero => intro s h; exact h
            | succ k ih => intro s h; exact ih _ (by show rtB t _ (rtB t s.a s.bd) = true; rw [h]; rfl)
          exact hall _ _ hb0
        have := srBd_false n1
        rw [hl] at this; cases this
    have e4 : sbB (prP t) = sbT (prP t) := if_pos hok
    obtain ⟨c1, c2⟩ := shown_code (prP t) hok
    rw [← e4, n2] at c1 c2
    rw [e1, c1]
    refine ⟨rfl, fun _ => ?_⟩
    have e5 : srO t = srP t := if_pos c1
    rw [← e5, c2]
theorem prO_sr (t : ByteArray) : prO t = srO t := by
  obtain ⟨h1, h2⟩ := pr_sr t
  unfold prO srO
  rw [h1]
  by_cases h : srC t = 0
  · rw [if_pos h, if_pos h, h2 h]
  · rw [if_neg h, if_neg h]
end Go.Proofs.YtnomkcbcjaagmabGreatDoor
/-
  A scope with several labels: what holds at each jump ('J l'), and a measure that every pass lowers. After the guide's law for one label (Derived/ScopeJumps).
-/
namespace Go.Proofs.YtnomkcbcjaagmabGreatDoor
open Go

/-- As Q; by a goto to label l: J l. -/
def jumps (J : Nat → Act → World → Prop) (Q : Exit → Act → World → Prop) : Exit → Act → World → Prop
  | .goto l, a, w => J l a w
  | e, a, w => Q e a w

theorem wp_scope_many {P : Program} {a : Act} {w : World} {Q : Exit → Act → World → Prop} {c : Code} (R : Nat → Code) (J : Nat → Act → World → Prop) (μ : Nat → Act → World → Nat)
    (hf : ∀ l a w, J l a w → findLabel c l = some (R l))
    (N : Nat) (first : c.wp P (jumps (fun l' a' w' => J l' a' w' ∧ μ l' a' w' < N) Q) a w)
    (pass : ∀ l a w, J l a w → (R l).wp P (jumps (fun l' a' w' => J l' a' w' ∧ μ l' a' w' < μ l a w) Q) a w) : (Code.scope c).wp P Q a w := by
  intro b k cs
  have hg : ∀ l a w, J l a w → gotoIn l (.inScope c :: k) = some (.code (R l) :: .inScope c :: k) := fun l a w h => by simp [gotoIn, hf l a w h]
  have key : ∀ n l a w, μ l a w = n → J l a w → ∃ e a' w', Q e a' w' ∧ Arrives P (lone (b.at a (.code (R l) :: .inScope c :: k)) cs w) b k cs e a' w' := by
    intro n
    induction n using Nat.strongRecOn with
    | _ n ih =>
      intro l a w hn hJ
      obtain ⟨e, a₁, w₁, hq, harr⟩ := pass l a w hJ b (.inScope c :: k) cs
      cases e with
      | normal => exact ⟨.normal, a₁, w₁, hq, Steps.trans harr (.one step_inScope)⟩
      | exit id => exact ⟨.exit id, a₁, w₁, hq, fun k' hk => harr k' (by simp [exitTo, hk])⟩
      | goto l' =>
        obtain ⟨hJ', hlt⟩ := hq
        obtain ⟨e₂, a₂, w₂, hq₂, harr₂⟩ := ih _ (by omega) l' a₁ w₁ rfl hJ'
        exact ⟨e₂, a₂, w₂, hq₂, .of_steps (harr _ (hg l' a₁ w₁ hJ')) harr₂⟩
      | ret => exact ⟨_, a₁, w₁, hq, harr⟩
      | panic ch => exact ⟨_, a₁, w₁, hq, harr⟩
      | outgrown => exact ⟨_, a₁, w₁, hq, harr⟩
  obtain ⟨e, a₁, w₁, hq, harr⟩ := first b (.inScope c :: k) cs
  cases e with
  | normal => exact ⟨.normal, a₁, w₁, hq, .head step_scope (Steps.trans harr (.one step_inScope))⟩
  | exit id => exact ⟨.exit id, a₁, w₁, hq, fun k' hk => .head step_scope (harr k' (by simp [exitTo, hk]))⟩
  | goto l' =>
    obtain ⟨e₂, a₂, w₂, hq₂, harr₂⟩ := key _ l' a₁ w₁ rfl hq.1
    exact ⟨e₂, a₂, w₂, hq₂, .of_steps (.head step_scope (harr _ (hg l' a₁ w₁ hq.1))) harr₂⟩
  | ret => exact ⟨_, a₁, w₁, hq, .of_steps (.one step_scope) harr⟩
  | panic ch => exact ⟨_, a₁, w₁, hq, .of_steps (.one step_scope) harr⟩
  | outgrown => exact ⟨_, a₁, w₁, hq, .of_steps (.one step_scope) harr⟩

/-- Three labels, 0, 1 and 2. -/
def three {α : Type} (x0 x1 x2 z : α) : Nat → α
  | 0 => x0
  | 1 => x1
  | 2 => x2
  | _ => z

theorem wp_scope_three {P : Program} {a : Act} {w : World} {Q : Exit → Act → World → Prop} {c r0 r1 r2 : Code} (J0 J1 J2 : Act → World → Prop) (μ : Nat → Act → World → Nat) (N : Nat)
    (h0 : findLabel c 0 = some r0) (h1 : findLabel c 1 = some r1) (h2 : findLabel c 2 = some r2)
    (first : c.wp P (jumps (fun l' a' w' => three J0 J1 J2 (fun _ _ => False) l' a' w' ∧ μ l' a' w' < N) Q) a w)
    (pass0 : ∀ a w, J0 a w → r0.wp P (jumps (fun l' a' w' => three J0 J1 J2 (fun _ _ => False) l' a' w' ∧ μ l' a' w' < μ 0 a w) Q) a w)
    (pass1 : ∀ a w, J1 a w → r1.wp P (jumps (fun l' a' w' => three J0 J1 J2 (fun _ _ => False) l' a' w' ∧ μ l' a' w' < μ 1 a w) Q) a w)
    (pass2 : ∀ a w, J2 a w → r2.wp P (jumps (fun l' a' w' => three J0 J1 J2 (fun _ _ => False) l' a' w' ∧ μ l' a' w' < μ 2 a w) Q) a w) : (Code.scope c).wp P Q a w := by
  refine wp_scope_many (three r0 r1 r2 .skip) (three J0 J1 J2 (fun _ _ => False)) μ ?_ N first ?_
  · intro l a w h
    match l, h with
    | 0, _ => exact h0
    | 1, _ => exact h1
    | 2, _ => exact h2
    | l + 3, h => exact False.elim h
  · intro l a w h
    match l, h with
    | 0, h => exact pass0 a w h
    | 1, h => exact pass1 a w h
    | 2, h => exact pass2 a w h
    | l + 3, h => exact False.elim h
end Go.Proofs.YtnomkcbcjaagmabGreatDoor
