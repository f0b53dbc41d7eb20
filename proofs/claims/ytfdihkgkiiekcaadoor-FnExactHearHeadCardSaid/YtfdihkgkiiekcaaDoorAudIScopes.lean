/-
  Parts of one proof, laid as one text: AudI, Scopes; what each says stands at its head.
-/
import Derived.Test.YtfdihkgkiiekcaaDoorRows
import Derived.Test.YtfdihkgkiiekcaaDoorBytesDigMath
import Derived.Test.YtfdihkgkiiekcaaDoorSlASlBBxK
import Derived.Test.YtfdihkgkiiekcaaDoorLawSigLAudMathScanMath
import Derived.Handy
import Derived.WalkSpells
import Derived.OwnWalk
import Derived.ScopeJumps
import Derived.WalkMore
/-
  What the program's sizedRight, hasSize and AuditorRight answer: 'audB'.
-/
namespace Go.Proofs.YtfdihkgkiiekcaaDoor
open Go.RowKit Go.Lib
set_option linter.unusedVariables false
set_option maxRecDepth 20000

/-- areDigests of one text, laid into a new row. -/
theorem areO_any (c : ByteArray) (w : World) (g : Nat) (hg : w.heap.size = g) : Calls Tryd.prog 45 #[.slice (some ⟨g, 0, none⟩) 1 1] (w.alloc (.cells #[.string c] 9)) fun e w' => e = .returned (.bool (decide (c.size = 32))) ∧ Below w.heap.size w w' := by
  subst hg
  have hb : BlkS (w.alloc (.cells #[.string c] 9)) w.heap.size [c] := alloc_str w [c]
  have b1 : Below w.heap.size w (w.alloc (.cells #[.string c] 9)) := (Below.refl _ _).alloc (Nat.le_refl _) _
  have h := areD_any (some ⟨w.heap.size, 0, none⟩) 1 [c] _ hb.txt (by simp) (by simp)
  have e1 : wideB [c] = decide (c.size = 32) := by
    unfold wideB
    by_cases h : c.size = 32
    · rw [decide_eq_true h]; simp [h]
    · rw [decide_eq_false h]; simp [h]
  rw [e1] at h
  refine Calls.mono h ?_
  rintro e w' ⟨he, rfl⟩
  exact ⟨he, b1⟩
theorem hasSize_any (k : ByteArray) (s : Int) (r : ByteArray) (w : World) : Calls Tryd.prog 27 #[.agg #[.string k, .int .i64 s, .string r]] w fun e w' => e = .returned (.bool (decide (0 < s))) ∧ Below w.heap.size w w' := by
  have B1 : Hid (Below w.heap.size w (w.alloc (.cells #[.string k, .int .i64 s, .string r] 30))) := (Below.refl _ _).alloc (Nat.le_refl _) _
  go_enter Tryd.func27, Tryd.ntmps27
  go_wp2_with fail
  go_ret
  exact ⟨rfl, B1.out⟩
set_option maxHeartbeats 1000000 in
theorem sizedRight_any (k : ByteArray) (s : Int) (r : ByteArray) (w : World) : Calls Tryd.prog 44 #[.agg #[.string k, .int .i64 s, .string r]] w fun e w' => e = .returned (.bool (sizB s r)) ∧ Below w.heap.size w w' := by
  obtain ⟨W1, hW1⟩ : ∃ W1, W1 = w.alloc (.cells #[.string k, .int .i64 s, .string r] 30) := ⟨_, rfl⟩
  have HW1 : Hid (W1 = w.alloc (.cells #[.string k, .int .i64 s, .string r] 30)) := hW1
  have B1 : Hid (Below w.heap.size w W1) := by rw [hW1]; exact (Below.refl _ _).alloc (Nat.le_refl _) _
  have K1 : Bxs W1 w.heap.size 30 #[.string k, .int .i64 s, .string r] := by rw [hW1]; exact Bxs.new _ _ _
  have t0 := K1.cell 0
  have t1 := K1.cell 1
  have t2 := K1.cell 2
  simp at t0 t1 t2
  have hA := areO_any r W1 (w.heap.size + 1) (by rw [hW1]; simp)
  clear K1 hW1
  have H0 : Hid (sizB s r = (decide (1 ≤ s ∧ s ≤ 64) && decide (r.size = 32))) := rfl
  rw [H0.out]
  clear H0
  generalize decide (r.size = 32) = c at *
  by_cases h1 : 1 ≤ s
  case neg =>
    have d1 : decide (1 ≤ s) = false := decide_eq_false h1
    rw [decide_eq_false (p := 1 ≤ s ∧ s ≤ 64) (fun h => h1 h.1)]
    clear h1
    go_enter Tryd.func44, Tryd.ntmps44
    go_wp2_with fail
    rw [← HW1.out]
    go_wp2_with fail
    go_ret
    exact ⟨rfl, B1.out⟩
  have d1 : decide (1 ≤ s) = true := decide_eq_true h1
  by_cases h2 : s ≤ 64
  case neg =>
    have d2 : decide (s ≤ 64) = false := decide_eq_false h2
    rw [decide_eq_false (p := 1 ≤ s ∧ s ≤ 64) (fun h => h2 h.2)]
    clear h1 h2
    go_enter Tryd.func44, Tryd.ntmps44
    go_wp2_with fail
    rw [← HW1.out]
    go_wp2_with fail
    go_ret
    exact ⟨rfl, B1.out⟩
  have d2 : decide (s ≤ 64) = true := decide_eq_true h2
  rw [decide_eq_true (p := 1 ≤ s ∧ s ≤ 64) ⟨h1, h2⟩]
  clear h1 h2
  go_enter Tryd.func44, Tryd.ntmps44
  go_wp2_with fail
  rw [← HW1.out]
  go_wp2_with fail
  with_reducible refine hA.mono ?_
  rintro e w1 ⟨rfl, b1⟩
  go_wp2_with fail
  go_ret
  exact ⟨ret_bool (by simp), chainB B1.out b1⟩
set_option maxHeartbeats 1000000 in
theorem implAud_any (k : ByteArray) (s : Int) (r : ByteArray) (w : World) : Calls Tryd.prog 26 #[.agg #[.string k, .int .i64 s, .string r]] w fun e w' => e = .returned (.bool (audB k s r)) ∧ Below w.heap.size w w' := by
  obtain ⟨W1, hW1⟩ : ∃ W1, W1 = w.alloc (.cells #[.string k, .int .i64 s, .string r] 30) := ⟨_, rfl⟩
  have HW1 : Hid (W1 = w.alloc (.cells #[.string k, .int .i64 s, .string r] 30)) := hW1
  have B1 : Hid (Below w.heap.size w W1) := by rw [hW1]; exact (Below.refl _ _).alloc (Nat.le_refl _) _
  have K1 : Hid (Bxs W1 w.heap.size 30 #[.string k, .int .i64 s, .string r]) := by rw [hW1]; exact Bxs.new _ _ _
  have t0 := K1.out.cell 0
  simp at t0
  have hA := areO_any k W1 (w.heap.size + 1) (by rw [hW1]; simp)
  have HS : Hid (∀ x, Calls Tryd.prog 44 #[.agg #[.string k, .int .i64 s, .string r]] x fun e w' => e = .returned (.bool (sizB s r)) ∧ Below x.heap.size x w') := fun x => sizedRight_any k s r x
  have HX : Hid (∀ x, Below W1.heap.size W1 x → x.cell? ⟨w.heap.size, 0, none⟩ = some (.string k) ∧ x.cell? ⟨w.heap.size, 1, none⟩ = some (.int .i64 s) ∧ x.cell? ⟨w.heap.size, 2, none⟩ = some (.string r)) := fun x hb => ⟨(K1.out.below hb).cell 0, (K1.out.below hb).cell 1, (K1.out.below hb).cell 2⟩
  have H0 : Hid (audB k s r = (decide (k.size = 32) && (((s == 0) && noT r) || sizB s r))) := rfl
  rw [H0.out]
  clear H0 hW1 K1
  generalize decide (k.size = 32) = c at *
  cases c
  case false =>
    go_enter Tryd.func26, Tryd.ntmps26
    go_wp2_with fail
    rw [← HW1.out]
    go_wp2_with fail
    with_reducible refine hA.mono ?_
    rintro e w1 ⟨rfl, b1⟩
    go_wp2_with fail
    go_ret
    exact ⟨ret_bool (by simp), chainB B1.out b1⟩
  have H2 : Hid (noT r = r.toList.isEmpty) := rfl
  rw [H2.out]
  clear H2
  generalize sizB s r = c2 at *
  cases hz : (s == 0)
  case false =>
    have f1 : ¬ s = 0 := by simpa using hz
    go_enter Tryd.func26, Tryd.ntmps26
    go_wp2_with fail
    rw [← HW1.out]
    go_wp2_with fail
    with_reducible refine hA.mono ?_
    rintro e w1 ⟨rfl, b1⟩
    obtain ⟨u0, u1, u2⟩ := HX.out w1 b1
    have hS := HS.out w1
    go_wp2_with fail
    refine hS.mono ?_
    rintro e w2 ⟨rfl, b2⟩
    go_wp2_with fail
    go_ret
    exact ⟨ret_bool (by simp), chainB B1.out (chainB b1 b2)⟩
  obtain rfl : s = 0 := by simpa using hz
  clear hz
  cases hr : r.toList.isEmpty
  case true =>
    go_enter Tryd.func26, Tryd.ntmps26
    go_wp2_with fail
    rw [← HW1.out]
    go_wp2_with fail
    with_reducible refine hA.mono ?_
    rintro e w1 ⟨rfl, b1⟩
    obtain ⟨u0, u1, u2⟩ := HX.out w1 b1
    go_wp2_with fail
    go_ret
    exact ⟨ret_bool (by simp), chainB B1.out b1⟩
  go_enter Tryd.func26, Tryd.ntmps26
  go_wp2_with fail
  rw [← HW1.out]
  go_wp2_with fail
  with_reducible refine hA.mono ?_
  rintro e w1 ⟨rfl, b1⟩
  obtain ⟨u0, u1, u2⟩ := HX.out w1 b1
  have hS := HS.out w1
  go_wp2_with fail
  refine hS.mono ?_
  rintro e w2 ⟨rfl, b2⟩
  go_wp2_with fail
  go_ret
  exact ⟨ret_bool (by simp), chainB B1.out (chainB b1 b2)⟩
end Go.Proofs.YtfdihkgkiiekcaaDoor
/-
  A scope with several labels: what holds at each jump ('J l'), and a measure that every pass lowers. After the guide's law for one label (Derived/ScopeJumps).
-/
namespace Go.Proofs.YtfdihkgkiiekcaaDoor
open Go

/-- As Q; by a goto to label l: J l. -/
def jumps (J : Nat → Act → World → Prop) (Q : Exit → Act → World → Prop) : Exit → Act → World → Prop
  | .goto l, a, w => J l a w
  | e, a, w => Q e a w

theorem wp_scope_many {P : Program} {a : Act} {w : World} {Q : Exit → Act → World → Prop} {c : Code} (R : Nat → Code) (J : Nat → Act → World → Prop) (μ : Nat → Act → World → Nat)
    (hf : ∀ l a w, J l a w → findLabel c l = some (R l))
    (N : Nat) (first : c.wp P (jumps (fun l' a' w' => J l' a' w' ∧ μ l' a' w' < N) Q) a w)
    (pass : ∀ l a w, J l a w → (R l).wp P (jumps (fun l' a' w' => J l' a' w' ∧ μ l' a' w' < μ l a w) Q) a w) : (Code.scope c).wp P Q a w := by
  intro b k cs
  have hg : ∀ l a w, J l a w → gotoIn l (.inScope c :: k) = some (.code (R l) :: .inScope c :: k) := fun l a w h => by simp [gotoIn, hf l a w h]
  have key : ∀ n l a w, μ l a w = n → J l a w → ∃ e a' w', Q e a' w' ∧ Arrives P (lone (b.at a (.code (R l) :: .inScope c :: k)) cs w) b k cs e a' w' := by
    intro n
    induction n using Nat.strongRecOn with
    | _ n ih =>
      intro l a w hn hJ
      obtain ⟨e, a₁, w₁, hq, harr⟩ := pass l a w hJ b (.inScope c :: k) cs
      cases e with
      | normal => exact ⟨.normal, a₁, w₁, hq, Steps.trans harr (.one step_inScope)⟩
      | exit id => exact ⟨.exit id, a₁, w₁, hq, fun k' hk => harr k' (by simp [exitTo, hk])⟩
      | goto l' =>
        obtain ⟨hJ', hlt⟩ := hq
        obtain ⟨e₂, a₂, w₂, hq₂, harr₂⟩ := ih _ (by omega) l' a₁ w₁ rfl hJ'
        exact ⟨e₂, a₂, w₂, hq₂, .of_steps (harr _ (hg l' a₁ w₁ hJ')) harr₂⟩
      | ret => exact ⟨_, a₁, w₁, hq, harr⟩
      | panic ch => exact ⟨_, a₁, w₁, hq, harr⟩
      | outgrown => exact ⟨_, a₁, w₁, hq, harr⟩
  obtain ⟨e, a₁, w₁, hq, harr⟩ := first b (.inScope c :: k) cs
  cases e with
  | normal => exact ⟨.normal, a₁, w₁, hq, .head step_scope (Steps.trans harr (.one step_inScope))⟩
  | exit id => exact ⟨.exit id, a₁, w₁, hq, fun k' hk => .head step_scope (harr k' (by simp [exitTo, hk]))⟩
  | goto l' =>
    obtain ⟨e₂, a₂, w₂, hq₂, harr₂⟩ := key _ l' a₁ w₁ rfl hq.1
    exact ⟨e₂, a₂, w₂, hq₂, .of_steps (.head step_scope (harr _ (hg l' a₁ w₁ hq.1))) harr₂⟩
  | ret => exact ⟨_, a₁, w₁, hq, .of_steps (.one step_scope) harr⟩
  | panic ch => exact ⟨_, a₁, w₁, hq, .of_steps (.one step_scope) harr⟩
  | outgrown => exact ⟨_, a₁, w₁, hq, .of_steps (.one step_scope) harr⟩

/-- Three labels, 0, 1 and 2. -/
def three {α : Type} (x0 x1 x2 z : α) : Nat → α
  | 0 => x0
  | 1 => x1
  | 2 => x2
  | _ => z

theorem wp_scope_three {P : Program} {a : Act} {w : World} {Q : Exit → Act → World → Prop} {c r0 r1 r2 : Code} (J0 J1 J2 : Act → World → Prop) (μ : Nat → Act → World → Nat) (N : Nat)
    (h0 : findLabel c 0 = some r0) (h1 : findLabel c 1 = some r1) (h2 : findLabel c 2 = some r2)
    (first : c.wp P (jumps (fun l' a' w' => three J0 J1 J2 (fun _ _ => False) l' a' w' ∧ μ l' a' w' < N) Q) a w)
    (pass0 : ∀ a w, J0 a w → r0.wp P (jumps (fun l' a' w' => three J0 J1 J2 (fun _ _ => False) l' a' w' ∧ μ l' a' w' < μ 0 a w) Q) a w)
    (pass1 : ∀ a w, J1 a w → r1.wp P (jumps (fun l' a' w' => three J0 J1 J2 (fun _ _ => False) l' a' w' ∧ μ l' a' w' < μ 1 a w) Q) a w)
    (pass2 : ∀ a w, J2 a w → r2.wp P (jumps (fun l' a' w' => three J0 J1 J2 (fun _ _ => False) l' a' w' ∧ μ l' a' w' < μ 2 a w) Q) a w) : (Code.scope c).wp P Q a w := by
  refine wp_scope_many (three r0 r1 r2 .skip) (three J0 J1 J2 (fun _ _ => False)) μ ?_ N first ?_
  · intro l a w h
    match l, h with
    | 0, _ => exact h0
    | 1, _ => exact h1
    | 2, _ => exact h2
    | l + 3, h => exact False.elim h
  · intro l a w h
    match l, h with
    | 0, h => exact pass0 a w h
    | 1, h => exact pass1 a w h
    | 2, h => exact pass2 a w h
    | l + 3, h => exact False.elim h
end Go.Proofs.YtfdihkgkiiekcaaDoor
