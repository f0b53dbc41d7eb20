/-
  Parts of one proof, laid as one text: TillTwo, PhaseK, ImplCp; what each says stands at its head.
-/
import Derived.Test.YtepmoihgemhjcaaGreatDoorRows
import Derived.Test.YtepmoihgemhjcaaGreatDoorBytesDigMath
import Derived.Test.YtepmoihgemhjcaaGreatDoorLtMathLaMathLfMathTakesLStepAppBlNotTakes
import Derived.Handy
import Derived.Deep.RegionHeld3
import Derived.Test.YtepmoihgemhjcaaGreatDoorTreeMathSlABxKSlBOwnS
import Derived.Test.YtepmoihgemhjcaaGreatDoorTimeBPutMathPutNumJoinedPutTextFldMath
import Derived.OwnWalk
import Derived.Test.YtepmoihgemhjcaaGreatDoorGetValGetTxtNumMathFldRdNumFromTmbMathFldRiseLgMath
import Derived.Test.YtepmoihgemhjcaaGreatDoorLgAtKLgAnsLgRtShwKOneKFldBlkRwBlk
import Derived.WalkSpells
import Derived.Deep.AppendLies
import Derived.Deep.Cut
import Derived.Deep.CutRange
/-
  Two operations of a drawing region that are ready at once, each order written out.
-/
namespace Go.Proofs.YtepmoihgemhjcaaGreatDoor
open Go.RowKit Go.Lib
set_option linter.unusedVariables false

theorem till_ready2 {P : Program} {ops : Array Oper} {Q : Exit → Act → World → Prop} {md : Region.Mode} {S : World → Prop} {l : Nat} (i j : Nat) {oi oj : Oper} {fuel : Nat} {listed : Array Bool} {a : Act} {w : World} (hi : ops.toList[i]? = some oi) (hj : ops.toList[j]? = some oj) (hr : Region.ready md ops listed = [i, j])
    (h1 : ∀ K' : Act → World → Prop, Shut (∀ a w, S w → (S w → AnyTill P md ops Q S l fuel (listed.setIfInBounds i true) a w) → K' a w) → if Region.wanted oi (yielded ops a.tmps) = true then Oper.wp P oi a w K' Q else K' (a.put oi.dst undef) w)
    (h2 : ∀ K' : Act → World → Prop, Shut (∀ a w, S w → (S w → AnyTill P md ops Q S l fuel (listed.setIfInBounds j true) a w) → K' a w) → if Region.wanted oj (yielded ops a.tmps) = true then Oper.wp P oj a w K' Q else K' (a.put oj.dst undef) w) : AnyTill P md ops Q S l (fuel + 1) listed a w :=
  ⟨fun h0 => absurd (hr ▸ h0) (by simp), fun k hk => by
    rw [hr] at hk
    have hk' : k = i ∨ k = j := by simpa using hk
    rcases hk' with rfl | rfl
    · exact wpOp_step (by rw [← hi]; simp) (fun K' hK => h1 K' (fun a w hS hW => hK a w ⟨fun _ => hS, hW hS⟩))
    · exact wpOp_step (by rw [← hj]; simp) (fun K' hK => h2 K' (fun a w hS hW => hK a w ⟨fun _ => hS, hW hS⟩))⟩
end Go.Proofs.YtepmoihgemhjcaaGreatDoor
/-
  Operations of a drawing region that may come in many orders (rows built, calls), taken all together: what holds when some of them are done (J) is kept by each that is ready; and what lies in the frame then.
-/
namespace Go.Proofs.YtepmoihgemhjcaaGreatDoor
open Go.RowKit Go.Lib
set_option linter.unusedVariables false

section
variable {P : Program} {ops : Array Oper} {Q : Exit → Act → World → Prop} {md : Region.Mode} {S : World → Prop} {l : Nat}
theorem AnyTill.phase {σ : Type} (lst : σ → Array Bool) (cnt : σ → Nat) (J : σ → Act → World → Prop) (f0 : Nat)
    (step : ∀ s a w, J s a w → cnt s ≠ 0 → Region.ready md ops (lst s) ≠ [] ∧ ∀ i ∈ Region.ready md ops (lst s), wpOp P ops Q i (fun a' w' => ∃ s', cnt s = cnt s' + 1 ∧ lst s' = (lst s).setIfInBounds i true ∧ (i ≠ l → S w') ∧ J s' a' w') a w)
    (fin : ∀ s, cnt s = 0 → ∀ a w, J s a w → AnyTill P md ops Q S l f0 (lst s) a w) :
    ∀ (n : Nat) (s : σ), cnt s = n → ∀ a w, J s a w → AnyTill P md ops Q S l (f0 + n) (lst s) a w
  | 0, s, h, a, w, hJ => fin s h a w hJ
  | n + 1, s, h, a, w, hJ => by
    obtain ⟨hne, hs⟩ := step s a w hJ (by omega)
    refine ⟨fun h0 => absurd h0 hne, fun i hi => wpOp_mono (fun a' w' hk => ?_) (hs i hi)⟩
    obtain ⟨s', h1, h2, h3, h4⟩ := hk
    refine ⟨h3, ?_⟩
    rw [← h2]
    exact AnyTill.phase lst cnt J f0 step fin n s' (by omega) a' w' h4
/-- The frame's slots by a name. -/
theorem cap_act {fuel : Nat} {listed : Array Bool} {T0 : Array Value} {D : List Deferred} {w : World} (h : ∀ T, T = T0 → AnyTill P md ops Q S l fuel listed ⟨T, D⟩ w) : AnyTill P md ops Q S l fuel listed ⟨T0, D⟩ w := h _ rfl
theorem step_go {w : World} {o : Oper} {a : Act} {K : Act → World → Prop} {E : Prop} (hgd : o.guard = none) (f : Nat) (x : Operand) (tys : Array TypeId)
    (ho : o.op = .call { callee := .value (.func f), args := #[x], argTypes := tys }) (v : Value) (hx : a.eval x = v) (hcf : (callFunc f #[v]).run P w = .ok (.enter f #[v]) w) {R : Ending → World → Prop} (hc : Calls P f #[v] w R)
    (h : ∀ e w', R e w' → ∃ r, e = .returned r ∧ K (a.put o.dst r) w') :
    if Region.wanted o (yielded ops a.tmps) = true then Oper.wp P o a w K Q else E := by
  have hw : Region.wanted o (yielded ops a.tmps) = true := by simp [Region.wanted, hgd]
  rw [if_pos hw]
  unfold Oper.wp execOp
  have hf : a.eval (.func f) = .func (.func f) #[] #[] := rfl
  simp only [ho, resolve, List.map_toArray, List.map_cons, List.map_nil, hx, hf, Deferred.ofValue, Sem.run_bind, Sem.run_pure, Result.andThen_ok, invoke, Array.append_empty, Array.empty_append, hcf, Oper.upon_enter]
  refine Calls.mono hc (fun e w' he => ?_)
  obtain ⟨r, rfl, hk⟩ := h e w' he
  exact hk
theorem step_build1 {w : World} {o : Oper} {a : Act} {K : Act → World → Prop} {E : Prop} (hgd : o.guard = none) (ty : TypeId) (x : Operand)
    (ho : o.op = .buildSlice ty 1 #[(0, x)]) (v : Value) (hx : a.eval x = v) (v' : Value) (w' : World) (hr : (Instr.buildSlice ty 1 #[(0, v)]).run P w = .ok v' w') (h : K (a.put o.dst v') w') :
    if Region.wanted o (yielded ops a.tmps) = true then Oper.wp P o a w K Q else E := by
  have hw : Region.wanted o (yielded ops a.tmps) = true := by simp [Region.wanted, hgd]
  rw [if_pos hw]
  unfold Oper.wp execOp
  simp only [ho, Sem.run_bind, List.map_toArray, List.map_cons, List.map_nil, hx, hr, Result.andThen_ok, Sem.run_pure]
  exact h
end
/-- Slots that may have been written. -/
def ovl (T : Array Value) : List (Nat × Option Value) → Array Value
  | [] => T
  | (k, some v) :: r => ovl (T.setIfInBounds k v) r
  | (_, none) :: r => ovl T r
theorem ovl_set : ∀ (l : List (Nat × Option Value)) (T : Array Value) (k : Nat) (v : Value), k ∉ l.map (·.1) → (ovl T l).setIfInBounds k v = ovl (T.setIfInBounds k v) l
  | [], T, k, v, _ => rfl
  | (j, none) :: r, T, k, v, h => ovl_set r T k v (fun h1 => h (List.mem_cons_of_mem _ h1))
  | (j, some u) :: r, T, k, v, h => by
    have hne : j ≠ k := fun e => h (by rw [e]; exact List.mem_cons_self ..)
    show (ovl (T.setIfInBounds j u) r).setIfInBounds k v = ovl ((T.setIfInBounds k v).setIfInBounds j u) r
    rw [ovl_set r _ k v (fun h1 => h (List.mem_cons_of_mem _ h1)), Array.setIfInBounds_comm _ _ hne]
theorem ovl_put : ∀ (l1 : List (Nat × Option Value)) (T : Array Value) (l2 : List (Nat × Option Value)) (k : Nat) (v : Value), k ∉ l2.map (·.1) → (ovl T (l1 ++ (k, none) :: l2)).setIfInBounds k v = ovl T (l1 ++ (k, some v) :: l2)
  | [], T, l2, k, v, h => ovl_set l2 T k v h
  | (j, none) :: r, T, l2, k, v, h => ovl_put r T l2 k v h
  | (j, some u) :: r, T, l2, k, v, h => ovl_put r _ l2 k v h
theorem ovl_size : ∀ (l : List (Nat × Option Value)) (T : Array Value), (ovl T l).size = T.size
  | [], T => rfl
  | (j, none) :: r, T => ovl_size r T
  | (j, some u) :: r, T => by show (ovl (T.setIfInBounds j u) r).size = _; rw [ovl_size r]; simp
theorem ovl_old : ∀ (l : List (Nat × Option Value)) (T : Array Value) (k : Nat), k ∉ l.map (·.1) → (ovl T l).getD k undef = T.getD k undef
  | [], T, k, _ => rfl
  | (j, none) :: r, T, k, h => ovl_old r T k (fun h1 => h (List.mem_cons_of_mem _ h1))
  | (j, some u) :: r, T, k, h => by
    have hne : j ≠ k := fun e => h (by rw [e]; exact List.mem_cons_self ..)
    show (ovl (T.setIfInBounds j u) r).getD k undef = _
    rw [ovl_old r _ k (fun h1 => h (List.mem_cons_of_mem _ h1))]
    simp [Array.getD_eq_getD_getElem?, hne]
theorem ovl_new : ∀ (l1 : List (Nat × Option Value)) (T : Array Value) (l2 : List (Nat × Option Value)) (k : Nat) (v : Value), k ∉ l2.map (·.1) → k < T.size → (ovl T (l1 ++ (k, some v) :: l2)).getD k undef = v
  | [], T, l2, k, v, h, hk => by
    show (ovl (T.setIfInBounds k v) l2).getD k undef = v
    rw [ovl_old l2 _ k h]
    simp [Array.getD_eq_getD_getElem?, hk]
  | (j, none) :: r, T, l2, k, v, h, hk => ovl_new r T l2 k v h hk
  | (j, some u) :: r, T, l2, k, v, h, hk => ovl_new r _ l2 k v h (by simpa using hk)
/-- A row of one text, wherever it lies. -/
def Sl1 (w : World) (v : Value) (t : ByteArray) : Prop := ∃ g, v = .slice (some ⟨g, 0, none⟩) 1 1 ∧ g < w.heap.size ∧ w.cell? ⟨g, 0, none⟩ = some (.string t)
theorem Sl1.below {w w' : World} {v : Value} {t : ByteArray} (h : Sl1 w v t) (hb : Below w.heap.size w w') : Sl1 w' v t := by
  obtain ⟨g, rfl, h1, h2⟩ := h
  exact ⟨g, rfl, Nat.lt_of_lt_of_le h1 hb.size, (hb.cell (p := ⟨g, 0, none⟩) h1).trans h2⟩
theorem Sl1.new (w : World) (t : ByteArray) : Sl1 (w.alloc (.cells #[.string t] 9)) (.slice (some ⟨w.heap.size, 0, none⟩) 1 1) t := ⟨w.heap.size, rfl, by simp, by rw [World.cell?_alloc_mark]; rfl⟩
theorem run_build1 (t : ByteArray) (w : World) : (Instr.buildSlice 24 1 #[(0, .string t)]).run Tryz.prog w = .ok (.slice (some ⟨w.heap.size, 0, none⟩) 1 1) (w.alloc (.cells #[.string t] 9)) := by
  go_simp
theorem enter_joined (v : Value) (w : World) : (callFunc 101 #[v]).run Tryz.prog w = .ok (.enter 101 #[v]) w := by
  go_simp
/-- Which of eight operations are done, and what each left. -/
structure St8 where
  o1 : Option Value
  o2 : Option Value
  o3 : Option Value
  o4 : Option Value
  o5 : Option Value
  o6 : Option Value
  o7 : Option Value
  o8 : Option Value
def bitN (b : Bool) : Nat := if b = true then 0 else 1
def St8.cnt (s : St8) : Nat := bitN s.o1.isSome + bitN s.o2.isSome + bitN s.o3.isSome + bitN s.o4.isSome + bitN s.o5.isSome + bitN s.o6.isSome + bitN s.o7.isSome + bitN s.o8.isSome
def all8 (p : Bool → Bool → Bool → Bool → Bool → Bool → Bool → Bool → Bool) : Bool := [true, false].all fun b1 => [true, false].all fun b2 => [true, false].all fun b3 => [true, false].all fun b4 => [true, false].all fun b5 => [true, false].all fun b6 => [true, false].all fun b7 => [true, false].all fun b8 => p b1 b2 b3 b4 b5 b6 b7 b8
theorem all8_spec {p : Bool → Bool → Bool → Bool → Bool → Bool → Bool → Bool → Bool} (h : all8 p = true) (b1 b2 b3 b4 b5 b6 b7 b8 : Bool) : p b1 b2 b3 b4 b5 b6 b7 b8 = true := by
  have hm : ∀ b : Bool, b ∈ [true, false] := by intro b; cases b <;> simp
  unfold all8 at h
  have h1 := List.all_eq_true.1 h b1 (hm b1)
  have h2 := List.all_eq_true.1 h1 b2 (hm b2)
  have h3 := List.all_eq_true.1 h2 b3 (hm b3)
  have h4 := List.all_eq_true.1 h3 b4 (hm b4)
  have h5 := List.all_eq_true.1 h4 b5 (hm b5)
  have h6 := List.all_eq_true.1 h5 b6 (hm b6)
  have h7 := List.all_eq_true.1 h6 b7 (hm b7)
  exact List.all_eq_true.1 h7 b8 (hm b8)
theorem some_of_bit {o : Option Value} (h : bitN o.isSome = 0) : ∃ v, o = some v := by
  cases o with
  | none => cases h
  | some v => exact ⟨v, rfl⟩
section
variable {P : Program} {ops : Array Oper} {Q : Exit → Act → World → Prop} {md : Region.Mode} {S : World → Prop} {l : Nat}
theorem wpOp_at (i : Nat) {o : Oper} {K : Act → World → Prop} {a : Act} {w : World} (hi : ops.toList[i]? = some o)
    (h : ∀ K' : Act → World → Prop, (∀ a w, K a w → K' a w) → if Region.wanted o (yielded ops a.tmps) = true then Oper.wp P o a w K' Q else K' (a.put o.dst undef) w) : wpOp P ops Q i K a w := wpOp_step (by rw [← hi]; simp) h
theorem AnyTill.phase8 (L : Bool → Bool → Bool → Bool → Bool → Bool → Bool → Bool → Array Bool) (chk : Nat → Bool → Bool → Bool → Bool → Bool → Bool → Bool → Bool → Bool) (ok : Bool → Bool → Bool → Bool → Bool → Bool → Bool → Bool → Bool)
    (hR : all8 (fun b1 b2 b3 b4 b5 b6 b7 b8 => !(ok b1 b2 b3 b4 b5 b6 b7 b8) || ((b1 && (b2 && (b3 && (b4 && (b5 && (b6 && (b7 && b8))))))) || (!(Region.ready md ops (L b1 b2 b3 b4 b5 b6 b7 b8)).isEmpty && (Region.ready md ops (L b1 b2 b3 b4 b5 b6 b7 b8)).all (fun i => chk i b1 b2 b3 b4 b5 b6 b7 b8)))) = true)
    (J : St8 → Act → World → Prop) (hok : ∀ (s : St8) (a : Act) (w : World), J s a w → ok s.o1.isSome s.o2.isSome s.o3.isSome s.o4.isSome s.o5.isSome s.o6.isSome s.o7.isSome s.o8.isSome = true) (f0 : Nat)
    (step : ∀ (i : Nat) (s : St8) (a : Act) (w : World), chk i s.o1.isSome s.o2.isSome s.o3.isSome s.o4.isSome s.o5.isSome s.o6.isSome s.o7.isSome s.o8.isSome = true → J s a w → wpOp P ops Q i (fun a' w' => ∃ s' : St8, s.cnt = s'.cnt + 1 ∧ L s'.o1.isSome s'.o2.isSome s'.o3.isSome s'.o4.isSome s'.o5.isSome s'.o6.isSome s'.o7.isSome s'.o8.isSome = (L s.o1.isSome s.o2.isSome s.o3.isSome s.o4.isSome s.o5.isSome s.o6.isSome s.o7.isSome s.o8.isSome).setIfInBounds i true ∧ S w' ∧ J s' a' w') a w)
    (fin : ∀ v1 v2 v3 v4 v5 v6 v7 v8 a w, J ⟨some v1, some v2, some v3, some v4, some v5, some v6, some v7, some v8⟩ a w → AnyTill P md ops Q S l f0 (L true true true true true true true true) a w)
    (a : Act) (w : World) (hJ : J ⟨none, none, none, none, none, none, none, none⟩ a w) : AnyTill P md ops Q S l (f0 + 8) (L false false false false false false false false) a w := by
  refine AnyTill.phase (fun s : St8 => L s.o1.isSome s.o2.isSome s.o3.isSome s.o4.isSome s.o5.isSome s.o6.isSome s.o7.isSome s.o8.isSome) St8.cnt J f0 ?_ ?_ 8 ⟨none, none, none, none, none, none, none, none⟩ rfl a w hJ
  · intro s a w hJ hs
    have h := all8_spec hR s.o1.isSome s.o2.isSome s.o3.isSome s.o4.isSome s.o5.isSome s.o6.isSome s.o7.isSome s.o8.isSome
    rw [hok s a w hJ, Bool.not_true, Bool.false_or, Bool.or_eq_true] at h
    have hn : ¬ (s.o1.isSome && (s.o2.isSome && (s.o3.isSome && (s.o4.isSome && (s.o5.isSome && (s.o6.isSome && (s.o7.isSome && s.o8.isSome))))))) = true := by
      intro hh
      simp only [Bool.and_eq_true] at hh
      obtain ⟨h1, h2, h3, h4, h5, h6, h7, h8⟩ := hh
      exact hs (by unfold St8.cnt; rw [h1, h2, h3, h4, h5, h6, h7, h8]; rfl)
    rcases h with h | h
    · exact absurd h hn
    rw [Bool.and_eq_true] at h
    refine ⟨fun he => by rw [he] at h; simp at h, fun i hi => ?_⟩
    refine wpOp_mono (fun a' w' hk => ?_) (step i s a w (List.all_eq_true.1 h.2 i hi) hJ)
    obtain ⟨s', h1, h2, h3, h4⟩ := hk
    exact ⟨s', h1, h2, fun _ => h3, h4⟩
  · intro s hs a w hJ
    obtain ⟨o1, o2, o3, o4, o5, o6, o7, o8⟩ := s
    have hs : bitN o1.isSome + bitN o2.isSome + bitN o3.isSome + bitN o4.isSome + bitN o5.isSome + bitN o6.isSome + bitN o7.isSome + bitN o8.isSome = 0 := hs
    obtain ⟨v1, rfl⟩ := some_of_bit (o := o1) (by omega)
    obtain ⟨v2, rfl⟩ := some_of_bit (o := o2) (by omega)
    obtain ⟨v3, rfl⟩ := some_of_bit (o := o3) (by omega)
    obtain ⟨v4, rfl⟩ := some_of_bit (o := o4) (by omega)
    obtain ⟨v5, rfl⟩ := some_of_bit (o := o5) (by omega)
    obtain ⟨v6, rfl⟩ := some_of_bit (o := o6) (by omega)
    obtain ⟨v7, rfl⟩ := some_of_bit (o := o7) (by omega)
    obtain ⟨v8, rfl⟩ := some_of_bit (o := o8) (by omega)
    exact fin v1 v2 v3 v4 v5 v6 v7 v8 a w hJ
end
theorem joinedAt {w : World} {v : Value} {t : ByteArray} (h : Sl1 w v t) (ht : t.size ≤ 70368744177664) : Calls Tryz.prog 101 #[v] w fun e w' => e = .returned (.string t) ∧ Below w.heap.size w w' := by
  obtain ⟨g, rfl, h1, h2⟩ := h
  have hJ := joined_any g 0 1 1 [t] w rfl h1 (by omega) (Nat.le_refl _) (fun i hi => by
    have : i = 0 := by simp at hi; exact hi
    subst this; exact h2) (by rw [← cat_size, cat_one]; exact ht)
  rw [cat_one] at hJ
  exact hJ
end Go.Proofs.YtepmoihgemhjcaaGreatDoor
/-
  What the program's copiedRow answers.
  Conditions: the row is right; the cells of Fields hold the fields.
-/
namespace Go.Proofs.YtepmoihgemhjcaaGreatDoor
open Go.RowKit Go.Lib
set_option linter.unusedVariables false
set_option maxRecDepth 20000

def cpOk (b1 b2 b3 b4 b5 b6 b7 b8 : Bool) : Bool := (!b2 || b1) && (!b4 || (b3 && b2)) && (!b6 || (b5 && b4)) && (!b8 || (b7 && b6))
theorem cpOk_1 : ∀ (b2 b3 b4 b5 b6 b7 b8 : Bool), cpOk false b2 b3 b4 b5 b6 b7 b8 = true → cpOk true b2 b3 b4 b5 b6 b7 b8 = true := by decide
theorem cpOk_2 : ∀ (b3 b4 b5 b6 b7 b8 : Bool), cpOk true false b3 b4 b5 b6 b7 b8 = true → cpOk true true b3 b4 b5 b6 b7 b8 = true := by decide
theorem cpOk_3 : ∀ (b1 b2 b4 b5 b6 b7 b8 : Bool), cpOk b1 b2 false b4 b5 b6 b7 b8 = true → cpOk b1 b2 true b4 b5 b6 b7 b8 = true := by decide
theorem cpOk_4 : ∀ (b1 b2 b5 b6 b7 b8 : Bool), cpOk b1 b2 true false b5 b6 b7 b8 = true → b2 = true → cpOk b1 b2 true true b5 b6 b7 b8 = true := by decide
theorem cpOk_5 : ∀ (b1 b2 b3 b4 b6 b7 b8 : Bool), cpOk b1 b2 b3 b4 false b6 b7 b8 = true → cpOk b1 b2 b3 b4 true b6 b7 b8 = true := by decide
theorem cpOk_6 : ∀ (b1 b2 b3 b4 b7 b8 : Bool), cpOk b1 b2 b3 b4 true false b7 b8 = true → b4 = true → cpOk b1 b2 b3 b4 true true b7 b8 = true := by decide
theorem cpOk_7 : ∀ (b1 b2 b3 b4 b5 b6 b8 : Bool), cpOk b1 b2 b3 b4 b5 b6 false b8 = true → cpOk b1 b2 b3 b4 b5 b6 true b8 = true := by decide
theorem cpOk_8 : ∀ (b1 b2 b3 b4 b5 b6 : Bool), cpOk b1 b2 b3 b4 b5 b6 true false = true → b6 = true → cpOk b1 b2 b3 b4 b5 b6 true true = true := by decide
/-- What holds in the midst of a field's four copies. -/
structure CpJ (T : Array Value) (fn fc fss fv : ByteArray) (y0 : World) (s : St8) (a : Act) (w : World) : Prop where
  act : a = ⟨ovl T [(24, s.o1), (25, s.o2), (28, s.o3), (29, s.o4), (32, s.o5), (33, s.o6), (36, s.o7), (37, s.o8)], []⟩
  ok : cpOk s.o1.isSome s.o2.isSome s.o3.isSome s.o4.isSome s.o5.isSome s.o6.isSome s.o7.isSome s.o8.isSome = true
  bel : Below y0.heap.size y0 w
  s1 : ∀ v, s.o1 = some v → Sl1 w v fn
  r1 : ∀ v, s.o2 = some v → v = .string fn
  s2 : ∀ v, s.o3 = some v → Sl1 w v fc
  r2 : ∀ v, s.o4 = some v → v = .string fc
  s3 : ∀ v, s.o5 = some v → Sl1 w v fss
  r3 : ∀ v, s.o6 = some v → v = .string fss
  s4 : ∀ v, s.o7 = some v → Sl1 w v fv
  r4 : ∀ v, s.o8 = some v → v = .string fv
set_option maxHeartbeats 16000000 in
theorem copiedRow_any (k : ByteArray) (at_ : Int) (q : Option Addr) (c : Nat) (fs : List Fld) (w : World) (hf : FldAt w q fs) (hc : fs.length ≤ c) (hr : rwB k at_ fs = true) :
    Calls Tryz.prog 61 #[.agg #[.string k, .int .i64 at_, .slice q fs.length c]] w fun e w' => ∃ b cc, e = .returned (.agg #[.string k, .int .i64 at_, .slice (some ⟨b, 0, none⟩) fs.length cc]) ∧ w'.ownsRow w.heap.size 103 5 (.slice (some ⟨b, 0, none⟩) fs.length cc) fs.length (fldRow fs) ∧ Below w.heap.size w w' := by
  obtain ⟨W2, hW2⟩ : ∃ W2, W2 = (w.alloc (.cells #[.string k, .int .i64 at_, .slice q fs.length c] 29)).alloc (.cells #[.string ⟨#[]⟩, .int .i64 0, .slice none 0 0] 29) := ⟨_, rfl⟩
  have HW2 : Hid (W2 = (w.alloc (.cells #[.string k, .int .i64 at_, .slice q fs.length c] 29)).alloc (.cells #[.string ⟨#[]⟩, .int .i64 0, .slice none 0 0] 29)) := hW2
  have hs1 : (w.alloc (.cells #[.string k, .int .i64 at_, .slice q fs.length c] 29)).heap.size = w.heap.size + 1 := by simp
  have HS2 : Hid (W2.heap.size = w.heap.size + 2) := by rw [hW2]; show _ = _; simp
  have K0 : Hid (Bxs W2 w.heap.size 29 #[.string k, .int .i64 at_, .slice q fs.length c]) := by rw [hW2]; exact (Bxs.new _ _ _).alloc _
  have K1 : Hid (Bxs W2 (w.heap.size + 1) 29 #[.string ⟨#[]⟩, .int .i64 0, .slice none 0 0]) := by rw [hW2, ← hs1]; exact Bxs.new _ _ _
  have B2 : Hid (Below w.heap.size w W2) := by rw [hW2]; exact ((Below.refl _ _).alloc (Nat.le_refl _) _).alloc (by rw [hs1]; omega) _
  have HT : Hid (FldAt W2 q fs) := hf.below B2.out
  obtain ⟨hkk, -, ⟨hl1, hl3⟩, hfd, -⟩ := rwB_parts hr
  have hk20 := (nrB_le hkk).2
  have HSz : Hid (∀ f ∈ fs, f.n.size ≤ 20 ∧ f.c.size ≤ 32 ∧ f.s.size ≤ 8 ∧ f.v.size ≤ 16) := fun f hf => by
    obtain ⟨h1, h2, h3, h4⟩ := fdB_parts (hfd f hf)
    refine ⟨(nrB_le h1).2, by omega, ?_⟩
    cases hg : f.g with
    | true =>
      obtain ⟨e1, e2⟩ := h3 hg
      rw [e1, e2]; exact ⟨Nat.zero_le _, Nat.zero_le _⟩
    | false =>
      have h5 := (h4 hg).2
      unfold cmOk at h5
      rw [Bool.and_eq_true, Bool.and_eq_true, decide_eq_true_iff, decide_eq_true_iff] at h5
      exact ⟨h5.2.1.2, h5.2.2⟩
  have HX : Hid (∀ x, Below W2.heap.size W2 x → x.cell? ⟨w.heap.size, 0, none⟩ = some (.string k) ∧ x.cell? ⟨w.heap.size, 1, none⟩ = some (.int .i64 at_)) := fun x hb => ⟨(K0.out.below hb).cell 0, (K0.out.below hb).cell 1⟩
  have HX2 : Hid (∀ x, Below W2.heap.size W2 x → x.cell? ⟨w.heap.size, 2, none⟩ = some (.slice q fs.length c)) := fun x hb => (K0.out.below hb).cell 2
  have BR : Hid (Below W2.heap.size W2 W2.drew) := (Below.refl _ _).drew
  have HEa : Hid (∀ y : World, Below W2.heap.size W2 y → One7 W2 y.heap.size 29 #[.string k, .int .i64 at_, .slice none 0 0] (.slice none 0 0) [] (y.alloc (.cells #[.string k, .int .i64 at_, .slice none 0 0] 29))) := fun y hy => ⟨alB hy _, hy.size, by decide, Bxs.new _ _ _, World.ownsRow_nil _ _ _ _⟩
  have J1 : Hid (Sl1 (W2.alloc (.cells #[.string k] 9)).drew (.slice (some ⟨W2.heap.size, 0, none⟩) 1 1) k) := Sl1.new W2 k
  have J2 : Hid (Sl1 ((W2.alloc (.cells #[.string k] 9)).alloc (.cells #[.string ⟨#[]⟩, .int .i64 0, .slice none 0 0] 29)).drew (.slice (some ⟨W2.heap.size, 0, none⟩) 1 1) k) := (Sl1.new W2 k).below (((Below.refl _ _).alloc (Nat.le_refl _) _).drew)
  have J3 : Hid (Sl1 ((W2.alloc (.cells #[.string ⟨#[]⟩, .int .i64 0, .slice none 0 0] 29)).alloc (.cells #[.string k] 9)).drew (.slice (some ⟨W2.heap.size + 1, 0, none⟩) 1 1) k) := by have h := Sl1.new (W2.alloc (.cells #[.string ⟨#[]⟩, .int .i64 0, .slice none 0 0] 29)) k; rw [szA] at h; exact h
  have HB1 : Hid (∀ y, Below (W2.alloc (.cells #[.string k] 9)).drew.heap.size (W2.alloc (.cells #[.string k] 9)).drew y → Below W2.heap.size W2 y) := fun y hy => chainB ((Below.refl _ _).alloc (Nat.le_refl _) _).drew hy
  have HEb2 : Hid (∀ y, Below ((W2.alloc (.cells #[.string k] 9)).alloc (.cells #[.string ⟨#[]⟩, .int .i64 0, .slice none 0 0] 29)).drew.heap.size ((W2.alloc (.cells #[.string k] 9)).alloc (.cells #[.string ⟨#[]⟩, .int .i64 0, .slice none 0 0] 29)).drew y → Below W2.heap.size W2 y ∧ Bxs y (W2.heap.size + 1) 29 #[.string ⟨#[]⟩, .int .i64 0, .slice none 0 0]) := fun y hy => ⟨chainB (alB (alB (Below.refl _ _) _) _).drew hy, by
    have h := (Bxs.new (W2.alloc (.cells #[.string k] 9)) 29 #[.string ⟨#[]⟩, .int .i64 0, .slice none 0 0]).below (chainB (Below.refl _ _).drew hy)
    rw [szA] at h; exact h⟩
  have HEb3 : Hid (∀ y, Below ((W2.alloc (.cells #[.string ⟨#[]⟩, .int .i64 0, .slice none 0 0] 29)).alloc (.cells #[.string k] 9)).drew.heap.size ((W2.alloc (.cells #[.string ⟨#[]⟩, .int .i64 0, .slice none 0 0] 29)).alloc (.cells #[.string k] 9)).drew y → Below W2.heap.size W2 y ∧ Bxs y W2.heap.size 29 #[.string ⟨#[]⟩, .int .i64 0, .slice none 0 0]) := fun y hy => ⟨chainB (alB (alB (Below.refl _ _) _) _).drew hy, ((Bxs.new W2 29 #[.string ⟨#[]⟩, .int .i64 0, .slice none 0 0]).alloc _).below (chainB (Below.refl _ _).drew hy)⟩
  have HC3 : Hid (∀ (y : World) (Z : Nat), Bxs y Z 29 #[.string ⟨#[]⟩, .int .i64 0, .slice none 0 0] → y.cell? ⟨Z, 0, none⟩ = some (.string ByteArray.empty) ∧ y.cell? ⟨Z, 1, none⟩ = some (.int .i64 0) ∧ y.cell? ⟨Z, 2, none⟩ = some (.slice none 0 0)) := fun y Z hb => ⟨hb.cell 0, hb.cell 1, hb.cell 2⟩
  have HEc : Hid (∀ (y : World) (Z : Nat), Below W2.heap.size W2 y → Bxs y Z 29 #[.string ⟨#[]⟩, .int .i64 0, .slice none 0 0] → W2.heap.size ≤ Z → One7 W2 Z 29 #[.string k, .int .i64 at_, .slice none 0 0] (.slice none 0 0) [] (((y.setCell ⟨Z, 0, none⟩ (.string k)).setCell ⟨Z, 1, none⟩ (.int .i64 at_)).setCell ⟨Z, 2, none⟩ (.slice none 0 0))) := fun y Z hy hb hZ => ⟨below_set3 hy hZ _ _ _, hZ, by decide, ((hb.set 0 _).set 1 _).set 2 _, World.ownsRow_nil _ _ _ _⟩
  obtain ⟨b, off, rfl, hb0⟩ := HT.out.some_of (by omega)
  clear hW2 hf hs1 hr hfd hkk K0
  go_enter Tryz.func61, Tryz.ntmps61
  go_upto_region 1 with fail
  rw [← HW2.out]
  go_cut [3] from 6 to 12 (fun s3 wx => ∃ Z, s3 = .pointer (some ⟨Z, 0, none⟩) ∧ Hid (One7 W2 Z 29 #[.string k, .int .i64 at_, .slice none 0 0] (.slice none 0 0) [] wx))
  case first =>
    refine region_till (fun w' => w'.cell? ⟨w.heap.size, 0, none⟩ = some (.string k) ∧ w'.cell? ⟨w.heap.size, 1, none⟩ = some (.int .i64 at_)) 8 (by kernel_rfl) (HX.out _ BR.out) (fun hHeld => ?_)
    refine till_take 0 (v := ?_) rfl (by kernel_rfl) (by kernel_rfl) (by kernel_rfl) (by kernel_rfl) (fun _ _ _ h => h) hHeld (Or.inl ⟨by rfl, ?_⟩) ?_
    rotate_left
    · (intro w hSw; (try dsimp only at hSw); go_simp; try with_reducible rfl)
    simp only [Act.put, List.setIfInBounds_toArray, List.set_cons_zero, List.set_cons_succ]
    refine till_take 1 (v := ?_) rfl (by kernel_rfl) (by kernel_rfl) (by kernel_rfl) (by kernel_rfl) (fun _ _ _ h => h) hHeld (Or.inl ⟨by rfl, ?_⟩) ?_
    rotate_left
    · (intro w hSw; (try dsimp only at hSw); go_simp; try with_reducible rfl)
    simp only [Act.put, List.setIfInBounds_toArray, List.set_cons_zero, List.set_cons_succ]
    refine till_take 4 (v := ?_) rfl (by kernel_rfl) (by kernel_rfl) (by kernel_rfl) (by kernel_rfl) (fun _ _ _ h => h) hHeld (Or.inl ⟨by rfl, ?_⟩) ?_
    rotate_left
    · (intro w hSw; (try dsimp only at hSw); go_simp; try with_reducible rfl)
    simp only [Act.put, List.setIfInBounds_toArray, List.set_cons_zero, List.set_cons_succ]
    refine till_take 5 (v := ?_) rfl (by kernel_rfl) (by kernel_rfl) (by kernel_rfl) (by kernel_rfl) (fun _ _ _ h => h) hHeld (Or.inl ⟨by rfl, ?_⟩) ?_
    rotate_left
    · (intro w hSw; (try dsimp only at hSw); go_simp; try with_reducible rfl)
    simp only [Act.put, List.setIfInBounds_toArray, List.set_cons_zero, List.set_cons_succ]
    refine till_ready2 2 7 rfl rfl (by kernel_rfl) (fun K hK => ?_) (fun K hK => ?_)
    · go_simp
      refine hK.out _ _ (HX.out _ (alB BR.out _)) (fun hHeld => ?_)
      clear hK K
      try simp only [Act.put, List.setIfInBounds_toArray, List.set_cons_zero, List.set_cons_succ]
      refine till_ready2 3 7 rfl rfl (by kernel_rfl) (fun K hK => ?_) (fun K hK => ?_)
      · go_simp
        (go_at_call 101; with_reducible refine (joinedAt J1.out (by omega)).mono ?_; rintro e y ⟨rfl, zj⟩)
        have zy : Below W2.heap.size W2 y := HB1.out y zj
        refine hK.out _ _ (HX.out _ zy) (fun hHeld => ?_)
        clear hK K
        try simp only [Act.put, List.setIfInBounds_toArray, List.set_cons_zero, List.set_cons_succ]
        refine till_take 6 (v := ?_) rfl (by kernel_rfl) (by kernel_rfl) (by kernel_rfl) (by kernel_rfl) (fun _ _ _ h => h) hHeld (Or.inl ⟨by rfl, ?_⟩) ?_
        rotate_left
        · (intro w hSw; (try dsimp only at hSw); go_simp; try with_reducible rfl)
        simp only [Act.put, List.setIfInBounds_toArray, List.set_cons_zero, List.set_cons_succ]
        refine till_ready 7 rfl (by kernel_rfl) (fun K hK => ?_)
        go_simp
        refine hK.out _ _ (HX.out _ (alB zy _)) (fun hHeld => ?_)
        clear hK K
        try simp only [Act.put, List.setIfInBounds_toArray, List.set_cons_zero, List.set_cons_succ]
        refine till_last rfl (by kernel_rfl) (by kernel_rfl) (fun K hK => ?_)
        go_simp
        refine hK.out _ _ ?_
        clear hK K
        have HE : Hid _ := HEa.out y zy
        clear zj zy hHeld
        go_wp2_with fail
        go_meet
        exact ⟨_, rfl, HE⟩
      · go_simp
        refine hK.out _ _ (HX.out _ (alB (alB BR.out _) _)) (fun hHeld => ?_)
        clear hK K
        try simp only [Act.put, List.setIfInBounds_toArray, List.set_cons_zero, List.set_cons_succ]
        refine till_ready 3 rfl (by kernel_rfl) (fun K hK => ?_)
        go_simp
        (go_at_call 101; with_reducible refine (joinedAt J2.out (by omega)).mono ?_; rintro e y ⟨rfl, zj⟩)
        obtain ⟨zy, kb⟩ := HEb2.out y zj
        refine hK.out _ _ (HX.out _ zy) (fun hHeld => ?_)
        clear hK K
        try simp only [Act.put, List.setIfInBounds_toArray, List.set_cons_zero, List.set_cons_succ]
        refine till_take 6 (v := ?_) rfl (by kernel_rfl) (by kernel_rfl) (by kernel_rfl) (by kernel_rfl) (fun _ _ _ h => h) hHeld (Or.inl ⟨by rfl, ?_⟩) ?_
        rotate_left
        · (intro w hSw; (try dsimp only at hSw); go_simp; try with_reducible rfl)
        simp only [Act.put, List.setIfInBounds_toArray, List.set_cons_zero, List.set_cons_succ]
        obtain ⟨k0, k1, k2⟩ := HC3.out y _ kb
        have g0 := kb.fr 0
        have g1 := kb.fr 1
        have g2 := kb.fr 2
        refine till_last rfl (by kernel_rfl) (by kernel_rfl) (fun K hK => ?_)
        go_simp
        refine hK.out _ _ ?_
        clear hK K
        have HE : Hid _ := HEc.out y (W2.heap.size + 1) zy kb (by omega)
        clear zj zy hHeld k0 k1 k2 g0 g1 g2 kb
        go_wp2_with fail
        go_meet
        exact ⟨_, rfl, HE⟩
    · go_simp
      refine hK.out _ _ (HX.out _ (alB BR.out _)) (fun hHeld => ?_)
      clear hK K
      try simp only [Act.put, List.setIfInBounds_toArray, List.set_cons_zero, List.set_cons_succ]
      refine till_ready 2 rfl (by kernel_rfl) (fun K hK => ?_)
      go_simp
      refine hK.out _ _ (HX.out _ (alB (alB BR.out _) _)) (fun hHeld => ?_)
      clear hK K
      try simp only [Act.put, List.setIfInBounds_toArray, List.set_cons_zero, List.set_cons_succ]
      refine till_ready 3 rfl (by kernel_rfl) (fun K hK => ?_)
      go_simp
      (go_at_call 101; with_reducible refine (joinedAt J3.out (by omega)).mono ?_; rintro e y ⟨rfl, zj⟩)
      obtain ⟨zy, kb⟩ := HEb3.out y zj
      refine hK.out _ _ (HX.out _ zy) (fun hHeld => ?_)
      clear hK K
      try simp only [Act.put, List.setIfInBounds_toArray, List.set_cons_zero, List.set_cons_succ]
      refine till_take 6 (v := ?_) rfl (by kernel_rfl) (by kernel_rfl) (by kernel_rfl) (by kernel_rfl) (fun _ _ _ h => h) hHeld (Or.inl ⟨by rfl, ?_⟩) ?_
      rotate_left
      · (intro w hSw; (try dsimp only at hSw); go_simp; try with_reducible rfl)
      simp only [Act.put, List.setIfInBounds_toArray, List.set_cons_zero, List.set_cons_succ]
      obtain ⟨k0, k1, k2⟩ := HC3.out y _ kb
      have g0 := kb.fr 0
      have g1 := kb.fr 1
      have g2 := kb.fr 2
      refine till_last rfl (by kernel_rfl) (by kernel_rfl) (fun K hK => ?_)
      go_simp
      refine hK.out _ _ ?_
      clear hK K
      have HE : Hid _ := HEc.out y W2.heap.size zy kb (Nat.le_refl _)
      clear zj zy hHeld k0 k1 k2 g0 g1 g2 kb
      go_wp2_with fail
      go_meet
      exact ⟨_, rfl, HE⟩
  case rest =>
  obtain ⟨Z, rfl, hS0⟩ := hcut
  clear HEa HEb2 HEb3 HEc HC3 BR J1 J2 J3 HB1
  have t2 := HX2.out wc hS0.out.bel
  go_wp2_with fail
  go_loopw [16] (fun i wr => ∃ (j : Nat) (v : Value), j ≤ fs.length ∧ i = .int .i64 j ∧ Hid (One7 W2 Z 29 #[.string k, .int .i64 at_, v] v (fs.take j) wr)) (fun i _ => fs.length - (Go.RowKit.intOf i).toNat)
  case atStart => exact ⟨0, _, Nat.zero_le _, rfl, hS0⟩
  case round =>
    clear hS0 t2
    obtain ⟨j, v, hj, rfl, hS⟩ := hrel
    by_cases hlt : j < fs.length
    · have i1 : (j : Int) < fs.length := by omega
      obtain ⟨hz1, hz2, hz3, hz4⟩ := HSz.out _ (List.getElem_mem hlt)
      have hcell := (HT.out.below hS.out.bel).at j hlt
      have HF : Hid (fs.take (j + 1) = fs.take j ++ [⟨fs[j].n, fs[j].c, fs[j].s, fs[j].v, fs[j].g⟩]) := by show _ = _; rw [← List.take_append_getElem hlt]
      have HLn : Hid ((fs.take j).length + 1 ≤ 1048576) := by show _ ≤ _; simp; omega
      generalize fs[j].n = fn at *
      generalize fs[j].c = fc at *
      generalize fs[j].s = fss at *
      generalize fs[j].v = fv at *
      generalize fs[j].g = fg at *
      obtain ⟨c0, c1, c2, c3, c4⟩ := hcell
      go_upto_region 5 with fail
      obtain ⟨y0, hy0⟩ : ∃ y0, y0 = wr.alloc (.cells #[.string fn, .string fc, .string fss, .string fv, .bool fg] 103) := ⟨_, rfl⟩
      rw [← hy0]
      have BY : Hid (Below wr.heap.size wr y0) := by rw [hy0]; exact (Below.refl _ _).alloc (Nat.le_refl _) _
      have KY : Hid (Bxs y0 wr.heap.size 103 #[.string fn, .string fc, .string fss, .string fv, .bool fg]) := by rw [hy0]; exact Bxs.new _ _ _
      have HYS : Hid (∀ x, Below y0.heap.size y0 x → x.cell? ⟨Z, 2, none⟩ = some v ∧ (x.cell? ⟨wr.heap.size, 0, none⟩ = some (.string fn) ∧ x.cell? ⟨wr.heap.size, 1, none⟩ = some (.string fc) ∧ x.cell? ⟨wr.heap.size, 2, none⟩ = some (.string fss) ∧ x.cell? ⟨wr.heap.size, 3, none⟩ = some (.string fv) ∧ x.cell? ⟨wr.heap.size, 4, none⟩ = some (.bool fg))) := fun x hx => ⟨(hS.out.below (chainB BY.out hx)).box.cell 2, (KY.out.below hx).five⟩
      have BYR : Hid (Below y0.heap.size y0 y0.drew) := (Below.refl _ _).drew
      have HAP : Hid (∀ x, Below y0.heap.size y0 x → ∃ g cc y, (Builtin.append_ #[27, 27] 27 #[v, .slice (some ⟨x.heap.size, 0, none⟩) 1 1]).run Tryz.prog (x.alloc (.cells #[.string fn, .string fc, .string fss, .string fv, .bool fg] 103)) = .ok (.slice (some ⟨g, 0, none⟩) (j + 1) cc) y ∧ One7 W2 Z 29 #[.string k, .int .i64 at_, .slice (some ⟨g, 0, none⟩) (j + 1) cc] (.slice (some ⟨g, 0, none⟩) (j + 1) cc) (fs.take (j + 1)) (y.setCell ⟨Z, 2, none⟩ (.slice (some ⟨g, 0, none⟩) (j + 1) cc)) ∧ y.cell? ⟨Z, 2, none⟩ = some v ∧ y.frozen? ⟨Z, 2, none⟩ = false ∧ (y.cell? ⟨Z, 2, none⟩ = some v ∧ (y.cell? ⟨wr.heap.size, 0, none⟩ = some (.string fn) ∧ y.cell? ⟨wr.heap.size, 1, none⟩ = some (.string fc) ∧ y.cell? ⟨wr.heap.size, 2, none⟩ = some (.string fss) ∧ y.cell? ⟨wr.heap.size, 3, none⟩ = some (.string fv) ∧ y.cell? ⟨wr.heap.size, 4, none⟩ = some (.bool fg)))) := fun x hx => by
        obtain ⟨g, cc, y, h1, h2, h3, h4, h5, h6⟩ := (hS.out.below (chainB BY.out hx)).app2 2 fn fc fss fv fg rfl HLn.out
        have hLj : (fs.take j).length = j := by simp; omega
        rw [hLj] at h1 h2
        rw [← HF.out] at h2
        have hne : some wr.heap.size ≠ v.ownBlock := fun he => by have := (hS.out.own.lt _ he.symm).2; omega
        exact ⟨g, cc, y, h1, h2, h3, h4, h3, (((KY.out.below hx).alloc _).grown h6 hne).five⟩
      clear hy0 c0 c1 c2 c3 c4
      refine region_till (fun w' => w'.cell? ⟨Z, 2, none⟩ = some v ∧ (w'.cell? ⟨wr.heap.size, 0, none⟩ = some (.string fn) ∧ w'.cell? ⟨wr.heap.size, 1, none⟩ = some (.string fc) ∧ w'.cell? ⟨wr.heap.size, 2, none⟩ = some (.string fss) ∧ w'.cell? ⟨wr.heap.size, 3, none⟩ = some (.string fv) ∧ w'.cell? ⟨wr.heap.size, 4, none⟩ = some (.bool fg))) 24 (by kernel_rfl) (HYS.out _ BYR.out) (fun hHeld => ?_)
      refine till_take 0 (v := ?_) rfl (by kernel_rfl) (by kernel_rfl) (by kernel_rfl) (by kernel_rfl) (fun _ _ _ h => h) hHeld (Or.inl ⟨by rfl, ?_⟩) ?_
      rotate_left
      · (intro w hSw; (try dsimp only at hSw); go_simp; try with_reducible rfl)
      simp only [Act.put, List.setIfInBounds_toArray, List.set_cons_zero, List.set_cons_succ]
      refine till_take 1 (v := ?_) rfl (by kernel_rfl) (by kernel_rfl) (by kernel_rfl) (by kernel_rfl) (fun _ _ _ h => h) hHeld (Or.inl ⟨by rfl, ?_⟩) ?_
      rotate_left
      · (intro w hSw; (try dsimp only at hSw); go_simp; try with_reducible rfl)
      simp only [Act.put, List.setIfInBounds_toArray, List.set_cons_zero, List.set_cons_succ]
      refine till_take 2 (v := ?_) rfl (by kernel_rfl) (by kernel_rfl) (by kernel_rfl) (by kernel_rfl) (fun _ _ _ h => h) hHeld (Or.inl ⟨by rfl, ?_⟩) ?_
      rotate_left
      · (intro w hSw; (try dsimp only at hSw); go_simp; try with_reducible rfl)
      simp only [Act.put, List.setIfInBounds_toArray, List.set_cons_zero, List.set_cons_succ]
      refine till_take 3 (v := ?_) rfl (by kernel_rfl) (by kernel_rfl) (by kernel_rfl) (by kernel_rfl) (fun _ _ _ h => h) hHeld (Or.inl ⟨by rfl, ?_⟩) ?_
      rotate_left
      · (intro w hSw; (try dsimp only at hSw); go_simp; try with_reducible rfl)
      simp only [Act.put, List.setIfInBounds_toArray, List.set_cons_zero, List.set_cons_succ]
      refine till_take 6 (v := ?_) rfl (by kernel_rfl) (by kernel_rfl) (by kernel_rfl) (by kernel_rfl) (fun _ _ _ h => h) hHeld (Or.inl ⟨by rfl, ?_⟩) ?_
      rotate_left
      · (intro w hSw; (try dsimp only at hSw); go_simp; try with_reducible rfl)
      simp only [Act.put, List.setIfInBounds_toArray, List.set_cons_zero, List.set_cons_succ]
      refine till_take 7 (v := ?_) rfl (by kernel_rfl) (by kernel_rfl) (by kernel_rfl) (by kernel_rfl) (fun _ _ _ h => h) hHeld (Or.inl ⟨by rfl, ?_⟩) ?_
      rotate_left
      · (intro w hSw; (try dsimp only at hSw); go_simp; try with_reducible rfl)
      simp only [Act.put, List.setIfInBounds_toArray, List.set_cons_zero, List.set_cons_succ]
      refine till_take 10 (v := ?_) rfl (by kernel_rfl) (by kernel_rfl) (by kernel_rfl) (by kernel_rfl) (fun _ _ _ h => h) hHeld (Or.inl ⟨by rfl, ?_⟩) ?_
      rotate_left
      · (intro w hSw; (try dsimp only at hSw); go_simp; try with_reducible rfl)
      simp only [Act.put, List.setIfInBounds_toArray, List.set_cons_zero, List.set_cons_succ]
      refine till_take 11 (v := ?_) rfl (by kernel_rfl) (by kernel_rfl) (by kernel_rfl) (by kernel_rfl) (fun _ _ _ h => h) hHeld (Or.inl ⟨by rfl, ?_⟩) ?_
      rotate_left
      · (intro w hSw; (try dsimp only at hSw); go_simp; try with_reducible rfl)
      simp only [Act.put, List.setIfInBounds_toArray, List.set_cons_zero, List.set_cons_succ]
      refine till_take 14 (v := ?_) rfl (by kernel_rfl) (by kernel_rfl) (by kernel_rfl) (by kernel_rfl) (fun _ _ _ h => h) hHeld (Or.inl ⟨by rfl, ?_⟩) ?_
      rotate_left
      · (intro w hSw; (try dsimp only at hSw); go_simp; try with_reducible rfl)
      simp only [Act.put, List.setIfInBounds_toArray, List.set_cons_zero, List.set_cons_succ]
      refine till_take 15 (v := ?_) rfl (by kernel_rfl) (by kernel_rfl) (by kernel_rfl) (by kernel_rfl) (fun _ _ _ h => h) hHeld (Or.inl ⟨by rfl, ?_⟩) ?_
      rotate_left
      · (intro w hSw; (try dsimp only at hSw); go_simp; try with_reducible rfl)
      simp only [Act.put, List.setIfInBounds_toArray, List.set_cons_zero, List.set_cons_succ]
      refine till_take 18 (v := ?_) rfl (by kernel_rfl) (by kernel_rfl) (by kernel_rfl) (by kernel_rfl) (fun _ _ _ h => h) hHeld (Or.inl ⟨by rfl, ?_⟩) ?_
      rotate_left
      · (intro w hSw; (try dsimp only at hSw); go_simp; try with_reducible rfl)
      simp only [Act.put, List.setIfInBounds_toArray, List.set_cons_zero, List.set_cons_succ]
      refine till_take 19 (v := ?_) rfl (by kernel_rfl) (by kernel_rfl) (by kernel_rfl) (by kernel_rfl) (fun _ _ _ h => h) hHeld (Or.inl ⟨by rfl, ?_⟩) ?_
      rotate_left
      · (intro w hSw; (try dsimp only at hSw); go_simp; try with_reducible rfl)
      simp only [Act.put, List.setIfInBounds_toArray, List.set_cons_zero, List.set_cons_succ]
      refine cap_act (fun T hTT => ?_)
      have e23 : T.getD 23 undef = .string fn := by rw [hTT]; rfl
      have e27 : T.getD 27 undef = .string fc := by rw [hTT]; rfl
      have e31 : T.getD 31 undef = .string fss := by rw [hTT]; rfl
      have e35 : T.getD 35 undef = .string fv := by rw [hTT]; rfl
      have hTz : T.size = 46 := by rw [hTT]; rfl
      have HTT : Hid (T = _) := hTT
      clear hTT
      refine AnyTill.phase8 (fun b1 b2 b3 b4 b5 b6 b7 b8 => #[true, true, true, true, b1, b2, true, true, b3, b4, true, true, b5, b6, true, true, b7, b8, true, true, false, false, false, false, false]) (fun i b1 b2 b3 b4 b5 b6 b7 b8 => (i == 4 && !b1) || (i == 8 && !b3) || (i == 12 && !b5) || (i == 16 && !b7) || (i == 5 && (b1 && (!b2))) || (i == 9 && (b3 && (b2 && !b4))) || (i == 13 && (b5 && (b4 && !b6))) || (i == 17 && (b7 && (b6 && !b8)))) cpOk (by kernel_rfl) (CpJ T fn fc fss fv y0) (fun s a w h => h.ok) 5 ?_ ?_ _ _ ⟨rfl, rfl, BYR.out, fun v h => (by cases h), fun v h => (by cases h), fun v h => (by cases h), fun v h => (by cases h), fun v h => (by cases h), fun v h => (by cases h), fun v h => (by cases h), fun v h => (by cases h)⟩
      · intro i s a x hck hJ
        obtain ⟨o1, o2, o3, o4, o5, o6, o7, o8⟩ := s
        obtain ⟨hact, hok, hbel, q1, q2, q3, q4, q5, q6, q7, q8⟩ := hJ
        dsimp only at hck hact hok q1 q2 q3 q4 q5 q6 q7 q8
        simp only [Bool.or_eq_true, Bool.and_eq_true, beq_iff_eq, Bool.not_eq_true'] at hck
        rcases hck with (((((((⟨rfl, h1⟩ | ⟨rfl, h1⟩) | ⟨rfl, h1⟩) | ⟨rfl, h1⟩) | ⟨rfl, h1, h2⟩) | ⟨rfl, h1, h0, h2⟩) | ⟨rfl, h1, h0, h2⟩) | ⟨rfl, h1, h0, h2⟩)
        · obtain rfl : o1 = none := by simpa using h1
          subst hact
          have hx : Act.eval ⟨ovl T [(24, none), (25, o2), (28, o3), (29, o4), (32, o5), (33, o6), (36, o7), (37, o8)], []⟩ (.tmp 23) = .string fn := (ovl_old _ T 23 (by simp)).trans e23
          refine wpOp_at 4 rfl (fun K hK => ?_)
          refine step_build1 rfl _ _ rfl (.string fn) hx _ _ (run_build1 _ _) ?_
          refine hK _ _ ⟨⟨some (.slice (some ⟨x.heap.size, 0, none⟩) 1 1), o2, o3, o4, o5, o6, o7, o8⟩, ?_, rfl, HYS.out _ (alB hbel _), ?_⟩
          · simp only [St8.cnt, Option.isSome_none, Option.isSome_some, bitN]; (try simp); (try omega)
          · exact ⟨congrArg (fun t => (⟨t, []⟩ : Act)) (ovl_put [] T [(25, o2), (28, o3), (29, o4), (32, o5), (33, o6), (36, o7), (37, o8)] 24 _ (by simp)), cpOk_1 _ _ _ _ _ _ _ hok, alB hbel _, fun v h => by cases h; exact Sl1.new _ _, fun v h => q2 v h, fun v h => (q3 v h).below ((Below.refl _ _).alloc (Nat.le_refl _) _), fun v h => q4 v h, fun v h => (q5 v h).below ((Below.refl _ _).alloc (Nat.le_refl _) _), fun v h => q6 v h, fun v h => (q7 v h).below ((Below.refl _ _).alloc (Nat.le_refl _) _), fun v h => q8 v h⟩
        · obtain rfl : o3 = none := by simpa using h1
          subst hact
          have hx : Act.eval ⟨ovl T [(24, o1), (25, o2), (28, none), (29, o4), (32, o5), (33, o6), (36, o7), (37, o8)], []⟩ (.tmp 27) = .string fc := (ovl_old _ T 27 (by simp)).trans e27
          refine wpOp_at 8 rfl (fun K hK => ?_)
          refine step_build1 rfl _ _ rfl (.string fc) hx _ _ (run_build1 _ _) ?_
          refine hK _ _ ⟨⟨o1, o2, some (.slice (some ⟨x.heap.size, 0, none⟩) 1 1), o4, o5, o6, o7, o8⟩, ?_, rfl, HYS.out _ (alB hbel _), ?_⟩
          · simp only [St8.cnt, Option.isSome_none, Option.isSome_some, bitN]; (try simp); (try omega)
          · exact ⟨congrArg (fun t => (⟨t, []⟩ : Act)) (ovl_put [(24, o1), (25, o2)] T [(29, o4), (32, o5), (33, o6), (36, o7), (37, o8)] 28 _ (by simp)), cpOk_3 _ _ _ _ _ _ _ hok, alB hbel _, fun v h => (q1 v h).below ((Below.refl _ _).alloc (Nat.le_refl _) _), fun v h => q2 v h, fun v h => by cases h; exact Sl1.new _ _, fun v h => q4 v h, fun v h => (q5 v h).below ((Below.refl _ _).alloc (Nat.le_refl _) _), fun v h => q6 v h, fun v h => (q7 v h).below ((Below.refl _ _).alloc (Nat.le_refl _) _), fun v h => q8 v h⟩
        · obtain rfl : o5 = none := by simpa using h1
          subst hact
          have hx : Act.eval ⟨ovl T [(24, o1), (25, o2), (28, o3), (29, o4), (32, none), (33, o6), (36, o7), (37, o8)], []⟩ (.tmp 31) = .string fss := (ovl_old _ T 31 (by simp)).trans e31
          refine wpOp_at 12 rfl (fun K hK => ?_)
          refine step_build1 rfl _ _ rfl (.string fss) hx _ _ (run_build1 _ _) ?_
          refine hK _ _ ⟨⟨o1, o2, o3, o4, some (.slice (some ⟨x.heap.size, 0, none⟩) 1 1), o6, o7, o8⟩, ?_, rfl, HYS.out _ (alB hbel _), ?_⟩
          · simp only [St8.cnt, Option.isSome_none, Option.isSome_some, bitN]; (try simp); (try omega)
          · exact ⟨congrArg (fun t => (⟨t, []⟩ : Act)) (ovl_put [(24, o1), (25, o2), (28, o3), (29, o4)] T [(33, o6), (36, o7), (37, o8)] 32 _ (by simp)), cpOk_5 _ _ _ _ _ _ _ hok, alB hbel _, fun v h => (q1 v h).below ((Below.refl _ _).alloc (Nat.le_refl _) _), fun v h => q2 v h, fun v h => (q3 v h).below ((Below.refl _ _).alloc (Nat.le_refl _) _), fun v h => q4 v h, fun v h => by cases h; exact Sl1.new _ _, fun v h => q6 v h, fun v h => (q7 v h).below ((Below.refl _ _).alloc (Nat.le_refl _) _), fun v h => q8 v h⟩
        · obtain rfl : o7 = none := by simpa using h1
          subst hact
          have hx : Act.eval ⟨ovl T [(24, o1), (25, o2), (28, o3), (29, o4), (32, o5), (33, o6), (36, none), (37, o8)], []⟩ (.tmp 35) = .string fv := (ovl_old _ T 35 (by simp)).trans e35
          refine wpOp_at 16 rfl (fun K hK => ?_)
          refine step_build1 rfl _ _ rfl (.string fv) hx _ _ (run_build1 _ _) ?_
          refine hK _ _ ⟨⟨o1, o2, o3, o4, o5, o6, some (.slice (some ⟨x.heap.size, 0, none⟩) 1 1), o8⟩, ?_, rfl, HYS.out _ (alB hbel _), ?_⟩
          · simp only [St8.cnt, Option.isSome_none, Option.isSome_some, bitN]; (try simp); (try omega)
          · exact ⟨congrArg (fun t => (⟨t, []⟩ : Act)) (ovl_put [(24, o1), (25, o2), (28, o3), (29, o4), (32, o5), (33, o6)] T [(37, o8)] 36 _ (by simp)), cpOk_7 _ _ _ _ _ _ _ hok, alB hbel _, fun v h => (q1 v h).below ((Below.refl _ _).alloc (Nat.le_refl _) _), fun v h => q2 v h, fun v h => (q3 v h).below ((Below.refl _ _).alloc (Nat.le_refl _) _), fun v h => q4 v h, fun v h => (q5 v h).below ((Below.refl _ _).alloc (Nat.le_refl _) _), fun v h => q6 v h, fun v h => by cases h; exact Sl1.new _ _, fun v h => q8 v h⟩
        · obtain ⟨u, rfl⟩ : ∃ u, o1 = some u := Option.isSome_iff_exists.1 h1
          obtain rfl : o2 = none := by simpa using h2
          subst hact
          have hx : Act.eval ⟨ovl T [(24, some u), (25, none), (28, o3), (29, o4), (32, o5), (33, o6), (36, o7), (37, o8)], []⟩ (.tmp 24) = u := ovl_new [] T [(25, none), (28, o3), (29, o4), (32, o5), (33, o6), (36, o7), (37, o8)] 24 u (by simp) (by omega)
          refine wpOp_at 5 rfl (fun K hK => ?_)
          refine step_go rfl _ _ _ rfl u hx (enter_joined _ _) (joinedAt (q1 u rfl) (by omega)) (fun e x' hp => ?_)
          obtain ⟨he, hb'⟩ := hp
          refine ⟨_, he, ?_⟩
          refine hK _ _ ⟨⟨some u, some (.string fn), o3, o4, o5, o6, o7, o8⟩, ?_, rfl, HYS.out _ (chainB hbel hb'), ?_⟩
          · simp only [St8.cnt, Option.isSome_none, Option.isSome_some, bitN]; (try simp); (try omega)
          · exact ⟨congrArg (fun t => (⟨t, []⟩ : Act)) (ovl_put [(24, some u)] T [(28, o3), (29, o4), (32, o5), (33, o6), (36, o7), (37, o8)] 25 _ (by simp)), cpOk_2 _ _ _ _ _ _ hok, chainB hbel hb', fun v h => (q1 v h).below hb', fun v h => by cases h; exact rfl, fun v h => (q3 v h).below hb', fun v h => q4 v h, fun v h => (q5 v h).below hb', fun v h => q6 v h, fun v h => (q7 v h).below hb', fun v h => q8 v h⟩
        · obtain ⟨u, rfl⟩ : ∃ u, o3 = some u := Option.isSome_iff_exists.1 h1
          obtain rfl : o4 = none := by simpa using h2
          subst hact
          have hx : Act.eval ⟨ovl T [(24, o1), (25, o2), (28, some u), (29, none), (32, o5), (33, o6), (36, o7), (37, o8)], []⟩ (.tmp 28) = u := ovl_new [(24, o1), (25, o2)] T [(29, none), (32, o5), (33, o6), (36, o7), (37, o8)] 28 u (by simp) (by omega)
          refine wpOp_at 9 rfl (fun K hK => ?_)
          refine step_go rfl _ _ _ rfl u hx (enter_joined _ _) (joinedAt (q3 u rfl) (by omega)) (fun e x' hp => ?_)
          obtain ⟨he, hb'⟩ := hp
          refine ⟨_, he, ?_⟩
          refine hK _ _ ⟨⟨o1, o2, some u, some (.string fc), o5, o6, o7, o8⟩, ?_, rfl, HYS.out _ (chainB hbel hb'), ?_⟩
          · simp only [St8.cnt, Option.isSome_none, Option.isSome_some, bitN]; (try simp); (try omega)
          · exact ⟨congrArg (fun t => (⟨t, []⟩ : Act)) (ovl_put [(24, o1), (25, o2), (28, some u)] T [(32, o5), (33, o6), (36, o7), (37, o8)] 29 _ (by simp)), cpOk_4 _ _ _ _ _ _ hok h0, chainB hbel hb', fun v h => (q1 v h).below hb', fun v h => q2 v h, fun v h => (q3 v h).below hb', fun v h => by cases h; exact rfl, fun v h => (q5 v h).below hb', fun v h => q6 v h, fun v h => (q7 v h).below hb', fun v h => q8 v h⟩
        · obtain ⟨u, rfl⟩ : ∃ u, o5 = some u := Option.isSome_iff_exists.1 h1
          obtain rfl : o6 = none := by simpa using h2
          subst hact
          have hx : Act.eval ⟨ovl T [(24, o1), (25, o2), (28, o3), (29, o4), (32, some u), (33, none), (36, o7), (37, o8)], []⟩ (.tmp 32) = u := ovl_new [(24, o1), (25, o2), (28, o3), (29, o4)] T [(33, none), (36, o7), (37, o8)] 32 u (by simp) (by omega)
          refine wpOp_at 13 rfl (fun K hK => ?_)
          refine step_go rfl _ _ _ rfl u hx (enter_joined _ _) (joinedAt (q5 u rfl) (by omega)) (fun e x' hp => ?_)
          obtain ⟨he, hb'⟩ := hp
          refine ⟨_, he, ?_⟩
          refine hK _ _ ⟨⟨o1, o2, o3, o4, some u, some (.string fss), o7, o8⟩, ?_, rfl, HYS.out _ (chainB hbel hb'), ?_⟩
          · simp only [St8.cnt, Option.isSome_none, Option.isSome_some, bitN]; (try simp); (try omega)
          · exact ⟨congrArg (fun t => (⟨t, []⟩ : Act)) (ovl_put [(24, o1), (25, o2), (28, o3), (29, o4), (32, some u)] T [(36, o7), (37, o8)] 33 _ (by simp)), cpOk_6 _ _ _ _ _ _ hok h0, chainB hbel hb', fun v h => (q1 v h).below hb', fun v h => q2 v h, fun v h => (q3 v h).below hb', fun v h => q4 v h, fun v h => (q5 v h).below hb', fun v h => by cases h; exact rfl, fun v h => (q7 v h).below hb', fun v h => q8 v h⟩
        · obtain ⟨u, rfl⟩ : ∃ u, o7 = some u := Option.isSome_iff_exists.1 h1
          obtain rfl : o8 = none := by simpa using h2
          subst hact
          have hx : Act.eval ⟨ovl T [(24, o1), (25, o2), (28, o3), (29, o4), (32, o5), (33, o6), (36, some u), (37, none)], []⟩ (.tmp 36) = u := ovl_new [(24, o1), (25, o2), (28, o3), (29, o4), (32, o5), (33, o6)] T [(37, none)] 36 u (by simp) (by omega)
          refine wpOp_at 17 rfl (fun K hK => ?_)
          refine step_go rfl _ _ _ rfl u hx (enter_joined _ _) (joinedAt (q7 u rfl) (by omega)) (fun e x' hp => ?_)
          obtain ⟨he, hb'⟩ := hp
          refine ⟨_, he, ?_⟩
          refine hK _ _ ⟨⟨o1, o2, o3, o4, o5, o6, some u, some (.string fv)⟩, ?_, rfl, HYS.out _ (chainB hbel hb'), ?_⟩
          · simp only [St8.cnt, Option.isSome_none, Option.isSome_some, bitN]; (try simp); (try omega)
          · exact ⟨congrArg (fun t => (⟨t, []⟩ : Act)) (ovl_put [(24, o1), (25, o2), (28, o3), (29, o4), (32, o5), (33, o6), (36, some u)] T [] 37 _ (by simp)), cpOk_8 _ _ _ _ _ _ hok h0, chainB hbel hb', fun v h => (q1 v h).below hb', fun v h => q2 v h, fun v h => (q3 v h).below hb', fun v h => q4 v h, fun v h => (q5 v h).below hb', fun v h => q6 v h, fun v h => (q7 v h).below hb', fun v h => by cases h; exact rfl⟩
      · intro v1 v2 v3 v4 v5 v6 v7 v8 a x hJ
        obtain ⟨hact, -, hbel, q1, q2, q3, q4, q5, q6, q7, q8⟩ := hJ
        dsimp only at hact q1 q2 q3 q4 q5 q6 q7 q8
        obtain ⟨g1, rfl, -, -⟩ := q1 _ rfl
        obtain rfl := q2 _ rfl
        obtain ⟨g2, rfl, -, -⟩ := q3 _ rfl
        obtain rfl := q4 _ rfl
        obtain ⟨g3, rfl, -, -⟩ := q5 _ rfl
        obtain rfl := q6 _ rfl
        obtain ⟨g4, rfl, -, -⟩ := q7 _ rfl
        obtain rfl := q8 _ rfl
        subst hact
        rw [HTT.out]
        clear q1 q2 q3 q4 q5 q6 q7 q8 e23 e27 e31 e35 hTz HTT
        simp only [ovl, List.setIfInBounds_toArray, List.set_cons_zero, List.set_cons_succ]
        have hHeld := HYS.out _ hbel
        refine till_take 20 (v := ?_) rfl (by kernel_rfl) (by kernel_rfl) (by kernel_rfl) (by kernel_rfl) (fun _ _ _ h => h) hHeld (Or.inl ⟨by rfl, ?_⟩) ?_
        rotate_left
        · (intro w hSw; (try dsimp only at hSw); go_simp; try with_reducible rfl)
        simp only [Act.put, List.setIfInBounds_toArray, List.set_cons_zero, List.set_cons_succ]
        refine till_ready 21 rfl (by kernel_rfl) (fun K hK => ?_)
        go_simp
        refine hK.out _ _ (HYS.out _ (alB hbel _)) (fun hHeld => ?_)
        clear hK K
        try simp only [List.setIfInBounds_toArray, List.set_cons_zero, List.set_cons_succ]
        refine till_ready 22 rfl (by kernel_rfl) (fun K hK => ?_)
        obtain ⟨g, cp, y, hrun, T8, c7, f7, B7⟩ := HAP.out x hbel
        refine step_append_run rfl _ _ 27 rfl v (.slice (some ⟨x.heap.size, 0, none⟩) 1 1) _ _ rfl rfl hrun ?_
        refine hK.out _ _ (B7) (fun hHeld => ?_)
        clear hK K
        try simp only [Act.put, List.setIfInBounds_toArray, List.set_cons_zero, List.set_cons_succ]
        refine till_take 23 (v := ?_) rfl (by kernel_rfl) (by kernel_rfl) (by kernel_rfl) (by kernel_rfl) (fun _ _ _ h => h) hHeld (Or.inl ⟨by rfl, ?_⟩) ?_
        rotate_left
        · (intro w hSw; (try dsimp only at hSw); go_simp; try with_reducible rfl)
        simp only [Act.put, List.setIfInBounds_toArray, List.set_cons_zero, List.set_cons_succ]
        refine till_last rfl (by kernel_rfl) (by kernel_rfl) (fun K hK => ?_)
        go_simp
        refine hK.out _ _ ?_
        clear hK K
        have HA : Hid _ := T8
        clear T8 hHeld B7 hbel HAP HYS
        go_wp2_with fail
        go_roundw
        case rel => exact ⟨j + 1, _, by omega, by go_num, HA⟩
        case measure => simp [Go.RowKit.intOf]; omega
    · have hjj : j = fs.length := by omega
      subst hjj
      rw [List.take_length] at hS
      obtain ⟨g, cc, rfl⟩ : ∃ g cc, v = .slice (some ⟨g, 0, none⟩) fs.length cc := by
        rcases hS.out.own.2 with ⟨-, h0⟩ | ⟨g, cap, cur, h0, -⟩
        · omega
        · exact ⟨g, cap, h0⟩
      have KR := K1.out.below hS.out.bel
      obtain ⟨r0, r1, r2⟩ : wr.cell? ⟨w.heap.size + 1, 0, none⟩ = some (.string ByteArray.empty) ∧ wr.cell? ⟨w.heap.size + 1, 1, none⟩ = some (.int .i64 0) ∧ wr.cell? ⟨w.heap.size + 1, 2, none⟩ = some (.slice none 0 0) := ⟨KR.cell 0, KR.cell 1, KR.cell 2⟩
      have f0 := KR.fr 0
      have f1 := KR.fr 1
      have f2 := KR.fr 2
      obtain ⟨s0, s1, s2⟩ : wr.cell? ⟨Z, 0, none⟩ = some (.string k) ∧ wr.cell? ⟨Z, 1, none⟩ = some (.int .i64 at_) ∧ wr.cell? ⟨Z, 2, none⟩ = some (.slice (some ⟨g, 0, none⟩) fs.length cc) := ⟨hS.out.box.cell 0, hS.out.box.cell 1, hS.out.box.cell 2⟩
      have HE : Hid (∀ x0 x1 x2 : Value, (((wr.setCell ⟨w.heap.size + 1, 0, none⟩ x0).setCell ⟨w.heap.size + 1, 1, none⟩ x1).setCell ⟨w.heap.size + 1, 2, none⟩ x2).ownsRow w.heap.size 103 5 (.slice (some ⟨g, 0, none⟩) fs.length cc) fs.length (fldRow fs) ∧ Below w.heap.size w (((wr.setCell ⟨w.heap.size + 1, 0, none⟩ x0).setCell ⟨w.heap.size + 1, 1, none⟩ x1).setCell ⟨w.heap.size + 1, 2, none⟩ x2)) := by
        intro x0 x1 x2
        have hne := ownR_ne hS.out.own KR (by decide)
        have hs2 := HS2.out
        exact ⟨ownS_mono (ownsRow_setCell_other (ownsRow_setCell_other (ownsRow_setCell_other hS.out.own hne _) hne _) hne _) (by omega), below_set3 (chainB B2.out hS.out.bel) (by omega) _ _ _⟩
      clear KR hS HSz HX HX2 HT
      go_wp2_with fail
      refine bodyPost_ret (v := .agg #[.string k, .int .i64 at_, .slice (some ⟨g, 0, none⟩) fs.length cc]) (by simp [results, Tryz.results61, go_sem, r0, r1, r2]) rfl ?_
      exact ⟨_, _, rfl, HE.out _ _ _⟩
end Go.Proofs.YtepmoihgemhjcaaGreatDoor
