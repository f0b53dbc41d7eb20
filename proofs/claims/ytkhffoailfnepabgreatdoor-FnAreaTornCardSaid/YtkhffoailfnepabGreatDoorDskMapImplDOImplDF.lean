/-
  Parts of one proof, laid as one text: DskMap, ImplDO, ImplDF; what each says stands at its head.
-/
import Derived.Test.YtkhffoailfnepabGreatDoorRows
import Derived.Test.YtkhffoailfnepabGreatDoorDrawsDrawKitDskMath
import Derived.Test.YtkhffoailfnepabGreatDoorDskLawLawSLawSGLawP
import Derived.Handy
import Derived.Maps.RangeWalk
import Derived.Test.YtkhffoailfnepabGreatDoorBytesDigMath
import Derived.Test.YtkhffoailfnepabGreatDoorJoinedPutTextCrc
import Derived.Test.YtkhffoailfnepabGreatDoorSlASlBOwnSOwnBSrc
import Derived.WalkSpells
import Derived.OwnWalk
import Derived.Test.YtkhffoailfnepabGreatDoorPuLeImplDRImplAACopied
import Derived.Test.YtkhffoailfnepabGreatDoorDskSDskCDskT
import Derived.Test.YtkhffoailfnepabGreatDoorDskFDskK
import Derived.Test.YtkhffoailfnepabGreatDoorLawDLwDskLwArLawIPutMathPutNum
import Derived.Laws.OwnMore
import Derived.Deep.RegionWith
/-
  What is pending as a map by its place: of more than one at one place the last alone; what is put into the sectors out of it in any order.
-/
namespace Go.Proofs.YtkhffoailfnepabGreatDoor
open Go.RowKit Go.Lib Go.Maps
set_option linter.unusedVariables false

/-- How an element of the map reads. -/
def pndElem : Value → Option (DataW Pnd × List MemPlace)
  | .agg cs => (match cs.toList with | [.int .i64 a, .string s] => some (.held (a, s), []) | _ => none)
  | _ => none
theorem pndElem_mk (a : Int) (s : ByteArray) : pndElem (.agg #[.int .i64 a, .string s]) = some (.held (a, s), []) := rfl
theorem pndElem_inv {v : Value} {y : DataW Pnd × List MemPlace} (h : pndElem v = some y) : ∃ p : Pnd, v = .agg #[.int .i64 p.1, .string p.2] ∧ y = (.held p, []) := by
  unfold pndElem at h
  split at h
  · rename_i cs
    split at h
    · rename_i a s hcs
      cases h
      obtain ⟨l⟩ := cs
      simp at hcs
      subst hcs
      exact ⟨(a, s), rfl, rfl⟩
    · cases h
  · cases h

/-- The last of what is pending at a place. -/
def lastP (at_ : Int) (ps : List Pnd) : Option Pnd := ps.foldl (fun o p => if p.1 = at_ then some p else o) none
theorem lastP_snoc (at_ : Int) (ps : List Pnd) (k : Nat) (h : k < ps.length) : lastP at_ (ps.take (k + 1)) = if ps[k].1 = at_ then some ps[k] else lastP at_ (ps.take k) := by
  unfold lastP
  rw [List.take_succ_eq_append_getElem h, List.foldl_append]; rfl
theorem readTo_fold (at_ : Int) (t0 : ByteArray) (ps : List Pnd) : ∀ (o : Option Pnd) (t : ByteArray), (match o with | some p => p.2 | none => t0) = t → readTo at_ t ps = match ps.foldl (fun o p => if p.1 = at_ then some p else o) o with | some p => p.2 | none => t0 := by
  induction ps with
  | nil => intro o t h; exact h.symm
  | cons p ps ih =>
    intro o t h
    show readTo at_ (if p.1 = at_ then p.2 else t) ps = _
    rw [List.foldl_cons]
    refine ih _ _ ?_
    by_cases e : p.1 = at_
    · rw [if_pos e, if_pos e]
    · rw [if_neg e, if_neg e]; exact h
theorem readTo_last (at_ : Int) (t : ByteArray) (ps : List Pnd) : readTo at_ t ps = match lastP at_ ps with | some p => p.2 | none => t := readTo_fold at_ t ps none t rfl
theorem lastP_mem (at_ : Int) (ps : List Pnd) : ∀ (o : Option Pnd) (p : Pnd), ps.foldl (fun o p => if p.1 = at_ then some p else o) o = some p → o = some p ∨ (p ∈ ps ∧ p.1 = at_) := by
  induction ps with
  | nil => intro o p h; exact .inl h
  | cons q ps ih =>
    intro o p h
    rw [List.foldl_cons] at h
    rcases ih _ p h with h | h
    · by_cases e : q.1 = at_
      · rw [if_pos e] at h; cases h; exact .inr ⟨List.mem_cons_self, e⟩
      · rw [if_neg e] at h; exact .inl h
    · exact .inr ⟨List.mem_cons_of_mem _ h.1, h.2⟩
theorem lastP_at {at_ : Int} {ps : List Pnd} {p : Pnd} (h : lastP at_ ps = some p) : p ∈ ps ∧ p.1 = at_ := by
  rcases lastP_mem at_ ps none p h with h | h
  · cases h
  · exact h

/-- A map that has, at each place, the last that is pending there. -/
structure MapOf (D : DataW Pnd) (ps : List Pnd) : Prop where
  is : IsMap D
  no : ∀ a, lastP a ps = none → has D (.int .i64 a) = false
  yes : ∀ a p, lastP a ps = some p → has D (.int .i64 a) = true ∧ ∀ zd, D.atKey (.int .i64 a) zd = .held p
theorem MapOf.nil : MapOf (.map []) [] := ⟨isMap_empty, fun a _ => rfl, fun a p h => by cases h⟩
theorem kL_is (a : Int) : WideAt.IsKeyLit (Lit.int .i64 a) := trivial
theorem kL_ne {a b : Int} (h : a ≠ b) : (Lit.int .i64 a) ≠ (Lit.int .i64 b) := fun e => by cases e; exact h rfl
theorem MapOf.step {D : DataW Pnd} {ps : List Pnd} {k : Nat} (h : MapOf D (ps.take k)) (hk : k < ps.length) : MapOf (D.put (.int .i64 ps[k].1) (.held ps[k])) (ps.take (k + 1)) := by
  refine ⟨h.is.put _ _, fun a ha => ?_, fun a p ha => ?_⟩
  · rw [lastP_snoc a ps k hk] at ha
    by_cases e : ps[k].1 = a
    · rw [if_pos e] at ha; cases ha
    · rw [if_neg e] at ha
      rw [has_put_other (kL_ne fun e' => e e'.symm)]
      exact h.no a ha
  · rw [lastP_snoc a ps k hk] at ha
    by_cases e : ps[k].1 = a
    · rw [if_pos e] at ha
      cases ha
      subst e
      exact ⟨has_put_same h.is (kL_is _) _, fun zd => atKey_put_same h.is (kL_is _) _ zd⟩
    · rw [if_neg e] at ha
      rw [has_put_other (kL_ne fun e' => e e'.symm)]
      exact ⟨(h.yes a p ha).1, fun zd => by rw [atKey_put_other (kL_ne fun e' => e e'.symm)]; exact (h.yes a p ha).2 zd⟩

/-- The sectors while what is pending is put into them: those that are still to come are what they were. -/
structure FlR (ss : List ByteArray) (ps : List Pnd) (D : DataW Pnd) (left : Lit → Bool) (L : List ByteArray) : Prop where
  len : L.length = ss.length
  to_ : ∀ a, left (.int .i64 a) = true → ∃ p, lastP a ps = some p ∧ ∀ zd, D.atKey (.int .i64 a) zd = .held p
  at_ : ∀ i : Nat, secAt L (i : Int) = if left (.int .i64 (i : Int)) = true then secAt ss (i : Int) else readTo (i : Int) (secAt ss (i : Int)) ps
theorem FlR.start {ss : List ByteArray} {ps : List Pnd} {D : DataW Pnd} (h : MapOf D ps) : FlR ss ps D (has D) ss := by
  refine ⟨rfl, fun a ha => ?_, fun i => ?_⟩
  · cases hl : lastP a ps with
    | none => rw [h.no a hl] at ha; cases ha
    | some p => exact ⟨p, rfl, (h.yes a p hl).2⟩
  · split
    · rfl
    · rename_i hn
      rw [readTo_last]
      cases hl : lastP (i : Int) ps with
      | none => rfl
      | some p => exact absurd (h.yes _ p hl).1 hn
theorem FlR.step {ss : List ByteArray} {ps : List Pnd} {D : DataW Pnd} {left : Lit → Bool} {L : List ByteArray} (h : FlR ss ps D left L) {A : Nat} {p : Pnd} (hA : A < ss.length) (hl : left (.int .i64 (A : Int)) = true) (hp : ∀ zd, D.atKey (.int .i64 (A : Int)) zd = .held p) :
    FlR ss ps (D.del (.int .i64 (A : Int))) (fun z => left z && !z.sameKey (.int .i64 (A : Int))) (L.set A p.2) := by
  have hlast : lastP (A : Int) ps = some p := by
    obtain ⟨q, h1, h2⟩ := h.to_ _ hl
    have := (hp .nil).symm.trans (h2 .nil)
    cases this
    exact h1
  refine ⟨by rw [List.length_set]; exact h.len, fun a ha => ?_, fun i => ?_⟩
  · rw [Bool.and_eq_true, Bool.not_eq_true'] at ha
    have hne : a ≠ (A : Int) := fun e => by
      subst e
      rw [WideAt.sameKey_self (kL_is _)] at ha
      exact absurd ha.2 (by simp)
    obtain ⟨q, h1, h2⟩ := h.to_ a ha.1
    exact ⟨q, h1, fun zd => by rw [atKey_del_other (kL_ne hne)]; exact h2 zd⟩
  · rw [secAt_set L A i p.2 (by rw [h.len]; exact hA)]
    by_cases e : A = i
    · subst e
      have hk : (left (.int .i64 (A : Int)) && !(Lit.int .i64 (A : Int)).sameKey (.int .i64 (A : Int))) = false := by
        rw [WideAt.sameKey_self (kL_is _)]; simp
      rw [if_pos rfl, hk, if_neg Bool.false_ne_true, readTo_last, hlast]
    · have hne : (Lit.int .i64 (i : Int)).sameKey (.int .i64 (A : Int)) = false := sameKey_ne (kL_ne (by omega))
      have hk : (left (.int .i64 (i : Int)) && !(Lit.int .i64 (i : Int)).sameKey (.int .i64 (A : Int))) = left (.int .i64 (i : Int)) := by
        rw [hne]; simp
      rw [if_neg e, hk, h.at_ i]
theorem secAt_ext {L M : List ByteArray} (hl : L.length = M.length) (h : ∀ i : Nat, secAt L (i : Int) = secAt M (i : Int)) : L = M := by
  refine List.ext_getElem hl fun i h1 h2 => ?_
  have := h i
  simpa [secAt, List.getD_eq_getElem?_getD, h1, h2] using this
theorem FlR.done {ss : List ByteArray} {ps : List Pnd} {D : DataW Pnd} {left : Lit → Bool} {L : List ByteArray} (h : FlR ss ps D left L) (h0 : ∀ kl, left kl = false) (hok : ∀ p ∈ ps, pndOk ss.length p) : L = flushB ss ps := by
  refine secAt_ext (by rw [h.len, flushB_len]) fun i => ?_
  rw [h.at_ i, h0, if_neg Bool.false_ne_true, flush_read ps ss i hok]
end Go.Proofs.YtkhffoailfnepabGreatDoor
/-
  What the program's openDisk makes: a map that has, at each place, the last that is pending there; and what read answers out of it.
  Conditions: the cells of Pending hold the pendings, at most 200 of them, each of a place of the disk.
-/
namespace Go.Proofs.YtkhffoailfnepabGreatDoor
open Go.RowKit Go.Lib Go.Maps
set_option linter.unusedVariables false
set_option maxRecDepth 20000

theorem keyedI : Keyed Tryz.prog 2 := int_keyed Tryz.underlying2
theorem zeroPnd (w : World) : (zeroValue 76).run Tryz.prog w = .ok (.agg #[.int .i64 0, .string ByteArray.empty]) w := by kernel_rfl
theorem wf_small {a : Int} {n : Nat} (hn : n ≤ 1048576) (h : 0 ≤ a ∧ a ≤ (n : Int) - 1) : (Lit.int .i64 a).wf = true := WalkArith.wf_i64 (by omega)

/-- A look-up with 'ok' whose answer is known. -/
theorem wpList_lookup_pnd {P : Program} (w : World) {ops : Array Oper} {rest : List Oper} {o : Oper} {a : Act} {Q : Exit → Act → World → Prop} (hg : o.guard = none) (m x : Operand) (t : TypeId) (hop : o.op = Op.lookup t m x true)
    (k e : TypeId) (K : Keyed P k) (ht : P.underlying t = some (.map k e)) (hz : (zeroValue e).run P w = .ok (.agg #[.int .i64 0, .string ByteArray.empty]) w) (b n : Nat) (D : DataW Pnd)
    (hm : a.eval m = .map (some b)) (hown : w.ownsMap P k pndElem b n D) (key : Value) (kl : Lit) (hx : a.eval x = key) (hkey : keyOf P k key = some kl) (A : Int) (Dt : ByteArray) (c : Bool) (hat : D.atKey kl (.held (0, ByteArray.empty)) = .held (A, Dt)) (hhas : has D kl = c)
    (hK : wpList P ops Q rest (a.put o.dst (.tuple #[.agg #[.int .i64 A, .string Dt], .bool c])) w) :
    wpList P ops Q (o :: rest) a w :=
  wpList_lookup_own_ok w hg m x t hop k e K ht pndElem hz (.held (0, ByteArray.empty)) [] (pndElem_mk 0 ByteArray.empty) b n D hm hown key kl hx hkey (fun v ps hv => by
    obtain ⟨p, rfl, h⟩ := pndElem_inv hv
    rw [hat] at h
    simp only [Prod.mk.injEq, DataW.held.injEq] at h
    obtain ⟨rfl, -⟩ := h
    rw [hhas]
    exact hK)

set_option maxHeartbeats 2000000 in
theorem openDisk_any (p1 : Option Addr) (l1 c1 : Nat) (q2 : Option Addr) (c2 : Nat) (ps : List Pnd) (n : Nat) (w : World) (h2 : PndAt w q2 ps) (n2 : ps.length ≤ 1048576) (m2 : ps.length ≤ c2) (hn : n ≤ 1048576) (hok : ∀ p ∈ ps, pndOk n p) :
    Calls Tryz.prog 52 #[.slice p1 l1 c1, .slice q2 ps.length c2] w fun e w' => ∃ b D, e = .returned (.agg #[.slice p1 l1 c1, .map (some b)]) ∧ w.heap.size ≤ b ∧ w'.ownsMap Tryz.prog 2 pndElem b ps.length D ∧ MapOf D ps ∧ Below w.heap.size w w' := by
  obtain ⟨W1, hW1⟩ : ∃ W1, W1 = w.alloc (.cells #[.slice none 0 0, .map none] 87) := ⟨_, rfl⟩
  have s1 : W1.heap.size = w.heap.size + 1 := by rw [hW1]; simp
  obtain ⟨W2, hW2⟩ : ∃ W2, W2 = W1.alloc (.map #[] 0) := ⟨_, rfl⟩
  have s2 : W2.heap.size = w.heap.size + 2 := by rw [hW2]; simp [s1]
  obtain ⟨W3, hW3⟩ : ∃ W3, W3 = W2.alloc (.cells #[.slice p1 l1 c1, .map (some (w.heap.size + 1))] 87) := ⟨_, rfl⟩
  have s3 : W3.heap.size = w.heap.size + 3 := by rw [hW3]; simp [s2]
  have B1 : Below w.heap.size w W1 := by rw [hW1]; exact (Below.refl _ _).alloc (Nat.le_refl _) _
  have B2 : Below w.heap.size w W2 := by rw [hW2]; exact B1.alloc B1.size _
  have B3 : Below w.heap.size w W3 := by rw [hW3]; exact B2.alloc B2.size _
  have R0 : W3.heap[w.heap.size]? = some (.cells #[.slice none 0 0, .map none] 87 (0, 0)) := by
    rw [hW3]; refine (Below.heap_alloc _ _ _ (by omega)).trans ?_
    rw [hW2]; refine (Below.heap_alloc _ _ _ (by omega)).trans ?_
    rw [hW1]; exact (MapKept.heap_alloc _ _).1
  have R2 : W3.heap[w.heap.size + 2]? = some (.cells #[.slice p1 l1 c1, .map (some (w.heap.size + 1))] 87 (0, 0)) := by rw [hW3, ← s2]; exact (MapKept.heap_alloc _ _).1
  have M0 : W3.ownsMap Tryz.prog 2 pndElem (w.heap.size + 1) 0 (.map []) := by
    rw [hW3, ← s1]
    refine World.ownsMap.alloc ?_ _
    rw [hW2]; exact World.ownsMap_made _ _ _ _
  have HW : Hid (W3 = ((w.alloc (.cells #[.slice none 0 0, .map none] 87)).alloc (.map #[] 0)).alloc (.cells #[.slice p1 l1 c1, .map (some (w.heap.size + 1))] 87)) := by rw [hW3, hW2, hW1]; rfl
  have T2 : Hid (PndAt W3 q2 ps) := h2.below B3
  have HX : Hid (∀ x, W3.grownBy x (some (w.heap.size + 1)) → x.cell? ⟨w.heap.size + 2, 0, none⟩ = some (.slice p1 l1 c1) ∧ x.cell? ⟨w.heap.size + 2, 1, none⟩ = some (.map (some (w.heap.size + 1))) ∧ x.cell? ⟨w.heap.size, 0, none⟩ = some (.slice none 0 0) ∧ x.cell? ⟨w.heap.size, 1, none⟩ = some (.map none) ∧ x.frozen? ⟨w.heap.size, 0, none⟩ = false ∧ x.frozen? ⟨w.heap.size, 1, none⟩ = false) := fun x hg => by
    have h0 := (hg.block w.heap.size (by omega) (by simp)).trans R0
    have h1 := (hg.block (w.heap.size + 2) (by omega) (by simp)).trans R2
    simp [World.cell?, World.frozen?, h0, h1]
  have HP : Hid (∀ x, W3.grownBy x (some (w.heap.size + 1)) → ∀ i (h : i < ps.length), ∃ b off, q2 = some ⟨b, off, none⟩ ∧ x.cell? ⟨b, off + i * 2, none⟩ = some (.int .i64 ps[i].1) ∧ x.cell? ⟨b, off + i * 2 + 1, none⟩ = some (.string ps[i].2)) := fun x hg i hi => by
    obtain ⟨b, off, rfl, hb, hc1, hc2⟩ := h2 i hi
    have hb3 := (hg.block b (by omega) (by simp; omega)).trans (B3.block b hb)
    refine ⟨b, off, rfl, ?_, ?_⟩
    · rw [← hc1]; simp [World.cell?, hb3]
    · rw [← hc2]; simp [World.cell?, hb3]
  have HOK : Hid (∀ p ∈ ps, pndOk n p) := hok
  have HB3 : Hid (Below w.heap.size w W3) := B3
  have HM0 : Hid (W3.ownsMap Tryz.prog 2 pndElem (w.heap.size + 1) 0 (.map [])) := M0
  have hmm := @run_makeMap Tryz.prog
  clear hW1 hW2 hW3 s1 s2 B1 B2 B3 R0 R2 M0 h2 hok
  go_enter Tryz.func52, Tryz.ntmps52
  go_wp2_with fail
  rw [← HW.out]
  go_loopw [13] (fun i wr => ∃ (k : Nat) (D : DataW Pnd), k ≤ ps.length ∧ i = .int .i64 k ∧ Hid (wr.ownsMap Tryz.prog 2 pndElem (w.heap.size + 1) k D) ∧ Hid (MapOf D (ps.take k)) ∧ Hid (W3.grownBy wr (some (w.heap.size + 1)))) (fun i _ => ps.length - (intOf i).toNat)
  case atStart => exact ⟨0, .map [], Nat.zero_le _, rfl, HM0, MapOf.nil, World.grownBy.refl _ _⟩
  case round =>
    obtain ⟨k, D, hk, rfl, HO, HD, HG⟩ := hrel
    obtain ⟨z0, z1, z2, z3, z4, z5⟩ := HX.out wr HG.out
    by_cases hlt : k < ps.length
    · obtain ⟨b, off, rfl, hc1, hc2⟩ := HP.out wr HG.out k hlt
      have hok := HOK.out _ (List.getElem_mem hlt)
      have HD2 : Hid (∀ A Dt, ps[k] = (A, Dt) → MapOf (D.put (.int .i64 A) (.held (A, Dt))) (ps.take (k + 1))) := fun A Dt h => by
        have := HD.out.step hlt
        rw [h] at this; exact this
      have i1 : (k : Int) < ps.length := by omega
      generalize ps[k] = P at *
      obtain ⟨A, Dt⟩ := P
      have hw := wf_small hn hok.1
      have HD3 : Hid (MapOf (D.put (.int .i64 A) (.held (A, Dt))) (ps.take (k + 1))) := HD2.out A Dt rfl
      have hc1 : wr.cell? ⟨b, off + k * 2, none⟩ = some (.int .i64 A) := hc1
      have hc2 : wr.cell? ⟨b, off + k * 2 + 1, none⟩ = some (.string Dt) := hc2
      obtain ⟨Y, hY⟩ : ∃ Y, Y = wr.alloc (.cells #[.int .i64 A, .string Dt] 76) := ⟨_, rfl⟩
      have HY : Hid (Y = wr.alloc (.cells #[.int .i64 A, .string Dt] 76)) := hY
      have gY : W3.grownBy Y (some (w.heap.size + 1)) := by rw [hY]; exact HG.out.andThen (World.grownBy_alloc wr _ none) (fun j hj => by cases hj)
      have oY : Hid (Y.ownsMap Tryz.prog 2 pndElem (w.heap.size + 1) k D) := by rw [hY]; exact HO.out.alloc _
      have y1 := (HX.out Y gY).2.1
      have RY : Y.heap[wr.heap.size]? = some (.cells #[.int .i64 A, .string Dt] 76 (0, 0)) := by rw [hY]; exact (MapKept.heap_alloc _ _).1
      have yc : Y.cell? ⟨wr.heap.size, 0, none⟩ = some (.int .i64 A) ∧ Y.cell? ⟨wr.heap.size, 1, none⟩ = some (.string Dt) := by simp [World.cell?, RY]
      obtain ⟨yc0, yc1⟩ := yc
      have HGY : Hid (W3.grownBy Y (some (w.heap.size + 1))) := gY
      rw [hY] at y1 yc0 yc1 oY HGY
      clear hY RY HD HD2 HO HG hok gY
      go_wp2_with (at_mapUpdate; refine wpList_mapUpdate_own _ rfl _ _ _ 85 rfl 2 76 keyedI Tryz.underlying85 pndElem (w.heap.size + 1) k D rfl oY.out (by unfold maxLen; omega) _ _ _ rfl rfl (keyOf_int_mk Tryz.underlying2 hw) _ [] (pndElem_mk A Dt) ?_; intro w4 hown4 hgrow4)
      have HO4 : Hid (w4.ownsMap Tryz.prog 2 pndElem (w.heap.size + 1) (k + 1) (D.put (.int .i64 A) (.held (A, Dt)))) := hown4
      have HG4 : Hid (W3.grownBy w4 (some (w.heap.size + 1))) := HGY.out.andThen hgrow4 (fun j hj => .inr hj)
      clear hown4 hgrow4 HGY oY
      go_roundw
      case rel => exact ⟨k + 1, _, by omega, by go_num, HO4, HD3, HG4⟩
      case measure => simp [intOf]; omega
    · obtain rfl : k = ps.length := by omega
      have HD2 := HD.out
      rw [List.take_of_length_le (Nat.le_refl _)] at HD2
      have HE : Hid (∀ x y : Value, ((wr.setCell ⟨w.heap.size, 0, none⟩ x).setCell ⟨w.heap.size, 1, none⟩ y).ownsMap Tryz.prog 2 pndElem (w.heap.size + 1) ps.length D ∧ Below w.heap.size w ((wr.setCell ⟨w.heap.size, 0, none⟩ x).setCell ⟨w.heap.size, 1, none⟩ y)) := fun x y => by
        have hb : Below w.heap.size w wr := HB3.out.grown HG.out (by omega) (fun j hj => by cases hj; omega)
        exact ⟨(HO.out.setCell (a := ⟨w.heap.size, 0, none⟩) (by show w.heap.size + 1 ≠ w.heap.size; omega) x).setCell (a := ⟨w.heap.size, 1, none⟩) (by show w.heap.size + 1 ≠ w.heap.size; omega) y, (hb.setCell (Nat.le_refl _) _).setCell (Nat.le_refl _) _⟩
      clear HO HD HG HX HP
      go_wp2_with fail
      refine bodyPost_ret (v := .agg #[.slice p1 l1 c1, .map (some (w.heap.size + 1))]) (by simp [results, Tryz.results52, go_sem, z2, z3]) rfl ?_
      exact ⟨w.heap.size + 1, D, rfl, by omega, (HE.out _ _).1, HD2, (HE.out _ _).2⟩
end Go.Proofs.YtkhffoailfnepabGreatDoor
/-
  What the program's read, flush and flushed do on a disk at work: of each place the last that is pending there, whatever the order in which the map is gone through.
  Conditions: the disk is right: at most 64 sectors, nothing greater than 64 bytes, each place one of the disk's.
-/
namespace Go.Proofs.YtkhffoailfnepabGreatDoor
open Go.RowKit Go.Lib Go.Maps
set_option linter.unusedVariables false
set_option maxRecDepth 20000

theorem grown_below {w w' : World} (h : Below w.heap.size w w') : w.grownBy w' none := ⟨h.os, h.tape, h.output, h.size, fun k hk _ => h.block k hk⟩
set_option maxHeartbeats 2000000 in
theorem read_any (q1 : Option Addr) (c1 : Nat) (ss : List ByteArray) (M n : Nat) (D : DataW Pnd) (ps : List Pnd) (A : Nat) (w : World) (h1 : TxtAt w q1 ss) (m1 : ss.length ≤ c1) (n1 : ss.length ≤ 64) (hO : w.ownsMap Tryz.prog 2 pndElem M n D) (hD : MapOf D ps) (hA : A < ss.length) (h4 : ∀ x ∈ ss, x.size ≤ 64) (h5 : ∀ p ∈ ps, pndOk ss.length p) :
    Calls Tryz.prog 53 #[.agg #[.slice q1 ss.length c1, .map (some M)], .int .i64 (A : Int)] w fun e w' => e = .returned (.string (readB ss ps (A : Int))) ∧ Below w.heap.size w w' := by
  obtain ⟨W1, hW1⟩ : ∃ W1, W1 = w.alloc (.cells #[.slice q1 ss.length c1, .map (some M)] 87) := ⟨_, rfl⟩
  have HW1 : Hid (W1 = w.alloc (.cells #[.slice q1 ss.length c1, .map (some M)] 87)) := hW1
  have B1 : Below w.heap.size w W1 := by rw [hW1]; exact (Below.refl _ _).alloc (Nat.le_refl _) _
  have K1 : Bxs W1 w.heap.size 87 #[.slice q1 ss.length c1, .map (some M)] := by rw [hW1]; exact Bxs.new _ _ _
  have O1 : W1.ownsMap Tryz.prog 2 pndElem M n D := by rw [hW1]; exact hO.alloc _
  have hw : (Lit.int .i64 (A : Int)).wf = true := WalkArith.wf_i64 (by omega)
  have hRd : readB ss ps (A : Int) = match lastP (A : Int) ps with | some p => p.2 | none => secAt ss (A : Int) := readTo_last _ _ _
  have hi : (A : Int) < ss.length := by omega
  cases hl : lastP (A : Int) ps with
  | some p =>
    obtain ⟨hmem, -⟩ := lastP_at hl
    have hsz := (h5 p hmem).2
    obtain ⟨g1, g2⟩ := hD.yes _ p hl
    rw [hl] at hRd
    obtain ⟨P1, P2⟩ := p
    have hRd : readB ss ps (A : Int) = P2 := hRd
    have hsz : P2.size ≤ 64 := hsz
    rw [hRd]
    obtain ⟨W2, hW2⟩ : ∃ W2, W2 = W1.alloc (.cells #[.int .i64 P1, .string P2] 76) := ⟨_, rfl⟩
    have HW2 : Hid (W2 = W1.alloc (.cells #[.int .i64 P1, .string P2] 76)) := hW2
    have B2 : Below w.heap.size w W2 := by rw [hW2]; exact B1.alloc B1.size _
    have K2 : Bxs W2 W1.heap.size 76 #[.int .i64 P1, .string P2] := by rw [hW2]; exact Bxs.new _ _ _
    have c0 := K1.cell 1
    have hj := joined_one P2 W2 (by omega)
    have s1 : W1.heap.size = w.heap.size + 1 := by rw [hW1]; simp
    have s2 : W2.heap.size = w.heap.size + 2 := by rw [hW2]; simp [s1]
    rw [s2] at hj
    have e0 := g2 (.held (0, ByteArray.empty))
    have k2 := K2.cell 1
    rw [s1] at k2
    rw [hW2, HW1.out] at k2
    rw [HW1.out] at c0 O1
    rw [hW1] at HW2
    clear hl hRd hD hmem h4 h5 h1 hO K1 K2 g2
    go_enter Tryz.func53, Tryz.ntmps53
    go_wp2_with (first
      | (at_lookup; refine wpList_lookup_pnd _ rfl _ _ 85 rfl 2 76 keyedI Tryz.underlying85 (zeroPnd _) M n D rfl O1 _ _ rfl (keyOf_int_mk Tryz.underlying2 hw) P1 P2 true e0 g1 ?_))
    rw [← HW2.out]
    refine hj.mono ?_
    rintro e w3 ⟨rfl, b3⟩
    rw [← s2] at b3
    have b3 := chainB B2 b3
    go_wp2_with fail
    go_ret
    exact ⟨rfl, b3⟩
  | none =>
    have g1 := hD.no _ hl
    have e0 := atKey_of_not_has g1 (.held (0, ByteArray.empty))
    rw [hl] at hRd
    have hSec : secAt ss (A : Int) = ss[A] := by show ss.getD _ _ = _; simp [List.getD_eq_getElem?_getD, hA]
    have hRd : readB ss ps (A : Int) = ss[A] := hRd.trans hSec
    have hsz := h4 ss[A] (List.getElem_mem hA)
    rw [hRd]
    obtain ⟨W2, hW2⟩ : ∃ W2, W2 = W1.alloc (.cells #[.int .i64 0, .string ByteArray.empty] 76) := ⟨_, rfl⟩
    have HW2 : Hid (W2 = W1.alloc (.cells #[.int .i64 0, .string ByteArray.empty] 76)) := hW2
    have b12 : Below W1.heap.size W1 W2 := by rw [hW2]; exact (Below.refl _ _).alloc (Nat.le_refl _) _
    have B2 : Below w.heap.size w W2 := chainB B1 b12
    obtain ⟨b, off, rfl, hb, hc⟩ := (h1.below B2) A hA
    have c0 := K1.cell 1
    have c2 := (K1.below b12).cell 0
    have hj := joined_one ss[A] W2 (by omega)
    have s1 : W1.heap.size = w.heap.size + 1 := by rw [hW1]; simp
    have s2 : W2.heap.size = w.heap.size + 2 := by rw [hW2]; simp [s1]
    rw [s2] at hj
    generalize ss[A] = T at *
    rw [hW2, HW1.out] at c2 hc
    rw [HW1.out] at c0 O1
    rw [hW1] at HW2
    clear hl hRd hD h4 h5 h1 hO K1 hSec
    go_enter Tryz.func53, Tryz.ntmps53
    go_wp2_with (first
      | (at_lookup; refine wpList_lookup_pnd _ rfl _ _ 85 rfl 2 76 keyedI Tryz.underlying85 (zeroPnd _) M n D rfl O1 _ _ rfl (keyOf_int_mk Tryz.underlying2 hw) 0 ByteArray.empty false e0 g1 ?_))
    rw [← HW2.out]
    refine hj.mono ?_
    rintro e w3 ⟨rfl, b3⟩
    rw [← s2] at b3
    have b3 := chainB B2 b3
    go_wp2_with fail
    go_ret
    exact ⟨rfl, b3⟩

/-- The step of a range over such a map, whose places are all below N. -/
theorem wpList_next_pnd {P : Program} (w : World) {ops : Array Oper} {rest : List Oper} {o : Oper} {a : Act} {Q : Exit → Act → World → Prop} (hg : o.guard = none) (it : Operand) (hop : o.op = Op.next it false) (k : TypeId) (K : Keyed P k) (hk : P.underlying k = some (.int .i64))
    (b r n : Nat) (D : DataW Pnd) (left : Lit → Bool) (cnt : Nat) (hit : a.eval it = .pointer (some ⟨r, 0, none⟩)) (h : w.ranges P k pndElem b r n D left cnt) (N : Nat) (hin : ∀ x, left (.int .i64 x) = true → ∃ A : Nat, A < N ∧ x = (A : Int))
    (hDone : (∀ kl, left kl = false) → wpList P ops Q rest (a.put o.dst (.tuple #[.bool false])) w)
    (hMore : ∀ (A : Nat) (x : Int) (Dt : ByteArray) (w' : World) (cnt' : Nat), A < N → left (.int .i64 (A : Int)) = true → (∀ zd, D.atKey (.int .i64 (A : Int)) zd = .held (x, Dt)) → w'.ranges P k pndElem b r n D (fun z => left z && !z.sameKey (.int .i64 (A : Int))) cnt' → cnt' < cnt →
      w.grownBy w' (some r) → w'.heap.size = w.heap.size → (Instr.entry (.pointer (some ⟨r, 0, none⟩))).run P w' = .ok (.tuple #[.int .i64 (A : Int), .agg #[.int .i64 x, .string Dt]]) w' → wpList P ops Q rest (a.put o.dst (.tuple #[.bool true, .int .i64 (A : Int), .agg #[.int .i64 x, .string Dt]])) w') :
    wpList P ops Q (o :: rest) a w :=
  wpList_next_ranges w hg it hop k K pndElem (Value.int .i64) (fun p : Pnd => .agg #[.int .i64 p.1, .string p.2]) (fun key kl hkey => by obtain ⟨x, rfl, _⟩ := keyOf_int_inv hk hkey; exact ⟨x, rfl⟩) (fun v y hv => by obtain ⟨c, rfl, _⟩ := pndElem_inv hv; exact ⟨c, rfl⟩)
    b r n D left cnt hit h (fun _ h0 => hDone h0) (fun x c kl y w' cnt' hkey hlk hv hat hrg hlt hgr hsz hen => by
      obtain ⟨x', ex, rfl, hwx⟩ := keyOf_int_inv hk hkey
      cases ex
      obtain ⟨c', ec, rfl⟩ := pndElem_inv hv
      simp only [Value.agg.injEq, Array.mk.injEq, List.cons.injEq, Value.int.injEq, Value.string.injEq, true_and, and_true] at ec
      obtain ⟨A, hA, rfl⟩ := hin x hlk
      obtain ⟨c1, c2⟩ := c
      obtain ⟨d1, d2⟩ := c'
      obtain ⟨e1, e2⟩ := ec
      have e1 : c1 = d1 := e1
      have e2 : c2 = d2 := e2
      subst e1 e2
      exact hMore A c1 c2 w' cnt' hA hlk hat hrg hlt hgr hsz hen)
end Go.Proofs.YtkhffoailfnepabGreatDoor
