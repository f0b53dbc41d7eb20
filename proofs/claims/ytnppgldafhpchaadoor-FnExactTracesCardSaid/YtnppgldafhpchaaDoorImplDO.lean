/-
  What the program's openDisk makes: a map that has, at each place, the last that is pending there; and what read answers out of it.
  Conditions: the cells of Pending hold the pendings, at most 200 of them, each of a place of the disk.
-/
import Derived.Test.YtnppgldafhpchaaDoorRows
import Derived.Test.YtnppgldafhpchaaDoorBytes
import Derived.Test.YtnppgldafhpchaaDoorJoined
import Derived.Test.YtnppgldafhpchaaDoorSlASlBOwnS
import Derived.Test.YtnppgldafhpchaaDoorDskMath
import Derived.Test.YtnppgldafhpchaaDoorDskMap
import Derived.Handy
import Derived.WalkSpells
import Derived.OwnWalk
import Derived.Maps.RangeWalk
namespace Go.Proofs.YtnppgldafhpchaaDoor
open Go.RowKit Go.Lib Go.Maps
set_option linter.unusedVariables false
set_option maxRecDepth 20000

theorem keyedI : Keyed Tryd.prog 2 := int_keyed Tryd.underlying2
theorem zeroPnd (w : World) : (zeroValue 65).run Tryd.prog w = .ok (.agg #[.int .i64 0, .string ByteArray.empty]) w := by kernel_rfl
theorem wf_small {a : Int} {n : Nat} (hn : n ≤ 1048576) (h : 0 ≤ a ∧ a ≤ (n : Int) - 1) : (Lit.int .i64 a).wf = true := WalkArith.wf_i64 (by omega)

/-- A look-up with 'ok' whose answer is known. -/
theorem wpList_lookup_pnd {P : Program} (w : World) {ops : Array Oper} {rest : List Oper} {o : Oper} {a : Act} {Q : Exit → Act → World → Prop} (hg : o.guard = none) (m x : Operand) (t : TypeId) (hop : o.op = Op.lookup t m x true)
    (k e : TypeId) (K : Keyed P k) (ht : P.underlying t = some (.map k e)) (hz : (zeroValue e).run P w = .ok (.agg #[.int .i64 0, .string ByteArray.empty]) w) (b n : Nat) (D : DataW Pnd)
    (hm : a.eval m = .map (some b)) (hown : w.ownsMap P k pndElem b n D) (key : Value) (kl : Lit) (hx : a.eval x = key) (hkey : keyOf P k key = some kl) (A : Int) (Dt : ByteArray) (c : Bool) (hat : D.atKey kl (.held (0, ByteArray.empty)) = .held (A, Dt)) (hhas : has D kl = c)
    (hK : wpList P ops Q rest (a.put o.dst (.tuple #[.agg #[.int .i64 A, .string Dt], .bool c])) w) :
    wpList P ops Q (o :: rest) a w :=
  wpList_lookup_own_ok w hg m x t hop k e K ht pndElem hz (.held (0, ByteArray.empty)) [] (pndElem_mk 0 ByteArray.empty) b n D hm hown key kl hx hkey (fun v ps hv => by
    obtain ⟨p, rfl, h⟩ := pndElem_inv hv
    rw [hat] at h
    simp only [Prod.mk.injEq, DataW.held.injEq] at h
    obtain ⟨rfl, -⟩ := h
    rw [hhas]
    exact hK)

set_option maxHeartbeats 2000000 in
theorem openDisk_any (p1 : Option Addr) (l1 c1 : Nat) (q2 : Option Addr) (c2 : Nat) (ps : List Pnd) (n : Nat) (w : World) (h2 : PndAt w q2 ps) (n2 : ps.length ≤ 1048576) (m2 : ps.length ≤ c2) (hn : n ≤ 1048576) (hok : ∀ p ∈ ps, pndOk n p) :
    Calls Tryd.prog 31 #[.slice p1 l1 c1, .slice q2 ps.length c2] w fun e w' => ∃ b D, e = .returned (.agg #[.slice p1 l1 c1, .map (some b)]) ∧ w.heap.size ≤ b ∧ w'.ownsMap Tryd.prog 2 pndElem b ps.length D ∧ MapOf D ps ∧ Below w.heap.size w w' := by
  obtain ⟨W1, hW1⟩ : ∃ W1, W1 = w.alloc (.cells #[.slice none 0 0, .map none] 74) := ⟨_, rfl⟩
  have s1 : W1.heap.size = w.heap.size + 1 := by rw [hW1]; simp
  obtain ⟨W2, hW2⟩ : ∃ W2, W2 = W1.alloc (.map #[] 0) := ⟨_, rfl⟩
  have s2 : W2.heap.size = w.heap.size + 2 := by rw [hW2]; simp [s1]
  obtain ⟨W3, hW3⟩ : ∃ W3, W3 = W2.alloc (.cells #[.slice p1 l1 c1, .map (some (w.heap.size + 1))] 74) := ⟨_, rfl⟩
  have s3 : W3.heap.size = w.heap.size + 3 := by rw [hW3]; simp [s2]
  have B1 : Below w.heap.size w W1 := by rw [hW1]; exact (Below.refl _ _).alloc (Nat.le_refl _) _
  have B2 : Below w.heap.size w W2 := by rw [hW2]; exact B1.alloc B1.size _
  have B3 : Below w.heap.size w W3 := by rw [hW3]; exact B2.alloc B2.size _
  have R0 : W3.heap[w.heap.size]? = some (.cells #[.slice none 0 0, .map none] 74 (0, 0)) := by
    rw [hW3]; refine (Below.heap_alloc _ _ _ (by omega)).trans ?_
    rw [hW2]; refine (Below.heap_alloc _ _ _ (by omega)).trans ?_
    rw [hW1]; exact (MapKept.heap_alloc _ _).1
  have R2 : W3.heap[w.heap.size + 2]? = some (.cells #[.slice p1 l1 c1, .map (some (w.heap.size + 1))] 74 (0, 0)) := by rw [hW3, ← s2]; exact (MapKept.heap_alloc _ _).1
  have M0 : W3.ownsMap Tryd.prog 2 pndElem (w.heap.size + 1) 0 (.map []) := by
    rw [hW3, ← s1]
    refine World.ownsMap.alloc ?_ _
    rw [hW2]; exact World.ownsMap_made _ _ _ _
  have HW : Hid (W3 = ((w.alloc (.cells #[.slice none 0 0, .map none] 74)).alloc (.map #[] 0)).alloc (.cells #[.slice p1 l1 c1, .map (some (w.heap.size + 1))] 74)) := by rw [hW3, hW2, hW1]; rfl
  have T2 : Hid (PndAt W3 q2 ps) := h2.below B3
  have HX : Hid (∀ x, W3.grownBy x (some (w.heap.size + 1)) → x.cell? ⟨w.heap.size + 2, 0, none⟩ = some (.slice p1 l1 c1) ∧ x.cell? ⟨w.heap.size + 2, 1, none⟩ = some (.map (some (w.heap.size + 1))) ∧ x.cell? ⟨w.heap.size, 0, none⟩ = some (.slice none 0 0) ∧ x.cell? ⟨w.heap.size, 1, none⟩ = some (.map none) ∧ x.frozen? ⟨w.heap.size, 0, none⟩ = false ∧ x.frozen? ⟨w.heap.size, 1, none⟩ = false) := fun x hg => by
    have h0 := (hg.block w.heap.size (by omega) (by simp)).trans R0
    have h1 := (hg.block (w.heap.size + 2) (by omega) (by simp)).trans R2
    simp [World.cell?, World.frozen?, h0, h1]
  have HP : Hid (∀ x, W3.grownBy x (some (w.heap.size + 1)) → ∀ i (h : i < ps.length), ∃ b off, q2 = some ⟨b, off, none⟩ ∧ x.cell? ⟨b, off + i * 2, none⟩ = some (.int .i64 ps[i].1) ∧ x.cell? ⟨b, off + i * 2 + 1, none⟩ = some (.string ps[i].2)) := fun x hg i hi => by
    obtain ⟨b, off, rfl, hb, hc1, hc2⟩ := h2 i hi
    have hb3 := (hg.block b (by omega) (by simp; omega)).trans (B3.block b hb)
    refine ⟨b, off, rfl, ?_, ?_⟩
    · rw [← hc1]; simp [World.cell?, hb3]
    · rw [← hc2]; simp [World.cell?, hb3]
  have HOK : Hid (∀ p ∈ ps, pndOk n p) := hok
  have HB3 : Hid (Below w.heap.size w W3) := B3
  have HM0 : Hid (W3.ownsMap Tryd.prog 2 pndElem (w.heap.size + 1) 0 (.map [])) := M0
  have hmm := @run_makeMap Tryd.prog
  clear hW1 hW2 hW3 s1 s2 B1 B2 B3 R0 R2 M0 h2 hok
  go_enter Tryd.func31, Tryd.ntmps31
  go_wp2_with fail
  rw [← HW.out]
  go_loopw [13] (fun i wr => ∃ (k : Nat) (D : DataW Pnd), k ≤ ps.length ∧ i = .int .i64 k ∧ Hid (wr.ownsMap Tryd.prog 2 pndElem (w.heap.size + 1) k D) ∧ Hid (MapOf D (ps.take k)) ∧ Hid (W3.grownBy wr (some (w.heap.size + 1)))) (fun i _ => ps.length - (intOf i).toNat)
  case atStart => exact ⟨0, .map [], Nat.zero_le _, rfl, HM0, MapOf.nil, World.grownBy.refl _ _⟩
  case round =>
    obtain ⟨k, D, hk, rfl, HO, HD, HG⟩ := hrel
    obtain ⟨z0, z1, z2, z3, z4, z5⟩ := HX.out wr HG.out
    by_cases hlt : k < ps.length
    · obtain ⟨b, off, rfl, hc1, hc2⟩ := HP.out wr HG.out k hlt
      have hok := HOK.out _ (List.getElem_mem hlt)
      have HD2 : Hid (∀ A Dt, ps[k] = (A, Dt) → MapOf (D.put (.int .i64 A) (.held (A, Dt))) (ps.take (k + 1))) := fun A Dt h => by
        have := HD.out.step hlt
        rw [h] at this; exact this
      have i1 : (k : Int) < ps.length := by omega
      generalize ps[k] = P at *
      obtain ⟨A, Dt⟩ := P
      have hw := wf_small hn hok.1
      have HD3 : Hid (MapOf (D.put (.int .i64 A) (.held (A, Dt))) (ps.take (k + 1))) := HD2.out A Dt rfl
      have hc1 : wr.cell? ⟨b, off + k * 2, none⟩ = some (.int .i64 A) := hc1
      have hc2 : wr.cell? ⟨b, off + k * 2 + 1, none⟩ = some (.string Dt) := hc2
      obtain ⟨Y, hY⟩ : ∃ Y, Y = wr.alloc (.cells #[.int .i64 A, .string Dt] 65) := ⟨_, rfl⟩
      have HY : Hid (Y = wr.alloc (.cells #[.int .i64 A, .string Dt] 65)) := hY
      have gY : W3.grownBy Y (some (w.heap.size + 1)) := by rw [hY]; exact HG.out.andThen (World.grownBy_alloc wr _ none) (fun j hj => by cases hj)
      have oY : Hid (Y.ownsMap Tryd.prog 2 pndElem (w.heap.size + 1) k D) := by rw [hY]; exact HO.out.alloc _
      have y1 := (HX.out Y gY).2.1
      have RY : Y.heap[wr.heap.size]? = some (.cells #[.int .i64 A, .string Dt] 65 (0, 0)) := by rw [hY]; exact (MapKept.heap_alloc _ _).1
      have yc : Y.cell? ⟨wr.heap.size, 0, none⟩ = some (.int .i64 A) ∧ Y.cell? ⟨wr.heap.size, 1, none⟩ = some (.string Dt) := by simp [World.cell?, RY]
      obtain ⟨yc0, yc1⟩ := yc
      have HGY : Hid (W3.grownBy Y (some (w.heap.size + 1))) := gY
      rw [hY] at y1 yc0 yc1 oY HGY
      clear hY RY HD HD2 HO HG hok gY
      go_wp2_with (at_mapUpdate; refine wpList_mapUpdate_own _ rfl _ _ _ 72 rfl 2 65 keyedI Tryd.underlying72 pndElem (w.heap.size + 1) k D rfl oY.out (by unfold maxLen; omega) _ _ _ rfl rfl (keyOf_int_mk Tryd.underlying2 hw) _ [] (pndElem_mk A Dt) ?_; intro w4 hown4 hgrow4)
      have HO4 : Hid (w4.ownsMap Tryd.prog 2 pndElem (w.heap.size + 1) (k + 1) (D.put (.int .i64 A) (.held (A, Dt)))) := hown4
      have HG4 : Hid (W3.grownBy w4 (some (w.heap.size + 1))) := HGY.out.andThen hgrow4 (fun j hj => .inr hj)
      clear hown4 hgrow4 HGY oY
      go_roundw
      case rel => exact ⟨k + 1, _, by omega, by go_num, HO4, HD3, HG4⟩
      case measure => simp [intOf]; omega
    · obtain rfl : k = ps.length := by omega
      have HD2 := HD.out
      rw [List.take_of_length_le (Nat.le_refl _)] at HD2
      have HE : Hid (∀ x y : Value, ((wr.setCell ⟨w.heap.size, 0, none⟩ x).setCell ⟨w.heap.size, 1, none⟩ y).ownsMap Tryd.prog 2 pndElem (w.heap.size + 1) ps.length D ∧ Below w.heap.size w ((wr.setCell ⟨w.heap.size, 0, none⟩ x).setCell ⟨w.heap.size, 1, none⟩ y)) := fun x y => by
        have hb : Below w.heap.size w wr := HB3.out.grown HG.out (by omega) (fun j hj => by cases hj; omega)
        exact ⟨(HO.out.setCell (a := ⟨w.heap.size, 0, none⟩) (by show w.heap.size + 1 ≠ w.heap.size; omega) x).setCell (a := ⟨w.heap.size, 1, none⟩) (by show w.heap.size + 1 ≠ w.heap.size; omega) y, (hb.setCell (Nat.le_refl _) _).setCell (Nat.le_refl _) _⟩
      clear HO HD HG HX HP
      go_wp2_with fail
      refine bodyPost_ret (v := .agg #[.slice p1 l1 c1, .map (some (w.heap.size + 1))]) (by simp [results, Tryd.results31, go_sem, z2, z3]) rfl ?_
      exact ⟨w.heap.size + 1, D, rfl, by omega, (HE.out _ _).1, HD2, (HE.out _ _).2⟩
end Go.Proofs.YtnppgldafhpchaaDoor
