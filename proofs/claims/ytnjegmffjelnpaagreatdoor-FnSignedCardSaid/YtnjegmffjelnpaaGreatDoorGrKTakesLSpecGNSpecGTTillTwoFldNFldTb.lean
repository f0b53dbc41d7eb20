/-
  Parts of one proof, laid as one text: GrK, TakesL, SpecGN, SpecGT, TillTwo, FldN, FldTb; what each says stands at its head.
-/
import Derived.Test.YtnjegmffjelnpaaGreatDoorRows
import Derived.Test.YtnjegmffjelnpaaGreatDoorBytesDigMathTurnIWholeR
import Derived.Test.YtnjegmffjelnpaaGreatDoorSlABxKSlBOwnSSgnBOwnBPadI
import Derived.Handy
import Derived.OwnWalk
import Derived.Deep.RegionHeld3
import Derived.Test.YtnjegmffjelnpaaGreatDoorTimeBPutTextFldMathFldRiseScanMath
import Derived.Test.YtnjegmffjelnpaaGreatDoorGetValGetTxtNumMathFldRdNumFromTmbMath
import Derived.WalkSpells
import Derived.Deep.Cut
import Derived.Deep.CutRange
import Derived.Test.YtnjegmffjelnpaaGreatDoorMacMathPutMathJoinedDigITurn2
import Derived.Test.YtnjegmffjelnpaaGreatDoorPutNumAppSSrc
import Derived.Test.YtnjegmffjelnpaaGreatDoorLgMathLgAtKLgAnsLgRtTakesFldIsFldC
import Derived.Deep.RegionWith
/-
  A world that has grown, one block turned: steps of it.
-/
namespace Go.Proofs.YtnjegmffjelnpaaGreatDoor
open Go.RowKit Go.Lib
set_option linter.unusedVariables false

theorem grown_below {w x : World} {P : Nat} (h : Below w.heap.size w x) : w.grownBy x (some P) := ⟨h.os, h.tape, h.output, h.size, fun g hg _ => h.block g hg⟩
theorem grown_set {w x : World} {P : Nat} (h : w.grownBy x (some P)) (i : Nat) (v : Value) : w.grownBy (x.setCell ⟨P, i, none⟩ v) (some P) := by
  refine ⟨h.os, h.tape, h.output, ?_, fun g hg hne => ?_⟩
  · have := h.size
    simpa [World.setCell] using this
  · have hne' : P ≠ g := fun e => hne (by rw [e])
    rw [show (x.setCell ⟨P, i, none⟩ v).heap[g]? = x.heap[g]? by simp [World.setCell, Array.getElem?_modify, hne']]
    exact h.block g hg hne
theorem grown_trans {a b c : World} {P : Nat} (h : a.grownBy b (some P)) (k : b.grownBy c (some P)) : a.grownBy c (some P) :=
  ⟨k.os.trans h.os, k.tape.trans h.tape, k.output.trans h.output, Nat.le_trans h.size k.size, fun g hg hne => (k.block g (Nat.lt_of_lt_of_le hg h.size) hne).trans (h.block g hg hne)⟩
theorem grown_drew {a b : World} {P : Nat} (h : a.grownBy b (some P)) : a.grownBy b.drew (some P) := ⟨h.os, h.tape, h.output, h.size, h.block⟩
/-- Behind a growth that turns a block of one's own all below is as it was. -/
theorem below_turned {B : Nat} {a x y : World} {P : Nat} (h : Below B a x) (k : x.grownBy y (some P)) (hx : B ≤ x.heap.size) (hP : B ≤ P) : Below B a y :=
  h.grown k hx (fun j hj => by have := hj; simp at this; omega)
end Go.Proofs.YtnjegmffjelnpaaGreatDoor
/-
  One operation of a drawing region taken by hand, where the region's LAST operation (a store, which waits for all others) ends what held of the world till then: the condition is asked behind every operation but that one.
-/
namespace Go.Proofs.YtnjegmffjelnpaaGreatDoor
open Go.RowKit Go.Lib
set_option linter.unusedVariables false

/-- In whatever order, and S holds behind every operation but number l. -/
def AnyTill (P : Program) (md : Region.Mode) (ops : Array Oper) (Q : Exit → Act → World → Prop) (S : World → Prop) (l : Nat) : Nat → Array Bool → Act → World → Prop
  | 0, listed, a, w => Region.ready md ops listed = [] ∧ Q .normal a w
  | n + 1, listed, a, w => (Region.ready md ops listed = [] → Q .normal a w) ∧ ∀ i ∈ Region.ready md ops listed, wpOp P ops Q i (fun a' w' => (i ≠ l → S w') ∧ AnyTill P md ops Q S l n (listed.setIfInBounds i true) a' w') a w
/-- Number l waits for number i. -/
def waitsFor (md : Region.Mode) (ops : Array Oper) (l i : Nat) : Bool := match ops[l]? with
  | some x => x.after.any (fun e => Region.binds md e && e.on == i)
  | none => false
section
variable {P : Program} {ops : Array Oper} {Q : Exit → Act → World → Prop} {md : Region.Mode} {S : World → Prop} {l : Nat}
theorem AnyTill.any : ∀ (n : Nat) (listed : Array Bool) (a : Act) (w : World), AnyTill P md ops Q S l n listed a w → wpAny P md ops Q n listed a w
  | 0, _, _, _, h => h
  | n + 1, _, _, _, h => ⟨h.1, fun i hi => wpOp_mono (fun a' w' k => AnyTill.any n _ a' w' k.2) (h.2 i hi)⟩
theorem AnyTill.first {i : Nat} {o : Oper} {v : Value} (hi : ops[i]? = some o) (hsel : ∀ (j : Nat) (x : Oper) cs b, ops[j]? = some x → x.op ≠ .select cs b) (hQ : ∀ c a w, Q (.panic c) (a.put o.dst v) w → Q (.panic c) a w) (hl : waitsFor md ops l i = true) (n : Nat) :
    ∀ (listed : Array Bool) (a : Act) (w : World), (∀ j x, ops[j]? = some x → j ≠ i → listed.getD j true = false → (∀ e ∈ x.after, Region.binds md e = true → e.on ≠ i) → o.apart ops x = true) →
      i ∈ Region.ready md ops listed → YieldsIf P ops S o v a → S w → AnyTill P md ops Q S l n (listed.setIfInBounds i true) (a.put o.dst v) w → AnyTill P md ops Q S l (n + 1) listed a w := by
  induction n with
  | zero =>
    intro listed a w _ hr hy hS H
    refine ⟨fun h0 => absurd (h0 ▸ hr) (by simp), fun j hj => ?_⟩
    by_cases hji : j = i
    · subst hji; exact hy.wpOp hi hS ⟨fun _ => hS, H⟩
    · exact absurd (H.1 ▸ ready_mono hj hji) (by simp)
  | succ n ih =>
    intro listed a w hfree hr hy hS H
    refine ⟨fun h0 => absurd (h0 ▸ hr) (by simp), fun j hj => ?_⟩
    by_cases hji : j = i
    · subst hji; exact hy.wpOp hi hS ⟨fun _ => hS, H⟩
    obtain ⟨hun, x, hx, hall⟩ := mem_ready.1 hj
    have hnot : ∀ e ∈ x.after, Region.binds md e = true → e.on ≠ i := fun e he hb heq => by
      have h1 := hall e he hb
      have h0 := (mem_ready.1 hr).1
      rw [heq] at h1
      rcases Nat.lt_or_ge i listed.size with q | q
      · simp [q] at h0 h1; rw [h0] at h1; cases h1
      · simp [Array.getElem?_eq_none q] at h1
    have hjl : j ≠ l := by
      rintro rfl
      unfold waitsFor at hl
      rw [hx] at hl
      simp only [Array.any_eq_true] at hl
      obtain ⟨k, hk, he⟩ := hl
      rw [Bool.and_eq_true, beq_iff_eq] at he
      exact hnot _ (Array.getElem_mem hk) he.1 he.2
    have hfree' : ∀ k y, ops[k]? = some y → k ≠ i → (listed.setIfInBounds j true).getD k true = false → (∀ e ∈ y.after, Region.binds md e = true → e.on ≠ i) → o.apart ops y = true := fun k y hk hki hu hno => by
      refine hfree k y hk hki ?_ hno
      by_cases hjk : j = k
      · subst hjk; exact hun
      · rwa [getD_set_ne true hjk] at hu
    have step := wpOp_putIf hx (hfree j x hx hji hun hnot) (fun cs b => hsel i o cs b hi) (fun cs b => hsel j x cs b hx) hQ hy (H.2 j (ready_mono hj hji))
    refine wpOp_mono (fun a' w' k => ?_) step
    obtain ⟨ky, kS, kH⟩ := k
    exact ⟨kS, ih _ a' w' hfree' (ready_mono hr (Ne.symm hji)) ky (kS hjl) (by rw [Array.setIfInBounds_comm _ _ hji]; exact kH)⟩
theorem till_take (i : Nat) {oi : Oper} {v : Value} {fuel : Nat} {listed : Array Bool} {a : Act} {w : World} (hi : ops.toList[i]? = some oi)
    (hs : Region.noSelect ops = true) (hf : Region.free md ops listed i = true) (hr : (Region.ready md ops listed).contains i = true) (hl : waitsFor md ops l i = true)
    (hQ : ∀ c a w, Q (.panic c) (a.put oi.dst v) w → Q (.panic c) a w) (hS : S w) (hy : YieldsIf P ops S oi v a)
    (h : AnyTill P md ops Q S l fuel (listed.setIfInBounds i true) (a.put oi.dst v) w) : AnyTill P md ops Q S l (fuel + 1) listed a w :=
  AnyTill.first (by rw [← hi]; simp) (Region.noSelect_spec hs) hQ hl fuel listed a w (Region.free_spec (by rw [← hi]; simp) hf) (by simpa using hr) hy hS h
theorem till_ready (i : Nat) {o : Oper} {fuel : Nat} {listed : Array Bool} {a : Act} {w : World} (hi : ops.toList[i]? = some o) (hr : Region.ready md ops listed = [i])
    (h : ∀ K' : Act → World → Prop, Shut (∀ a w, S w → (S w → AnyTill P md ops Q S l fuel (listed.setIfInBounds i true) a w) → K' a w) → if Region.wanted o (yielded ops a.tmps) = true then Oper.wp P o a w K' Q else K' (a.put o.dst undef) w) : AnyTill P md ops Q S l (fuel + 1) listed a w :=
  ⟨fun h0 => absurd (hr ▸ h0) (by simp), fun j hj => by
    obtain rfl : j = i := by rw [hr] at hj; simpa using hj
    exact wpOp_step (by rw [← hi]; simp) (fun K' hK => h K' (fun a w hS hW => hK a w ⟨fun _ => hS, hW hS⟩))⟩
theorem till_last {o : Oper} {fuel : Nat} {listed : Array Bool} {a : Act} {w : World} (hi : ops.toList[l]? = some o) (hr : Region.ready md ops listed = [l]) (hd : Region.ready md ops (listed.setIfInBounds l true) = [])
    (h : ∀ K' : Act → World → Prop, Shut (∀ a w, Q .normal a w → K' a w) → if Region.wanted o (yielded ops a.tmps) = true then Oper.wp P o a w K' Q else K' (a.put o.dst undef) w) : AnyTill P md ops Q S l (fuel + 1) listed a w :=
  ⟨fun h0 => absurd (hr ▸ h0) (by simp), fun j hj => by
    obtain rfl : j = l := by rw [hr] at hj; simpa using hj
    exact wpOp_step (by rw [← hi]; simp) (fun K' hK => h K' (fun a w hQ => hK a w ⟨fun h0 => absurd rfl h0, by
      cases fuel with
      | zero => exact ⟨hd, hQ⟩
      | succ n => exact ⟨fun _ => hQ, by rw [hd]; simp⟩⟩))⟩
theorem region_till (S : World → Prop) (l : Nat) {id : Nat} {a : Act} {w : World} (hm : P.follows .mixedOrders = true) (hS : S w.drew)
    (h : S w.drew → AnyTill P .any ops Q S l ops.size (Array.replicate ops.size false) a w.drew) : (Code.region id ops true).wp P Q a w :=
  wp_region_any hm (AnyTill.any _ _ _ _ (h hS))
end
end Go.Proofs.YtnjegmffjelnpaaGreatDoor
/-
  What the specification's GetNum answers: 'getN' of the text and the place, in new memory.
  Conditions: the string fits the form's own reach; the place is an int64.
-/
namespace Go.Proofs.YtnjegmffjelnpaaGreatDoor
open Go.RowKit
set_option linter.unusedVariables false

set_option maxRecDepth 20000 in
set_option maxHeartbeats 2000000 in
theorem specGetNum_any (s : ByteArray) (at0 : Int) (w : World) (hs : s.size ≤ maxLen) (h1 : at0 ≤ 9223372036854775807) :
    Calls Tryz.prog 140 #[.string s, .int .i64 at0] w fun e w' => e = .returned (getV s at0) ∧ Below w.heap.size w w' := by
  unfold maxLen at hs
  by_cases hb : 8000 < s.size
  · have H : Hid (getV s at0 = numOut 0 0 2) := getV_size hb
    go_enter Tryz.func140, Tryz.ntmps140
    go_wp2
    go_returns
    exact ⟨ret_valN (H.out.trans rfl).symm, (Below.refl _ _).alloc (Nat.le_refl _) _⟩
  by_cases h0 : at0 < 0
  · have H : Hid (getV s at0 = numOut 0 0 1) := getV_form hb h0
    go_enter Tryz.func140, Tryz.ntmps140
    go_wp2
    go_returns
    exact ⟨ret_valN (H.out.trans rfl).symm, (Below.refl _ _).alloc (Nat.le_refl _) _⟩
  obtain ⟨a, ha⟩ : ∃ a : Nat, at0 = a := ⟨at0.toNat, by omega⟩
  subst ha
  have d1 : decide (8000 < (s.size : Int)) = false := by simp; omega
  have d2 : decide ((a : Int) < 0) = false := by simp
  have HB : Hid (¬ 8000 < s.size) := hb
  go_enter Tryz.func140, Tryz.ntmps140
  go_wp2
  go_loop [5, 6] (fun x i => ∃ (k : Nat) (u : Int), i = .int .i64 k ∧ x = .int .u64 u ∧ Hid (GetTo s a k u)) (fun _ i => 10 - (Go.RowKit.intOf i).toNat)
  case atStart => exact ⟨0, 0, rfl, rfl, getTo_start s a⟩
  case round =>
    obtain ⟨k, u, rfl, rfl, HT⟩ := hrel
    have hk : k ≤ 9 := HT.out.1
    have hu0 : 0 ≤ u := HT.out.2.1
    have hu1 : Hid (u < 2 ^ (7 * k)) := HT.out.2.2.1
    by_cases hl : s.size ≤ a + k
    · have H : Hid (getV s (a : Int) = numOut 0 0 4) := getV_bad HB.out (by decide) (getTo_short HT.out hl)
      go_wp2
      go_returns
      exact ⟨ret_valN (H.out.trans rfl).symm, (Below.refl _ _).alloc (Nat.le_refl _) _⟩
    have hak : a + k < s.size := by omega
    have hcb : (s[a + k].toNat : Int) ≤ 255 := by have := s[a + k].toNat_lt; omega
    by_cases hbig : k = 9 ∧ 1 < (s[a + k].toNat : Int)
    · have H : Hid (getV s (a : Int) = numOut 0 0 3) := getV_bad HB.out (by decide) (getTo_big HT.out hak hbig.1 hbig.2)
      have k9 : ((k : Int) == 9) = true := by simp; omega
      obtain ⟨e9, hc1⟩ := hbig
      clear e9
      go_wp2
      go_returns
      exact ⟨ret_valN (H.out.trans rfl).symm, (Below.refl _ _).alloc (Nat.le_refl _) _⟩
    by_cases hc : 128 ≤ (s[a + k].toNat : Int)
    · have hk8 : k ≤ 8 := by omega
      have k9 : ((k : Int) == 9) = false := by simp; omega
      have HM : Hid (GetTo s a (k + 1) (u + ((s[a + k].toNat : Int) - 128) * 2 ^ (7 * k))) := getTo_more HT.out hak hk8 hc
      have HA : Hid (IntKind.u64.wrap (u + IntKind.u64.wrap ((s[a + k].toNat : Int) % 128 * 2 ^ (7 * k))) = u + ((s[a + k].toNat : Int) - 128) * 2 ^ (7 * k)) := by
        show _ = _
        rw [spec_add hk hu0 hu1.out (by omega) (by omega) (by omega), show (s[a + k].toNat : Int) % 128 = (s[a + k].toNat : Int) - 128 by omega]
      clear hbig hb
      go_wp2
      go_round
      case rel => exact ⟨k + 1, _, by go_num, by rw [HA.out], HM⟩
      case measure => simp [Go.RowKit.intOf]; omega
    · have h9 : k = 9 → (s[a + k].toNat : Int) ≤ 1 := fun e => by omega
      obtain ⟨v, hv⟩ : ∃ v, v = u + (s[a + k].toNat : Int) * 2 ^ (7 * k) := ⟨_, rfl⟩
      have hvb := add_fits (x := (s[a + k].toNat : Int)) hk hu0 hu1.out (by omega) (by omega) h9
      have hA : IntKind.u64.wrap (u + IntKind.u64.wrap ((s[a + k].toNat : Int) % 128 * 2 ^ (7 * k))) = v := by
        rw [show (s[a + k].toNat : Int) % 128 = (s[a + k].toNat : Int) by omega, spec_add hk hu0 hu1.out (by omega) (by omega) h9, hv]
      have v0 : 0 ≤ v := by omega
      have v1 : v ≤ 18446744073709551615 := by omega
      have HV : Hid (v = u + (s[a + k].toNat : Int) * 2 ^ (7 * k)) := hv
      have H9 : Hid (k = 9 → (s[a + k].toNat : Int) ≤ 1) := h9
      clear hv hvb hbig hb h9
      by_cases hz : (s[a + k].toNat : Int) = 0 ∧ 0 < k
      · have H : Hid (getV s (a : Int) = numOut 0 0 3) := getV_bad HB.out (by decide) (getTo_zero HT.out hak hz.1 hz.2)
        have c0 : ((s[a + k].toNat : Int) == 0) = true := by simp; omega
        have hkp : 0 < k := hz.2
        have c1 : (s[a + k].toNat : Int) ≤ 0 := by omega
        clear hz
        cases k9 : ((k : Int) == 9)
        · go_wp2
          go_returns
          exact ⟨ret_valN (H.out.trans rfl).symm, (Below.refl _ _).alloc (Nat.le_refl _) _⟩
        · go_wp2
          go_returns
          exact ⟨ret_valN (H.out.trans rfl).symm, (Below.refl _ _).alloc (Nat.le_refl _) _⟩
      · have H : Hid (getV s (a : Int) = numOut (unfoldN v) ((a : Int) + (k : Int) + 1) 0) := by
          show _ = _
          rw [getV_ok HB.out (getTo_ok HT.out hak (by omega) H9.out (fun hp hc0 => hz ⟨hc0, hp⟩)), ← HV.out]
          congr 1
        have h9i : ((k : Int) == 9) = true → (s[a + k].toNat : Int) ≤ 1 := fun e => H9.out (by simp at e; omega)
        have hzi : ((s[a + k].toNat : Int) == 0) = true → (k : Int) ≤ 0 := fun e => by simp at e; omega
        have H9i : Hid (((k : Int) == 9) = true → (s[a + k].toNat : Int) ≤ 1) := h9i
        have Hzi : Hid (((s[a + k].toNat : Int) == 0) = true → (k : Int) ≤ 0) := hzi
        clear hz h9i hzi
        cases hp : (v % 2 == 1)
        · have HU : Hid (unfoldN v = v / 2) := if_neg (by simp at hp; omega)
          cases k9 : ((k : Int) == 9)
          · cases c0 : ((s[a + k].toNat : Int) == 0)
            · go_wp2
              go_returns
              exact ⟨ret_valN (by rw [H.out, HU.out]; rfl), (Below.refl _ _).alloc (Nat.le_refl _) _⟩
            · have hk0 := Hzi.out c0
              go_wp2
              go_returns
              exact ⟨ret_valN (by rw [H.out, HU.out]; rfl), (Below.refl _ _).alloc (Nat.le_refl _) _⟩
          · have hc1 := H9i.out k9
            cases c0 : ((s[a + k].toNat : Int) == 0)
            · go_wp2
              go_returns
              exact ⟨ret_valN (by rw [H.out, HU.out]; rfl), (Below.refl _ _).alloc (Nat.le_refl _) _⟩
            · have hk0 := Hzi.out c0
              exfalso
              simp at k9; omega
        · have HU : Hid (unfoldN v = -(v / 2) - 1) := if_pos (by simpa using hp)
          cases k9 : ((k : Int) == 9)
          · cases c0 : ((s[a + k].toNat : Int) == 0)
            · go_wp2
              go_returns
              exact ⟨ret_valN (by rw [H.out, HU.out]; rfl), (Below.refl _ _).alloc (Nat.le_refl _) _⟩
            · have hk0 := Hzi.out c0
              go_wp2
              go_returns
              exact ⟨ret_valN (by rw [H.out, HU.out]; rfl), (Below.refl _ _).alloc (Nat.le_refl _) _⟩
          · have hc1 := H9i.out k9
            cases c0 : ((s[a + k].toNat : Int) == 0)
            · go_wp2
              go_returns
              exact ⟨ret_valN (by rw [H.out, HU.out]; rfl), (Below.refl _ _).alloc (Nat.le_refl _) _⟩
            · have hk0 := Hzi.out c0
              exfalso
              simp at k9; omega
end Go.Proofs.YtnjegmffjelnpaaGreatDoor
/-
  What the specification's GetText answers: 'getTV' of the text and the place, in new memory.
  Conditions: the string fits the form's own reach; the place is an int64.
-/
namespace Go.Proofs.YtnjegmffjelnpaaGreatDoor
open Go.RowKit Go.Extern.Stop Go.Stop Go.Extern
set_option linter.unusedVariables false

end Go.Proofs.YtnjegmffjelnpaaGreatDoor
/-
  Two operations of a drawing region that are ready at once, each order written out.
-/
namespace Go.Proofs.YtnjegmffjelnpaaGreatDoor
open Go.RowKit Go.Lib
set_option linter.unusedVariables false

theorem till_ready2 {P : Program} {ops : Array Oper} {Q : Exit → Act → World → Prop} {md : Region.Mode} {S : World → Prop} {l : Nat} (i j : Nat) {oi oj : Oper} {fuel : Nat} {listed : Array Bool} {a : Act} {w : World} (hi : ops.toList[i]? = some oi) (hj : ops.toList[j]? = some oj) (hr : Region.ready md ops listed = [i, j])
    (h1 : ∀ K' : Act → World → Prop, Shut (∀ a w, S w → (S w → AnyTill P md ops Q S l fuel (listed.setIfInBounds i true) a w) → K' a w) → if Region.wanted oi (yielded ops a.tmps) = true then Oper.wp P oi a w K' Q else K' (a.put oi.dst undef) w)
    (h2 : ∀ K' : Act → World → Prop, Shut (∀ a w, S w → (S w → AnyTill P md ops Q S l fuel (listed.setIfInBounds j true) a w) → K' a w) → if Region.wanted oj (yielded ops a.tmps) = true then Oper.wp P oj a w K' Q else K' (a.put oj.dst undef) w) : AnyTill P md ops Q S l (fuel + 1) listed a w :=
  ⟨fun h0 => absurd (hr ▸ h0) (by simp), fun k hk => by
    rw [hr] at hk
    have hk' : k = i ∨ k = j := by simpa using hk
    rcases hk' with rfl | rfl
    · exact wpOp_step (by rw [← hi]; simp) (fun K' hK => h1 K' (fun a w hS hW => hK a w ⟨fun _ => hS, hW hS⟩))
    · exact wpOp_step (by rw [← hj]; simp) (fun K' hK => h2 K' (fun a w hS hW => hK a w ⟨fun _ => hS, hW hS⟩))⟩
end Go.Proofs.YtnjegmffjelnpaaGreatDoor
/-
  What the specification's reader of numbers and texts answers: num, text, many.
  Conditions: the reader's box holds the text, the place and the flag.
-/
namespace Go.Proofs.YtnjegmffjelnpaaGreatDoor
open Go.RowKit Go.Lib
set_option linter.unusedVariables false
set_option maxRecDepth 20000

set_option maxHeartbeats 4000000 in
theorem rdNum_any (P : Nat) (t : ByteArray) (a : Int) (bd : Bool) (w : World) (hp : Bxs w P 151 #[.string t, .int .i64 a, .bool bd]) (ht : t.size ≤ 8000) (a1 : a ≤ 9223372036854775807) :
    Calls Tryz.prog 126 #[.pointer (some ⟨P, 0, none⟩)] w fun e w' => e = .returned (.int .i64 (rnN t a bd)) ∧ Bxs w' P 151 #[.string t, .int .i64 (rnA t a bd), .bool (rnB t a bd)] ∧ w.grownBy w' (some P) := by
  have HP : Hid (Bxs w P 151 #[.string t, .int .i64 a, .bool bd]) := hp
  have HPl : Hid (P < w.heap.size) := hp.lt
  obtain ⟨n, b, c, hg⟩ : ∃ (n : Int) (b c : Int), getN t a = (n, b, c) := ⟨_, _, _, rfl⟩
  have HB : Hid (rnB t a bd = (bd || (c != 0))) := by show (_ || _) = _; rw [hg]
  have HN : Hid (rnN t a bd = if (bd || (c != 0)) = true then 0 else n) := by show (if _ then _ else _) = _; rw [HB.out, hg]
  have HA : Hid (rnA t a bd = if (bd || (c != 0)) = true then a else b) := by show (if _ then _ else _) = _; rw [HB.out, hg]
  have HG : Hid (∀ x, Calls Tryz.prog 140 #[.string t, .int .i64 a] x fun e w' => e = .returned (.agg #[.int .i64 n, .int .i64 b, .int .i64 c]) ∧ Below x.heap.size x w') := fun x => by
    have h := specGetNum_any t a x (by unfold maxLen; omega) a1
    unfold getV numOut at h
    rw [hg] at h; exact h
  clear hg hp
  have BR : Hid (Below w.heap.size w w.drew) := (Below.refl _ _).drew
  have HY : Hid (∀ x, Below w.heap.size w x → x.cell? ⟨P, 0, none⟩ = some (.string t) ∧ x.cell? ⟨P, 1, none⟩ = some (.int .i64 a)) := fun x hx => ⟨(HP.out.below hx).cell 0, (HP.out.below hx).cell 1⟩
  have HEa : Hid (∀ y, Below w.heap.size w y → Bxs (y.alloc (.cells #[.int .i64 n, .int .i64 b, .int .i64 c] 164)) y.heap.size 164 #[.int .i64 n, .int .i64 b, .int .i64 c] ∧ Below w.heap.size w (y.alloc (.cells #[.int .i64 n, .int .i64 b, .int .i64 c] 164)) ∧ y.heap.size ≠ P) := fun y hy => ⟨Bxs.new _ _ _, alB hy _, by have := hy.size; have := HPl.out; omega⟩
  have HEb : Hid (∀ y, Below (w.alloc (.cells #[.int .i64 0, .int .i64 0, .int .i64 0] 164)).heap.size (w.alloc (.cells #[.int .i64 0, .int .i64 0, .int .i64 0] 164)) y → Below w.heap.size w y ∧ Bxs y w.heap.size 164 #[.int .i64 0, .int .i64 0, .int .i64 0]) := fun y hy => ⟨((Below.refl _ _).alloc (Nat.le_refl _) _).trans (hy.mono (by rw [szA]; omega)), (Bxs.new _ _ _).below hy⟩
  have HEc : Hid (∀ y, Below w.heap.size w y → Bxs y w.heap.size 164 #[.int .i64 0, .int .i64 0, .int .i64 0] → Bxs (((y.setCell ⟨w.heap.size, 0, none⟩ (.int .i64 n)).setCell ⟨w.heap.size, 1, none⟩ (.int .i64 b)).setCell ⟨w.heap.size, 2, none⟩ (.int .i64 c)) w.heap.size 164 #[.int .i64 n, .int .i64 b, .int .i64 c] ∧ Below w.heap.size w (((y.setCell ⟨w.heap.size, 0, none⟩ (.int .i64 n)).setCell ⟨w.heap.size, 1, none⟩ (.int .i64 b)).setCell ⟨w.heap.size, 2, none⟩ (.int .i64 c)) ∧ w.heap.size ≠ P) := fun y hy hk => ⟨((hk.set 0 _).set 1 _).set 2 _, below_set3 hy (Nat.le_refl _) _ _ _, by have := HPl.out; omega⟩
  go_enter Tryz.func126, Tryz.ntmps126
  go_upto_region 1 with fail
  go_cut [3] from 4 to 12 (fun s3 wx => ∃ N, s3 = .pointer (some ⟨N, 0, none⟩) ∧ Hid (Bxs wx N 164 #[.int .i64 n, .int .i64 b, .int .i64 c] ∧ Below w.heap.size w wx ∧ N ≠ P))
  case first =>
    refine region_till (fun w' => w'.cell? ⟨P, 0, none⟩ = some (.string t) ∧ w'.cell? ⟨P, 1, none⟩ = some (.int .i64 a)) 10 (by kernel_rfl) (HY.out _ BR.out) (fun hHeld => ?_)
    refine till_take 0 (v := ?_) rfl (by kernel_rfl) (by kernel_rfl) (by kernel_rfl) (by kernel_rfl) (fun _ _ _ h => h) hHeld (Or.inl ⟨by rfl, ?_⟩) ?_
    rotate_left
    · (intro w hSw; (try dsimp only at hSw); go_simp; try with_reducible rfl)
    simp only [Act.put, List.setIfInBounds_toArray, List.set_cons_zero, List.set_cons_succ]
    refine till_take 1 (v := ?_) rfl (by kernel_rfl) (by kernel_rfl) (by kernel_rfl) (by kernel_rfl) (fun _ _ _ h => h) hHeld (Or.inl ⟨by rfl, ?_⟩) ?_
    rotate_left
    · (intro w hSw; (try dsimp only at hSw); go_simp; try with_reducible rfl)
    simp only [Act.put, List.setIfInBounds_toArray, List.set_cons_zero, List.set_cons_succ]
    refine till_take 2 (v := ?_) rfl (by kernel_rfl) (by kernel_rfl) (by kernel_rfl) (by kernel_rfl) (fun _ _ _ h => h) hHeld (Or.inl ⟨by rfl, ?_⟩) ?_
    rotate_left
    · (intro w hSw; (try dsimp only at hSw); go_simp; try with_reducible rfl)
    simp only [Act.put, List.setIfInBounds_toArray, List.set_cons_zero, List.set_cons_succ]
    refine till_take 3 (v := ?_) rfl (by kernel_rfl) (by kernel_rfl) (by kernel_rfl) (by kernel_rfl) (fun _ _ _ h => h) hHeld (Or.inl ⟨by rfl, ?_⟩) ?_
    rotate_left
    · (intro w hSw; (try dsimp only at hSw); go_simp; try with_reducible rfl)
    simp only [Act.put, List.setIfInBounds_toArray, List.set_cons_zero, List.set_cons_succ]
    refine till_take 4 (v := ?_) rfl (by kernel_rfl) (by kernel_rfl) (by kernel_rfl) (by kernel_rfl) (fun _ _ _ h => h) hHeld (Or.inl ⟨by rfl, ?_⟩) ?_
    rotate_left
    · (intro w hSw; (try dsimp only at hSw); go_simp; try with_reducible rfl)
    simp only [Act.put, List.setIfInBounds_toArray, List.set_cons_zero, List.set_cons_succ]
    refine till_take 5 (v := ?_) rfl (by kernel_rfl) (by kernel_rfl) (by kernel_rfl) (by kernel_rfl) (fun _ _ _ h => h) hHeld (Or.inl ⟨by rfl, ?_⟩) ?_
    rotate_left
    · (intro w hSw; (try dsimp only at hSw); go_simp; try with_reducible rfl)
    simp only [Act.put, List.setIfInBounds_toArray, List.set_cons_zero, List.set_cons_succ]
    refine till_take 6 (v := ?_) rfl (by kernel_rfl) (by kernel_rfl) (by kernel_rfl) (by kernel_rfl) (fun _ _ _ h => h) hHeld (Or.inl ⟨by rfl, ?_⟩) ?_
    rotate_left
    · (intro w hSw; (try dsimp only at hSw); go_simp; try with_reducible rfl)
    simp only [Act.put, List.setIfInBounds_toArray, List.set_cons_zero, List.set_cons_succ]
    refine till_take 7 (v := ?_) rfl (by kernel_rfl) (by kernel_rfl) (by kernel_rfl) (by kernel_rfl) (fun _ _ _ h => h) hHeld (Or.inl ⟨by rfl, ?_⟩) ?_
    rotate_left
    · (intro w hSw; (try dsimp only at hSw); go_simp; try with_reducible rfl)
    simp only [Act.put, List.setIfInBounds_toArray, List.set_cons_zero, List.set_cons_succ]
    refine till_ready2 8 9 rfl rfl (by kernel_rfl) (fun K hK => ?_) (fun K hK => ?_)
    · go_simp
      (go_at_call 140; with_reducible refine (HG.out _).mono ?_; rintro e y ⟨rfl, z0⟩)
      have z1 : Below w.heap.size w y := chainB BR.out z0
      refine hK.out _ _ (HY.out _ z1) (fun hHeld => ?_)
      clear hK K
      try simp only [Act.put, List.setIfInBounds_toArray, List.set_cons_zero, List.set_cons_succ]
      refine till_ready 9 rfl (by kernel_rfl) (fun K hK => ?_)
      go_simp
      refine hK.out _ _ (HY.out _ (alB z1 _)) (fun hHeld => ?_)
      clear hK K
      try simp only [Act.put, List.setIfInBounds_toArray, List.set_cons_zero, List.set_cons_succ]
      refine till_last rfl (by kernel_rfl) (by kernel_rfl) (fun K hK => ?_)
      go_simp
      refine hK.out _ _ ?_
      clear hK K
      have HE : Hid _ := HEa.out y z1
      clear z0 z1 hHeld
      go_wp2_with fail
      go_meet
      exact ⟨_, rfl, HE⟩
    · go_simp
      refine hK.out _ _ (HY.out _ (alB BR.out _)) (fun hHeld => ?_)
      clear hK K
      try simp only [Act.put, List.setIfInBounds_toArray, List.set_cons_zero, List.set_cons_succ]
      refine till_ready 8 rfl (by kernel_rfl) (fun K hK => ?_)
      go_simp
      (go_at_call 140; with_reducible refine (HG.out _).mono ?_; rintro e y ⟨rfl, z0⟩)
      obtain ⟨z1, kb⟩ := HEb.out y (by first | exact z0 | exact chainB ((Below.refl _ _).drew) z0)
      refine hK.out _ _ (HY.out _ z1) (fun hHeld => ?_)
      clear hK K
      try simp only [Act.put, List.setIfInBounds_toArray, List.set_cons_zero, List.set_cons_succ]
      obtain ⟨k0, k1, k2⟩ : y.cell? ⟨w.heap.size, 0, none⟩ = some (.int .i64 0) ∧ y.cell? ⟨w.heap.size, 1, none⟩ = some (.int .i64 0) ∧ y.cell? ⟨w.heap.size, 2, none⟩ = some (.int .i64 0) := ⟨kb.cell 0, kb.cell 1, kb.cell 2⟩
      have g0 := kb.fr 0
      have g1 := kb.fr 1
      have g2 := kb.fr 2
      refine till_last rfl (by kernel_rfl) (by kernel_rfl) (fun K hK => ?_)
      go_simp
      refine hK.out _ _ ?_
      clear hK K
      have HE : Hid _ := HEc.out y z1 kb
      clear z0 z1 hHeld k0 k1 k2 g0 g1 g2 kb
      go_wp2_with fail
      go_meet
      exact ⟨_, rfl, HE⟩
  case rest =>
  obtain ⟨N, rfl, hE⟩ := hcut
  obtain ⟨p0, p1, p2⟩ : wc.cell? ⟨P, 0, none⟩ = some (.string t) ∧ wc.cell? ⟨P, 1, none⟩ = some (.int .i64 a) ∧ wc.cell? ⟨P, 2, none⟩ = some (.bool bd) := ⟨(HP.out.below hE.out.2.1).cell 0, (HP.out.below hE.out.2.1).cell 1, (HP.out.below hE.out.2.1).cell 2⟩
  have f1 := (HP.out.below hE.out.2.1).fr 1
  have f2 := (HP.out.below hE.out.2.1).fr 2
  obtain ⟨k0, k1, k2⟩ : wc.cell? ⟨N, 0, none⟩ = some (.int .i64 n) ∧ wc.cell? ⟨N, 1, none⟩ = some (.int .i64 b) ∧ wc.cell? ⟨N, 2, none⟩ = some (.int .i64 c) := ⟨hE.out.1.cell 0, hE.out.1.cell 1, hE.out.1.cell 2⟩
  have hNP : ¬ N = P := hE.out.2.2
  have hPN : ¬ P = N := fun h => hNP h.symm
  have HF1 : Hid (∀ v, Bxs (wc.setCell ⟨P, 1, none⟩ v) P 151 #[.string t, v, .bool bd] ∧ w.grownBy (wc.setCell ⟨P, 1, none⟩ v) (some P)) := fun v => ⟨(HP.out.below hE.out.2.1).set 1 v, grown_set (grown_below hE.out.2.1) 1 v⟩
  have HF2 : Hid (∀ v, Bxs (wc.setCell ⟨P, 2, none⟩ v) P 151 #[.string t, .int .i64 a, v] ∧ w.grownBy (wc.setCell ⟨P, 2, none⟩ v) (some P)) := fun v => ⟨(HP.out.below hE.out.2.1).set 2 v, grown_set (grown_below hE.out.2.1) 2 v⟩
  clear hE HEa HEb HEc HG HY BR
  cases bd with
  | true =>
    go_wp2_with fail
    go_ret
    rw [HN.out, HA.out, HB.out, Bool.true_or, if_pos rfl, if_pos rfl]
    exact ⟨rfl, HF2.out _⟩
  | false =>
  by_cases hc : c = 0
  · have c0 : (c != 0) = false := by simpa using hc
    clear hc
    go_wp2_with fail
    go_ret
    rw [HN.out, HA.out, HB.out, c0, Bool.false_or, if_neg Bool.false_ne_true, if_neg Bool.false_ne_true]
    exact ⟨rfl, HF1.out _⟩
  · have c0 : (c != 0) = true := by simpa using hc
    go_wp2_with fail
    go_ret
    rw [HN.out, HA.out, HB.out, c0, Bool.false_or, if_pos rfl, if_pos rfl]
    exact ⟨rfl, HF2.out _⟩
end Go.Proofs.YtnjegmffjelnpaaGreatDoor
/-
  What the specification's TombRight, l08Text and TombText answer.
-/
namespace Go.Proofs.YtnjegmffjelnpaaGreatDoor
open Go.RowKit Go.Lib
set_option linter.unusedVariables false
set_option maxRecDepth 20000

theorem tmB_four (t : Tmb) : tmB t = (decide (0 ≤ t.r ∧ t.r ≤ 63) && (decide (0 ≤ t.f ∧ t.f ≤ 2) && (decide (1 ≤ t.y ∧ t.y ≤ 2) && timeB t.a))) := by
  unfold tmB timeB; simp [Bool.and_assoc]

set_option maxHeartbeats 2000000 in
theorem specTombRight_any (t : Tmb) (w : World) : Calls Tryz.prog 84 #[tmV t] w fun e w' => e = .returned (.bool (tmB t)) ∧ Below w.heap.size w w' := by
  rw [tmB_four]
  obtain ⟨r, f, y, a⟩ := t
  show Calls Tryz.prog 84 #[.agg #[.int .i64 r, .int .i64 f, .int .i64 y, .int .i64 a]] w _
  dsimp only
  obtain ⟨W1, hW1⟩ : ∃ W1, W1 = w.alloc (.cells #[.int .i64 r, .int .i64 f, .int .i64 y, .int .i64 a] 72) := ⟨_, rfl⟩
  have HW1 : Hid (W1 = w.alloc (.cells #[.int .i64 r, .int .i64 f, .int .i64 y, .int .i64 a] 72)) := hW1
  have B1 : Hid (Below w.heap.size w W1) := by rw [hW1]; exact (Below.refl _ _).alloc (Nat.le_refl _) _
  have K1 : Bxs W1 w.heap.size 72 #[.int .i64 r, .int .i64 f, .int .i64 y, .int .i64 a] := by rw [hW1]; exact Bxs.new _ _ _
  obtain ⟨x0, x1, x2, x3⟩ : W1.cell? ⟨w.heap.size, 0, none⟩ = some (.int .i64 r) ∧ W1.cell? ⟨w.heap.size, 1, none⟩ = some (.int .i64 f) ∧ W1.cell? ⟨w.heap.size, 2, none⟩ = some (.int .i64 y) ∧ W1.cell? ⟨w.heap.size, 3, none⟩ = some (.int .i64 a) := ⟨K1.cell 0, K1.cell 1, K1.cell 2, K1.cell 3⟩
  clear K1 hW1
  have Qr : Hid (∀ x, Calls Tryz.prog 80 #[.int .i64 r, .int .i64 0, .int .i64 63] x fun e w' => e = .returned (.bool (decide (0 ≤ r ∧ r ≤ 63))) ∧ w' = x) := fun x => l07Is_any r 0 63 x
  have Qf : Hid (∀ x, Calls Tryz.prog 80 #[.int .i64 f, .int .i64 0, .int .i64 2] x fun e w' => e = .returned (.bool (decide (0 ≤ f ∧ f ≤ 2))) ∧ w' = x) := fun x => l07Is_any f 0 2 x
  have Qy : Hid (∀ x, Calls Tryz.prog 80 #[.int .i64 y, .int .i64 1, .int .i64 2] x fun e w' => e = .returned (.bool (decide (1 ≤ y ∧ y ≤ 2))) ∧ w' = x) := fun x => l07Is_any y 1 2 x
  have Qa : Hid (∀ x, Calls Tryz.prog 53 #[.int .i64 a] x fun e w' => e = .returned (.bool (timeB a)) ∧ w' = x) := fun x => l07Time_any a x
  generalize decide (0 ≤ r ∧ r ≤ 63) = Dr at *
  generalize decide (0 ≤ f ∧ f ≤ 2) = Df at *
  generalize decide (1 ≤ y ∧ y ≤ 2) = Dy at *
  generalize timeB a = Da at *
  cases Dr with
  | false =>
    go_enter Tryz.func84, Tryz.ntmps84
    go_wp2_with fail
    rw [← HW1.out]
    refine (Qr.out _).mono ?_
    rintro e w1 ⟨rfl, rfl⟩
    go_wp2_with fail
    go_ret
    exact ⟨rfl, B1.out⟩
  | true =>
    cases Df with
    | false =>
      go_enter Tryz.func84, Tryz.ntmps84
      go_wp2_with fail
      rw [← HW1.out]
      refine (Qr.out _).mono ?_
      rintro e w1 ⟨rfl, rfl⟩
      go_wp2_with fail
      refine (Qf.out _).mono ?_
      rintro e w1 ⟨rfl, rfl⟩
      go_wp2_with fail
      go_ret
      exact ⟨rfl, B1.out⟩
    | true =>
      cases Dy with
      | false =>
        go_enter Tryz.func84, Tryz.ntmps84
        go_wp2_with fail
        rw [← HW1.out]
        refine (Qr.out _).mono ?_
        rintro e w1 ⟨rfl, rfl⟩
        go_wp2_with fail
        refine (Qf.out _).mono ?_
        rintro e w1 ⟨rfl, rfl⟩
        go_wp2_with fail
        refine (Qy.out _).mono ?_
        rintro e w1 ⟨rfl, rfl⟩
        go_wp2_with fail
        go_ret
        exact ⟨rfl, B1.out⟩
      | true =>
        cases Da with
        | false =>
          go_enter Tryz.func84, Tryz.ntmps84
          go_wp2_with fail
          rw [← HW1.out]
          refine (Qr.out _).mono ?_
          rintro e w1 ⟨rfl, rfl⟩
          go_wp2_with fail
          refine (Qf.out _).mono ?_
          rintro e w1 ⟨rfl, rfl⟩
          go_wp2_with fail
          refine (Qy.out _).mono ?_
          rintro e w1 ⟨rfl, rfl⟩
          go_wp2_with fail
          refine (Qa.out _).mono ?_
          rintro e w1 ⟨rfl, rfl⟩
          go_wp2_with fail
          go_ret
          exact ⟨rfl, B1.out⟩
        | true =>
          go_enter Tryz.func84, Tryz.ntmps84
          go_wp2_with fail
          rw [← HW1.out]
          refine (Qr.out _).mono ?_
          rintro e w1 ⟨rfl, rfl⟩
          go_wp2_with fail
          refine (Qf.out _).mono ?_
          rintro e w1 ⟨rfl, rfl⟩
          go_wp2_with fail
          refine (Qy.out _).mono ?_
          rintro e w1 ⟨rfl, rfl⟩
          go_wp2_with fail
          refine (Qa.out _).mono ?_
          rintro e w1 ⟨rfl, rfl⟩
          go_wp2_with fail
          go_ret
          exact ⟨rfl, B1.out⟩
set_option maxHeartbeats 2000000 in
theorem l08Text_any (t : Tmb) (w : World) (h : tmB t = true) : Calls Tryz.prog 85 #[tmV t] w fun e w' => e = .returned (.string (tmRaw t)) ∧ Below w.heap.size w w' := by
  obtain ⟨⟨a0, a1⟩, ⟨b0, b1⟩, ⟨c0, c1⟩, d0, d1⟩ := (tmB_iff t).1 h
  clear h
  obtain ⟨r, f, y, a⟩ := t
  show Calls Tryz.prog 85 #[.agg #[.int .i64 r, .int .i64 f, .int .i64 y, .int .i64 a]] w _
  dsimp only at a0 a1 b0 b1 c0 c1 d0 d1
  obtain ⟨W1, hW1⟩ : ∃ W1, W1 = w.alloc (.cells #[.int .i64 r, .int .i64 f, .int .i64 y, .int .i64 a] 72) := ⟨_, rfl⟩
  have HW1 : Hid (W1 = w.alloc (.cells #[.int .i64 r, .int .i64 f, .int .i64 y, .int .i64 a] 72)) := hW1
  have B1 : Hid (Below w.heap.size w W1) := by rw [hW1]; exact (Below.refl _ _).alloc (Nat.le_refl _) _
  have K1 : Bxs W1 w.heap.size 72 #[.int .i64 r, .int .i64 f, .int .i64 y, .int .i64 a] := by rw [hW1]; exact Bxs.new _ _ _
  have HX : Hid (∀ x, Below W1.heap.size W1 x → x.cell? ⟨w.heap.size, 0, none⟩ = some (.int .i64 r) ∧ x.cell? ⟨w.heap.size, 1, none⟩ = some (.int .i64 f) ∧ x.cell? ⟨w.heap.size, 2, none⟩ = some (.int .i64 y) ∧ x.cell? ⟨w.heap.size, 3, none⟩ = some (.int .i64 a)) := fun x hb => ⟨(K1.below hb).cell 0, (K1.below hb).cell 1, (K1.below hb).cell 2, (K1.below hb).cell 3⟩
  obtain ⟨x0, x1, x2, x3⟩ := HX.out W1 (Below.refl _ _)
  have Qr : Hid (∀ x, Calls Tryz.prog 59 #[.int .i64 r] x fun e w' => e = .returned (.string (putB r)) ∧ Below x.heap.size x w') := fun x => specPutNum_any r x (by omega) (by omega)
  have Qf : Hid (∀ x, Calls Tryz.prog 59 #[.int .i64 f] x fun e w' => e = .returned (.string (putB f)) ∧ Below x.heap.size x w') := fun x => specPutNum_any f x (by omega) (by omega)
  have Qy : Hid (∀ x, Calls Tryz.prog 59 #[.int .i64 y] x fun e w' => e = .returned (.string (putB y)) ∧ Below x.heap.size x w') := fun x => specPutNum_any y x (by omega) (by omega)
  have Qa : Hid (∀ x, Calls Tryz.prog 59 #[.int .i64 a] x fun e w' => e = .returned (.string (putB a)) ∧ Below x.heap.size x w') := fun x => specPutNum_any a x (by omega) (by omega)
  have HR : Hid (tmRaw ⟨r, f, y, a⟩ = ⟨#[116]⟩ ++ putB r ++ putB f ++ putB y ++ putB a) := rfl
  have zr := putB_size r
  have zf := putB_size f
  have zy := putB_size y
  have za := putB_size a
  have BR : Hid (Below W1.heap.size W1 W1.drew) := (Below.refl _ _).drew
  rw [HR.out]
  clear K1 hW1 HR a0 a1 b0 b1 c0 c1 d0 d1
  generalize putB r = R at *
  generalize putB f = F at *
  generalize putB y = Y at *
  generalize putB a = A at *
  have z1 : ((⟨#[116]⟩ : ByteArray) ++ R).size ≤ 11 := by rw [ByteArray.size_append]; show 1 + _ ≤ _; omega
  have z2 : ((⟨#[116]⟩ : ByteArray) ++ R ++ F).size ≤ 21 := by rw [ByteArray.size_append]; omega
  have z3 : ((⟨#[116]⟩ : ByteArray) ++ R ++ F ++ Y).size ≤ 31 := by rw [ByteArray.size_append]; omega
  have PT : Hid (∀ (n : Int) (N : ByteArray), (∀ x, Calls Tryz.prog 59 #[.int .i64 n] x fun e w' => e = .returned (.string N) ∧ Below x.heap.size x w') → ∀ x, Below W1.heap.size W1 x → Calls Tryz.prog 59 #[.int .i64 n] x fun e x1 => e = .returned (.string N) ∧ Below W1.heap.size W1 x1) := fun n N h x hb => (h x).mono (by rintro e x1 ⟨rfl, b⟩; exact ⟨rfl, chainB hb b⟩)
  have PR := PT.out r R Qr.out
  have PF := PT.out f F Qf.out
  have PY := PT.out y Y Qy.out
  have PA := PT.out a A Qa.out
  have Qr : Hid (∀ x, Below W1.heap.size W1 x → Calls Tryz.prog 59 #[.int .i64 r] x fun e x1 => e = .returned (.string R) ∧ Below W1.heap.size W1 x1) := PR
  have Qf : Hid (∀ x, Below W1.heap.size W1 x → Calls Tryz.prog 59 #[.int .i64 f] x fun e x1 => e = .returned (.string F) ∧ Below W1.heap.size W1 x1) := PF
  have Qy : Hid (∀ x, Below W1.heap.size W1 x → Calls Tryz.prog 59 #[.int .i64 y] x fun e x1 => e = .returned (.string Y) ∧ Below W1.heap.size W1 x1) := PY
  have Qa : Hid (∀ x, Below W1.heap.size W1 x → Calls Tryz.prog 59 #[.int .i64 a] x fun e x1 => e = .returned (.string A) ∧ Below W1.heap.size W1 x1) := PA
  have HR : Hid (Below W1.heap.size W1 W1) := Below.refl _ _
  have z0 : (⟨#[116]⟩ : ByteArray).size = 1 := rfl
  have u1 : ∀ w, (Op.stringOp .add (⟨#[116]⟩ : ByteArray) R).run Tryz.prog w = .ok (.string ((⟨#[116]⟩ : ByteArray) ++ R)) w := fun w => run_string_add w _ _ (by omega) (by omega)
  have u2 : ∀ w, (Op.stringOp .add ((⟨#[116]⟩ : ByteArray) ++ R) F).run Tryz.prog w = .ok (.string ((⟨#[116]⟩ : ByteArray) ++ R ++ F)) w := fun w => run_string_add w _ _ (by omega) (by omega)
  have u3 : ∀ w, (Op.stringOp .add ((⟨#[116]⟩ : ByteArray) ++ R ++ F) Y).run Tryz.prog w = .ok (.string ((⟨#[116]⟩ : ByteArray) ++ R ++ F ++ Y)) w := fun w => run_string_add w _ _ (by omega) (by omega)
  have u4 : ∀ w, (Op.stringOp .add ((⟨#[116]⟩ : ByteArray) ++ R ++ F ++ Y) A).run Tryz.prog w = .ok (.string ((⟨#[116]⟩ : ByteArray) ++ R ++ F ++ Y ++ A)) w := fun w => run_string_add w _ _ (by omega) (by omega)
  clear PR PF PY PA PT z0 z1 z2 z3 zr zf zy za
  go_enter Tryz.func85, Tryz.ntmps85
  go_upto_region 1 with fail
  rw [← HW1.out]
  first
    | (go_region_held3 (fun w' => w'.cell? ⟨w.heap.size, 0, none⟩ = some (.int .i64 r) ∧ w'.cell? ⟨w.heap.size, 1, none⟩ = some (.int .i64 f) ∧ w'.cell? ⟨w.heap.size, 2, none⟩ = some (.int .i64 y) ∧ w'.cell? ⟨w.heap.size, 3, none⟩ = some (.int .i64 a)) ((refine HX.out _ ?hT; (case hT => (with_reducible repeat (first | assumption | exact HR.out | refine Below.drew ?_ | refine alB ?_ _))))) (first
      | (go_at_call 59; with_reducible refine (Qr.out _ ?hB).mono ?_; (case hB => first | exact HR.out | exact HR.out.drew); rintro e x1 ⟨rfl, y1⟩)
      | (go_at_call 59; with_reducible refine (Qf.out _ ?hB).mono ?_; (case hB => first | exact y1 | exact y1.drew); rintro e x2 ⟨rfl, y2⟩)
      | (go_at_call 59; with_reducible refine (Qy.out _ ?hB).mono ?_; (case hB => first | exact y2 | exact y2.drew); rintro e x3 ⟨rfl, y3⟩)
      | (go_at_call 59; with_reducible refine (Qa.out _ ?hB).mono ?_; (case hB => first | exact y3 | exact y3.drew); rintro e x4 ⟨rfl, y4⟩)))
    | fail
  all_goals
    have y6 := chainB B1.out y4
    go_wp2_with fail
    go_ret
    exact ⟨rfl, y6⟩
set_option maxHeartbeats 1000000 in
theorem specTombText_any (t : Tmb) (w : World) : Calls Tryz.prog 38 #[tmV t] w fun e w' => e = .returned (.string (tmT t)) ∧ Below w.heap.size w w' := by
  have hr := fun x => specTombRight_any t x
  cases h : tmB t with
  | true =>
    have hl := fun x => l08Text_any t x h
    have HT : Hid (tmT t = tmRaw t) := if_pos h
    rw [HT.out]
    rw [h] at hr
    have HR : Hid (∀ x, Calls Tryz.prog 84 #[.agg #[.int .i64 t.r, .int .i64 t.f, .int .i64 t.y, .int .i64 t.a]] x fun e w' => e = .returned (.bool true) ∧ Below x.heap.size x w') := hr
    have HL : Hid (∀ x, Calls Tryz.prog 85 #[.agg #[.int .i64 t.r, .int .i64 t.f, .int .i64 t.y, .int .i64 t.a]] x fun e w' => e = .returned (.string (tmRaw t)) ∧ Below x.heap.size x w') := hl
    obtain ⟨W1, hW1⟩ : ∃ W1, W1 = w.alloc (.cells #[.int .i64 t.r, .int .i64 t.f, .int .i64 t.y, .int .i64 t.a] 72) := ⟨_, rfl⟩
    have HW1 : Hid (W1 = w.alloc (.cells #[.int .i64 t.r, .int .i64 t.f, .int .i64 t.y, .int .i64 t.a] 72)) := hW1
    have B1 : Hid (Below w.heap.size w W1) := by rw [hW1]; exact (Below.refl _ _).alloc (Nat.le_refl _) _
    have K1 : Hid (Bxs W1 w.heap.size 72 #[.int .i64 t.r, .int .i64 t.f, .int .i64 t.y, .int .i64 t.a]) := by rw [hW1]; exact Bxs.new _ _ _
    clear hr hl h HT hW1
    generalize tmRaw t = O at *
    show Calls Tryz.prog 38 #[.agg #[.int .i64 t.r, .int .i64 t.f, .int .i64 t.y, .int .i64 t.a]] w _
    obtain ⟨r, f, y, a⟩ := t
    dsimp only at *
    go_enter Tryz.func38, Tryz.ntmps38
    go_wp2_with fail
    rw [← HW1.out]
    refine (HR.out W1).mono ?_
    rintro e w1 ⟨rfl, b1⟩
    have k := K1.out.below b1
    obtain ⟨x0, x1, x2, x3⟩ : w1.cell? ⟨w.heap.size, 0, none⟩ = some (.int .i64 r) ∧ w1.cell? ⟨w.heap.size, 1, none⟩ = some (.int .i64 f) ∧ w1.cell? ⟨w.heap.size, 2, none⟩ = some (.int .i64 y) ∧ w1.cell? ⟨w.heap.size, 3, none⟩ = some (.int .i64 a) := ⟨k.cell 0, k.cell 1, k.cell 2, k.cell 3⟩
    have c1 : Hid (Below w.heap.size w w1) := chainB B1.out b1
    clear k b1
    go_wp2_with fail
    refine (HL.out w1).mono ?_
    rintro e w2 ⟨rfl, b2⟩
    go_wp2_with fail
    go_ret
    exact ⟨rfl, chainB c1.out b2⟩
  | false =>
    have HT : Hid (tmT t = ByteArray.empty) := if_neg (by rw [h]; exact Bool.false_ne_true)
    rw [HT.out]
    rw [h] at hr
    have HR : Hid (∀ x, Calls Tryz.prog 84 #[.agg #[.int .i64 t.r, .int .i64 t.f, .int .i64 t.y, .int .i64 t.a]] x fun e w' => e = .returned (.bool false) ∧ Below x.heap.size x w') := hr
    obtain ⟨W1, hW1⟩ : ∃ W1, W1 = w.alloc (.cells #[.int .i64 t.r, .int .i64 t.f, .int .i64 t.y, .int .i64 t.a] 72) := ⟨_, rfl⟩
    have HW1 : Hid (W1 = w.alloc (.cells #[.int .i64 t.r, .int .i64 t.f, .int .i64 t.y, .int .i64 t.a] 72)) := hW1
    have B1 : Hid (Below w.heap.size w W1) := by rw [hW1]; exact (Below.refl _ _).alloc (Nat.le_refl _) _
    clear hr h HT hW1
    show Calls Tryz.prog 38 #[.agg #[.int .i64 t.r, .int .i64 t.f, .int .i64 t.y, .int .i64 t.a]] w _
    obtain ⟨r, f, y, a⟩ := t
    dsimp only at *
    go_enter Tryz.func38, Tryz.ntmps38
    go_wp2_with fail
    rw [← HW1.out]
    refine (HR.out W1).mono ?_
    rintro e w1 ⟨rfl, b1⟩
    have c1 : Hid (Below w.heap.size w w1) := chainB B1.out b1
    clear b1
    go_wp2_with fail
    go_ret
    exact ⟨rfl, c1.out⟩
end Go.Proofs.YtnjegmffjelnpaaGreatDoor
