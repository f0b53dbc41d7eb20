/-
  Parts of one proof, laid as one text: FldOM, FldO, FldF; what each says stands at its head.
-/
import Derived.Test.YthfecjjahoflcaaGreatDoorRows
import Derived.Test.YthfecjjahoflcaaGreatDoorBytesDigMathTreeMath
import Derived.Test.YthfecjjahoflcaaGreatDoorSlASlBBxKOwnSTakesLTillTwo
import Derived.Test.YthfecjjahoflcaaGreatDoorNameRight
import Derived.Test.YthfecjjahoflcaaGreatDoorJoinedPutTextFldMathFldGShwK
import Derived.Test.YthfecjjahoflcaaGreatDoorOneKFldBlkFldRiseScanMathGetValGetTxtNumMathFldRdNumFromTmbMath
import Derived.Handy
import Derived.OwnWalk
import Derived.Test.YthfecjjahoflcaaGreatDoorLaMathLfMathLfSumStepAppOwnBTurn2
import Derived.Test.YthfecjjahoflcaaGreatDoorAll2FldIsFldC
import Derived.Test.YthfecjjahoflcaaGreatDoorFldR
import Derived.WalkSpells
import Derived.Deep.AppendLies
import Derived.Deep.RegionHeld3
import Derived.Deep.Cut
/-
  What RowOf answers, as plain functions; the boxes of a row that is put together.
-/
namespace Go.Proofs.YthfecjjahoflcaaGreatDoor
open Go.RowKit Go.Lib
set_option linter.unusedVariables false
set_option maxRecDepth 20000

/-! ### What RowOf answers -/
def rfAt (ns ss vs : List ByteArray) (i : Nat) : Fld := ⟨ns.getD i ByteArray.empty, cmB (ns.getD i ByteArray.empty) (ss.getD i ByteArray.empty) (vs.getD i ByteArray.empty), ss.getD i ByteArray.empty, vs.getD i ByteArray.empty, false⟩
def rfTo (ns ss vs : List ByteArray) (k : Nat) : List Fld := (List.range k).map (rfAt ns ss vs)
theorem rfTo_len (ns ss vs : List ByteArray) (k : Nat) : (rfTo ns ss vs k).length = k := by simp [rfTo]
theorem rfTo_succ (ns ss vs : List ByteArray) (k : Nat) : rfTo ns ss vs (k + 1) = rfTo ns ss vs k ++ [rfAt ns ss vs k] := by simp [rfTo, List.range_succ]
def roBig (k : ByteArray) (ns ss vs : List ByteArray) : Prop := 8000 < k.size ∨ 400 < ns.length ∨ 400 < ss.length ∨ 400 < vs.length
def roOdd (ns ss vs : List ByteArray) : Prop := ss.length ≠ ns.length ∨ vs.length ≠ ns.length ∨ 3 < ns.length
instance (k : ByteArray) (ns ss vs : List ByteArray) : Decidable (roBig k ns ss vs) := by unfold roBig; infer_instance
instance (ns ss vs : List ByteArray) : Decidable (roOdd ns ss vs) := by unfold roOdd; infer_instance
def roC (k : ByteArray) (at_ : Int) (ns ss vs : List ByteArray) : Int := if roBig k ns ss vs then 2 else if roOdd ns ss vs then 1 else if rwB k at_ (rfTo ns ss vs ns.length) = true then 0 else 1
def roK (k : ByteArray) (at_ : Int) (ns ss vs : List ByteArray) : ByteArray := if roC k at_ ns ss vs = 0 then k else ByteArray.empty
def roA (k : ByteArray) (at_ : Int) (ns ss vs : List ByteArray) : Int := if roC k at_ ns ss vs = 0 then at_ else 0
def roF (k : ByteArray) (at_ : Int) (ns ss vs : List ByteArray) : List Fld := if roC k at_ ns ss vs = 0 then rfTo ns ss vs ns.length else []
/-- A result's box, a row's box, the row of fields that the call owns. -/
structure RoS (w : World) (k : ByteArray) (at_ : Int) (v : Value) (l : List Fld) (x : World) : Prop where
  bel : Below w.heap.size w x
  res : Bxs x w.heap.size 79 #[.string ByteArray.empty, .int .i64 0, .slice none 0 0, .int .i64 0]
  box : Bxs x (w.heap.size + 1) 40 #[.string k, .int .i64 at_, v]
  own : x.ownsRow w.heap.size 87 5 v l.length (fldRow l)
theorem ownF_ne {w : World} {base g : Nat} {e T : TypeId} {s : Nat} {v : Value} {n : Nat} {xs : List Value} {cs : Array Value} (h : w.ownsRow base e s v n xs) (hb : Bxs w g T cs) (hne : T ≠ e) : v.ownBlock ≠ some g := by
  intro he
  rcases h.2 with ⟨rfl, _⟩ | ⟨g', cap, cur, rfl, _, hg', _⟩
  · cases he
  · have : g' = g := by simpa [Value.ownBlock] using he
    subst this
    unfold Bxs at hb
    rw [hb] at hg'
    injection hg' with h1
    injection h1 with h2 h3
    exact hne h3
theorem RoS.below {w : World} {k : ByteArray} {at_ : Int} {v : Value} {l : List Fld} {x y : World} (h : RoS w k at_ v l x) (hb : Below x.heap.size x y) : RoS w k at_ v l y := ⟨chainB h.bel hb, h.res.below hb, h.box.below hb, ownS_below h.own hb⟩
theorem RoS.append {w : World} {k : ByteArray} {at_ : Int} {v v2 : Value} {l l2 : List Fld} {x x6 : World} (h : RoS w k at_ v l x) (o : Obj) (hg : (x.alloc o).grownBy x6 v.ownBlock) (ho : x6.ownsRow w.heap.size 87 5 v2 l2.length (fldRow l2)) :
    RoS w k at_ v2 l2 (x6.setCell ⟨w.heap.size + 1, 2, none⟩ v2) ∧ x6.cell? ⟨w.heap.size + 1, 2, none⟩ = some v ∧ x6.frozen? ⟨w.heap.size + 1, 2, none⟩ = false ∧ Below w.heap.size w x6 := by
  have n1 := ownF_ne h.own h.box (by decide)
  have n2 := ownF_ne h.own h.res (by decide)
  have hb : Bxs x6 (w.heap.size + 1) 40 #[.string k, .int .i64 at_, v] := (h.box.alloc o).grown hg (Ne.symm n1)
  have hr : Bxs x6 w.heap.size 79 #[.string ByteArray.empty, .int .i64 0, .slice none 0 0, .int .i64 0] := (h.res.alloc o).grown hg (Ne.symm n2)
  have hB : Below w.heap.size w x6 := (h.bel.alloc h.bel.size o).grown hg (by have := h.bel.size; simp; omega) (fun j hj => by
    rcases h.own.2 with ⟨rfl, _⟩ | ⟨g', cap, cur, rfl, hge, _⟩
    · cases hj
    · simp [Value.ownBlock] at hj; omega)
  refine ⟨⟨hB.setCell (by show _ ≤ w.heap.size + 1; omega) _, hr.other _ _ (by omega) _, ?_, ownsRow_setCell_other ho (by have := ownF_ne ho hb (by decide); simpa using this) _⟩, hb.cell 2, hb.fr 2, hB⟩
  exact hb.set 2 v2
theorem RoS.done {w : World} {k : ByteArray} {at_ : Int} {v : Value} {l : List Fld} {x : World} (h : RoS w k at_ v l x) (x0 x1 x2 x3 : Value) : ((((x.setCell ⟨w.heap.size, 0, none⟩ x0).setCell ⟨w.heap.size, 1, none⟩ x1).setCell ⟨w.heap.size, 2, none⟩ x2).setCell ⟨w.heap.size, 3, none⟩ x3).ownsRow w.heap.size 87 5 v l.length (fldRow l) ∧ Below w.heap.size w ((((x.setCell ⟨w.heap.size, 0, none⟩ x0).setCell ⟨w.heap.size, 1, none⟩ x1).setCell ⟨w.heap.size, 2, none⟩ x2).setCell ⟨w.heap.size, 3, none⟩ x3) := by
  have n2 : v.ownBlock ≠ some w.heap.size := ownF_ne h.own h.res (by decide)
  exact ⟨ownsRow_setCell_other (ownsRow_setCell_other (ownsRow_setCell_other (ownsRow_setCell_other h.own n2 _) n2 _) n2 _) n2 _, below_set4 h.bel (Nat.le_refl _) _ _ _ _⟩
theorem rfTo_le {ns ss vs : List ByteArray} (z1 : ∀ x ∈ ns, x.size ≤ maxLen) (z2 : ∀ x ∈ ss, x.size ≤ maxLen) (z3 : ∀ x ∈ vs, x.size ≤ maxLen) (k : Nat) : FldsLe (rfTo ns ss vs k) := by
  have hg : ∀ (l : List ByteArray) (j : Nat), (∀ x ∈ l, x.size ≤ maxLen) → (l.getD j ByteArray.empty).size ≤ maxLen := fun l j h => by
    by_cases hj : j < l.length
    · rw [List.getD_eq_getElem?_getD, List.getElem?_eq_getElem hj]; exact h _ (List.getElem_mem hj)
    · rw [List.getD_eq_getElem?_getD, List.getElem?_eq_none (by omega)]; exact Nat.zero_le _
  intro f hf
  obtain ⟨j, -, rfl⟩ := List.mem_map.1 hf
  exact ⟨hg ns j z1, Nat.le_trans (cmB_size _ _ _) (by unfold maxLen; omega), hg ss j z2, hg vs j z3⟩
theorem getD_at {l : List ByteArray} {i : Nat} (h : i < l.length) : l.getD i ByteArray.empty = l[i] := by rw [List.getD_eq_getElem?_getD, List.getElem?_eq_getElem h]; rfl
end Go.Proofs.YthfecjjahoflcaaGreatDoor
/-
  What the specification's l07Ill and RowOf answer.
  Conditions: the cells hold the names, the salts and the values.
-/
namespace Go.Proofs.YthfecjjahoflcaaGreatDoor
open Go.RowKit Go.Lib
set_option linter.unusedVariables false
set_option maxRecDepth 20000

theorem l07Ill_any (c : Int) (w : World) : Calls Tryz.prog 95 #[.int .i64 c] w fun e w' => e = .returned (.agg #[.string ByteArray.empty, .int .i64 0, .slice none 0 0, .int .i64 c]) ∧ Below w.heap.size w w' := by
  have B1 : Below w.heap.size w (w.alloc (.cells #[.string ByteArray.empty, .int .i64 0, .slice none 0 0, .int .i64 c] 79)) := (Below.refl _ _).alloc (Nat.le_refl _) _
  go_enter Tryz.func95, Tryz.ntmps95
  go_wp2_with fail
  refine bodyPost_ret (v := .agg #[.string ByteArray.empty, .int .i64 0, .slice none 0 0, .int .i64 c]) (by simp [results, Tryz.results95, go_sem]; rfl) rfl ?_
  exact ⟨rfl, B1⟩
end Go.Proofs.YthfecjjahoflcaaGreatDoor
/-
  What the specification's l07Copy and Forget answer.
  Conditions: the cells of Fields hold the fields.
-/
namespace Go.Proofs.YthfecjjahoflcaaGreatDoor
open Go.RowKit Go.Lib
set_option linter.unusedVariables false
set_option maxRecDepth 20000

theorem copy_flds (w : World) (g : Nat) (hg : w.heap[g]? = some (.cells #[] 87 (0, 0))) (p : Option Addr) (cap : Nat) (fs : List Fld) (hp : FldAt w p fs) (h0 : 0 < fs.length) (hn : fs.length ≤ 1000) :
    ∃ b c w', (Builtin.append_ #[38, 38] 38 #[.slice (some ⟨g, 0, none⟩) 0 0, .slice p fs.length cap]).run Tryz.prog w = .ok (.slice (some ⟨b, 0, none⟩) fs.length c) w' ∧ w'.ownsRow w.heap.size 87 5 (.slice (some ⟨b, 0, none⟩) fs.length c) fs.length (fldRow fs) ∧ Below w.heap.size w w' ∧ fs.length ≤ c := by
  obtain ⟨i0, hi, hz0, hz1, hz2⟩ := info_parts infoFld
  obtain ⟨b, off, rfl, hb, _⟩ := hp 0 h0
  obtain ⟨v', w', h1, h2, h3⟩ := run_append_arg_grows (P := Tryz.prog) w 38 38 87 i0 _ 5 72 Tryz.underlying38 hi hz0 hz1 hz2 rfl (by omega) ⟨g, 0, none⟩ 0 0 [] rfl (fun j u hu => by simp at hu) ⟨b, off, none⟩ fs.length cap (fldRow fs) (fldRow_len fs) (fun j u hu => by
    have hj : j < fs.length * 5 := by
      rcases Nat.lt_or_ge j (fs.length * 5) with q | q
      · exact q
      · rw [List.getElem?_eq_none (by rw [fldRow_len]; exact q)] at hu; cases hu
    have hadd : (⟨b, off, none⟩ : Addr).add j = ⟨b, off + j, none⟩ := by unfold Addr.add; split <;> simp_all
    have hc := hp.at (j / 5) (by omega)
    have hr := fldRow_at fs (j / 5) (by omega)
    rw [hadd]
    obtain ⟨c0, c1, c2, c3, c4⟩ := hc
    obtain ⟨r0, r1, r2, r3, r4⟩ := hr
    rw [Nat.add_assoc] at c1 c2 c3 c4
    have hm : j % 5 < 5 := Nat.mod_lt _ (by omega)
    have hd : j = j / 5 * 5 + j % 5 := by omega
    match hq : j % 5, hm with
    | 0, _ => rw [hq, Nat.add_zero] at hd; rw [← hd] at c0 r0; rw [c0, ← hu, r0]
    | 1, _ => rw [hq] at hd; rw [← hd] at c1 r1; rw [c1, ← hu, r1]
    | 2, _ => rw [hq] at hd; rw [← hd] at c2 r2; rw [c2, ← hu, r2]
    | 3, _ => rw [hq] at hd; rw [← hd] at c3 r3; rw [c3, ← hu, r3]
    | 4, _ => rw [hq] at hd; rw [← hd] at c4 r4; rw [c4, ← hu, r4]) (by omega) (by unfold maxLen; omega) (by omega)
  rw [Nat.zero_add, List.nil_append] at h2
  have h2' := h2
  rcases h2'.2 with ⟨hv, hn0⟩ | ⟨b', c', cur, rfl, hb1, hb2, hb3, -⟩
  · omega
  · exact ⟨_, _, w', h1, h2, below_none h3, hb3⟩
set_option maxHeartbeats 1000000 in
theorem l07Copy_any (k : ByteArray) (at_ : Int) (q : Option Addr) (c : Nat) (fs : List Fld) (w : World) (hf : FldAt w q fs) (h0 : 0 < fs.length) (hn : fs.length ≤ 1000) :
    Calls Tryz.prog 28 #[.agg #[.string k, .int .i64 at_, .slice q fs.length c]] w fun e w' => ∃ b cc, e = .returned (.agg #[.string k, .int .i64 at_, .slice (some ⟨b, 0, none⟩) fs.length cc]) ∧ w'.ownsRow w.heap.size 87 5 (.slice (some ⟨b, 0, none⟩) fs.length cc) fs.length (fldRow fs) ∧ Below w.heap.size w w' := by
  obtain ⟨W2, hW2⟩ : ∃ W2, W2 = (w.alloc (.cells #[.string k, .int .i64 at_, .slice q fs.length c] 40)).alloc (.cells #[.string ⟨#[]⟩, .int .i64 0, .slice none 0 0] 40) := ⟨_, rfl⟩
  have HW2 : Hid (W2 = (w.alloc (.cells #[.string k, .int .i64 at_, .slice q fs.length c] 40)).alloc (.cells #[.string ⟨#[]⟩, .int .i64 0, .slice none 0 0] 40)) := hW2
  have hs1 : (w.alloc (.cells #[.string k, .int .i64 at_, .slice q fs.length c] 40)).heap.size = w.heap.size + 1 := by simp
  have hs2 : W2.heap.size = w.heap.size + 2 := by rw [hW2]; simp
  have K0 : Bxs W2 w.heap.size 40 #[.string k, .int .i64 at_, .slice q fs.length c] := by rw [hW2]; exact (Bxs.new _ _ _).alloc _
  have K1 : Bxs W2 (w.heap.size + 1) 40 #[.string ByteArray.empty, .int .i64 0, .slice none 0 0] := by rw [hW2, ← hs1]; exact Bxs.new _ _ _
  have B2 : Below w.heap.size w W2 := by rw [hW2]; exact ((Below.refl _ _).alloc (Nat.le_refl _) _).alloc (by rw [hs1]; omega) _
  have B3 : Below W2.heap.size W2 (W2.alloc (.cells #[] 87)) := (Below.refl _ _).alloc (Nat.le_refl _) _
  obtain ⟨b, cc, y, hrun, hown, hbel, hcc⟩ := copy_flds (W2.alloc (.cells #[] 87)) W2.heap.size (MapKept.heap_alloc W2 _).1 q c fs (hf.below (chainB B2 B3)) h0 hn
  have Ky0 := K0.below (chainB B3 hbel)
  have Ky1 := K1.below (chainB B3 hbel)
  have HE : Hid (∀ x0 x1 x2 x3 : Value, ((((y.setCell ⟨w.heap.size, 2, none⟩ x3).setCell ⟨w.heap.size + 1, 0, none⟩ x0).setCell ⟨w.heap.size + 1, 1, none⟩ x1).setCell ⟨w.heap.size + 1, 2, none⟩ x2).ownsRow w.heap.size 87 5 (.slice (some ⟨b, 0, none⟩) fs.length cc) fs.length (fldRow fs) ∧ Below w.heap.size w ((((y.setCell ⟨w.heap.size, 2, none⟩ x3).setCell ⟨w.heap.size + 1, 0, none⟩ x0).setCell ⟨w.heap.size + 1, 1, none⟩ x1).setCell ⟨w.heap.size + 1, 2, none⟩ x2)) := by
    intro x0 x1 x2 x3
    have n0 := ownF_ne hown Ky0 (by decide)
    have n1 := ownF_ne hown Ky1 (by decide)
    refine ⟨ownS_mono (ownsRow_setCell_other (ownsRow_setCell_other (ownsRow_setCell_other (ownsRow_setCell_other hown n0 _) n1 _) n1 _) n1 _) (by rw [szA]; omega), below_set3 ((chainB B2 (chainB B3 hbel)).setCell (Nat.le_refl _) _) (by omega) _ _ _⟩
  have u2 : (W2.alloc (.cells #[] 87)).cell? ⟨w.heap.size, 2, none⟩ = some (.slice q fs.length c) := (K0.alloc _).cell 2
  obtain ⟨x0, x1, x2⟩ : y.cell? ⟨w.heap.size, 0, none⟩ = some (.string k) ∧ y.cell? ⟨w.heap.size, 1, none⟩ = some (.int .i64 at_) ∧ y.cell? ⟨w.heap.size, 2, none⟩ = some (.slice q fs.length c) := ⟨Ky0.cell 0, Ky0.cell 1, Ky0.cell 2⟩
  obtain ⟨y0, y1, y2⟩ : y.cell? ⟨w.heap.size + 1, 0, none⟩ = some (.string ByteArray.empty) ∧ y.cell? ⟨w.heap.size + 1, 1, none⟩ = some (.int .i64 0) ∧ y.cell? ⟨w.heap.size + 1, 2, none⟩ = some (.slice none 0 0) := ⟨Ky1.cell 0, Ky1.cell 1, Ky1.cell 2⟩
  have f2 := Ky0.fr 2
  have g0 := Ky1.fr 0
  have g1 := Ky1.fr 1
  have g2 := Ky1.fr 2
  clear hown hbel B2 B3 K0 K1 Ky0 Ky1 hf hW2 hs1 hs2
  go_enter Tryz.func28, Tryz.ntmps28
  go_upto_region 1 with fail
  rw [← HW2.out]
  go_wp2_with (at_builtin; refine wpList_append_run rfl _ _ _ rfl _ _ _ _ rfl rfl hrun ?_)
  refine bodyPost_ret (v := .agg #[.string k, .int .i64 at_, .slice (some ⟨b, 0, none⟩) fs.length cc]) (by simp [results, Tryz.results28, go_sem, y0, y1, y2]) rfl ?_
  exact ⟨_, _, rfl, HE.out _ _ _ _⟩
set_option maxHeartbeats 4000000 in
theorem specForget_any (k : ByteArray) (at_ : Int) (q : Option Addr) (c : Nat) (fs : List Fld) (ix : Int) (w : World) (hf : FldAt w q fs) (hn : fs.length ≤ 1048576) (hc : fs.length ≤ c) (hk : k.size ≤ maxLen) (hz : FldsLe fs) :
    Calls Tryz.prog 75 #[.agg #[.string k, .int .i64 at_, .slice q fs.length c], .int .i64 ix] w fun e w' => ∃ v, e = .returned (.agg #[.string (fgK k at_ fs ix), .int .i64 (fgA k at_ fs ix), v, .int .i64 (fgC k at_ fs ix)]) ∧ w'.ownsRow w.heap.size 87 5 v (fgF k at_ fs ix).length (fldRow (fgF k at_ fs ix)) ∧ Below w.heap.size w w' := by
  obtain ⟨W2, hW2⟩ : ∃ W2, W2 = (w.alloc (.cells #[.string k, .int .i64 at_, .slice q fs.length c] 40)).alloc (.cells #[.string ⟨#[]⟩, .int .i64 0, .slice none 0 0, .int .i64 0] 79) := ⟨_, rfl⟩
  have HW2 : Hid (W2 = (w.alloc (.cells #[.string k, .int .i64 at_, .slice q fs.length c] 40)).alloc (.cells #[.string ⟨#[]⟩, .int .i64 0, .slice none 0 0, .int .i64 0] 79)) := hW2
  have hs1 : (w.alloc (.cells #[.string k, .int .i64 at_, .slice q fs.length c] 40)).heap.size = w.heap.size + 1 := by simp
  have HS2 : Hid (W2.heap.size = w.heap.size + 2) := by rw [hW2]; show _ = _; simp
  have K0 : Hid (Bxs W2 w.heap.size 40 #[.string k, .int .i64 at_, .slice q fs.length c]) := by rw [hW2]; exact (Bxs.new _ _ _).alloc _
  have K1 : Hid (Bxs W2 (w.heap.size + 1) 79 #[.string ByteArray.empty, .int .i64 0, .slice none 0 0, .int .i64 0]) := by rw [hW2, ← hs1]; exact Bxs.new _ _ _
  have B2 : Hid (Below w.heap.size w W2) := by rw [hW2]; exact ((Below.refl _ _).alloc (Nat.le_refl _) _).alloc (by rw [hs1]; omega) _
  have HT : Hid (FldAt W2 q fs) := hf.below B2.out
  have HX : Hid (∀ x, Below W2.heap.size W2 x → x.cell? ⟨w.heap.size, 0, none⟩ = some (.string k) ∧ x.cell? ⟨w.heap.size, 1, none⟩ = some (.int .i64 at_) ∧ x.cell? ⟨w.heap.size, 2, none⟩ = some (.slice q fs.length c)) := fun x hb => ⟨(K0.out.below hb).cell 0, (K0.out.below hb).cell 1, (K0.out.below hb).cell 2⟩
  have HR : Hid (∀ x, Bxs x (w.heap.size + 1) 79 #[.string ByteArray.empty, .int .i64 0, .slice none 0 0, .int .i64 0] → x.cell? ⟨w.heap.size + 1, 0, none⟩ = some (.string ByteArray.empty) ∧ x.cell? ⟨w.heap.size + 1, 1, none⟩ = some (.int .i64 0) ∧ x.cell? ⟨w.heap.size + 1, 2, none⟩ = some (.slice none 0 0) ∧ x.cell? ⟨w.heap.size + 1, 3, none⟩ = some (.int .i64 0) ∧ x.frozen? ⟨w.heap.size + 1, 0, none⟩ = false ∧ x.frozen? ⟨w.heap.size + 1, 1, none⟩ = false ∧ x.frozen? ⟨w.heap.size + 1, 2, none⟩ = false ∧ x.frozen? ⟨w.heap.size + 1, 3, none⟩ = false) := fun x hb => ⟨hb.cell 0, hb.cell 1, hb.cell 2, hb.cell 3, hb.fr 0, hb.fr 1, hb.fr 2, hb.fr 3⟩
  have HEr : Hid (∀ (y : World) (c : Int) (x0 x1 x2 x3 : Value), Below W2.heap.size W2 y → fgC k at_ fs ix = c → c ≠ 0 → ∃ v, Ending.returned (.agg #[.string ByteArray.empty, .int .i64 0, .slice none 0 0, .int .i64 c]) = .returned (.agg #[.string (fgK k at_ fs ix), .int .i64 (fgA k at_ fs ix), v, .int .i64 (fgC k at_ fs ix)]) ∧ ((((y.setCell ⟨w.heap.size + 1, 0, none⟩ x0).setCell ⟨w.heap.size + 1, 1, none⟩ x1).setCell ⟨w.heap.size + 1, 2, none⟩ x2).setCell ⟨w.heap.size + 1, 3, none⟩ x3).ownsRow w.heap.size 87 5 v (fgF k at_ fs ix).length (fldRow (fgF k at_ fs ix)) ∧ Below w.heap.size w ((((y.setCell ⟨w.heap.size + 1, 0, none⟩ x0).setCell ⟨w.heap.size + 1, 1, none⟩ x1).setCell ⟨w.heap.size + 1, 2, none⟩ x2).setCell ⟨w.heap.size + 1, 3, none⟩ x3)) := by
    intro y c x0 x1 x2 x3 hb hc hn
    have hn' : ¬ fgC k at_ fs ix = 0 := by rw [hc]; exact hn
    rw [show fgK k at_ fs ix = ByteArray.empty from if_neg hn', show fgA k at_ fs ix = 0 from if_neg hn', show fgF k at_ fs ix = [] from if_neg hn', hc]
    exact ⟨_, rfl, World.ownsRow_nil _ _ _ _, below_set4 (chainB B2.out hb) (by omega) _ _ _ _⟩
  have hD := specRowRight_any k at_ q c fs W2 HT.out hn hc hk hz
  obtain ⟨t0, t1, t2⟩ := HX.out W2 (Below.refl _ _)
  rw [HW2.out] at t0 t1 t2
  clear hW2 hf hs1
  cases hr : rwB k at_ fs with
  | false =>
    have hC : Hid (fgC k at_ fs ix = 1) := if_neg (by rw [hr]; exact Bool.false_ne_true)
    rw [hr] at hD
    clear hr
    go_enter Tryz.func75, Tryz.ntmps75
    go_wp2_with fail
    rw [← HW2.out]
    refine hD.mono ?_
    rintro e y1 ⟨rfl, b1⟩
    go_wp2_with fail
    refine (l07Ill_any 1 y1).mono ?_
    rintro e y2 ⟨rfl, b2⟩
    have b2 := chainB b1 b2
    have HE := fun x0 x1 x2 x3 => HEr.out y2 1 x0 x1 x2 x3 b2 hC.out (by omega)
    obtain ⟨r0, r1, r2, r3, f0, f1, f2, f3⟩ := HR.out y2 (K1.out.below b2)
    clear b1 b2 HEr HR HX t0 t1 t2
    go_wp2_with fail
    refine bodyPost_ret (v := .agg #[.string ByteArray.empty, .int .i64 0, .slice none 0 0, .int .i64 1]) (by simp [results, Tryz.results75, go_sem, r0, r1, r2, r3]) rfl ?_
    exact HE _ _ _ _
  | true =>
  rw [hr] at hD
  obtain ⟨-, -, ⟨l1, l3⟩, -, -⟩ := rwB_parts hr
  have HI : Hid (∀ x, Calls Tryz.prog 46 #[.int .i64 ix, .int .i64 0, .int .i64 ((fs.length : Int) - 1)] x fun e w' => e = .returned (.bool (decide (0 ≤ ix ∧ ix ≤ (fs.length : Int) - 1))) ∧ w' = x) := fun x => l07Is_any _ _ _ x
  by_cases hin : 0 ≤ ix ∧ ix ≤ (fs.length : Int) - 1
  case neg =>
    have hC : Hid (fgC k at_ fs ix = 6) := by show _ = _; unfold fgC; rw [if_pos hr, if_neg hin]
    rw [decide_eq_false hin] at HI
    clear hr hin
    go_enter Tryz.func75, Tryz.ntmps75
    go_wp2_with fail
    rw [← HW2.out]
    refine hD.mono ?_
    rintro e y1 ⟨rfl, b1⟩
    clear t0 t1 t2
    obtain ⟨t0, t1, t2⟩ := HX.out y1 b1
    go_wp2_with fail
    refine (HI.out y1).mono ?_
    rintro e y2 ⟨rfl, rfl⟩
    go_wp2_with fail
    refine (l07Ill_any 6 y2).mono ?_
    rintro e y3 ⟨rfl, b2⟩
    have b2 := chainB b1 b2
    have HE := fun x0 x1 x2 x3 => HEr.out y3 6 x0 x1 x2 x3 b2 hC.out (by omega)
    obtain ⟨r0, r1, r2, r3, f0, f1, f2, f3⟩ := HR.out y3 (K1.out.below b2)
    clear b1 b2 HEr HR HX t0 t1 t2
    go_wp2_with fail
    refine bodyPost_ret (v := .agg #[.string ByteArray.empty, .int .i64 0, .slice none 0 0, .int .i64 6]) (by simp [results, Tryz.results75, go_sem, r0, r1, r2, r3]) rfl ?_
    exact HE _ _ _ _
  rw [decide_eq_true hin] at HI
  obtain ⟨I, hI⟩ := Int.eq_ofNat_of_zero_le hin.1
  subst hI
  have hIl : I < fs.length := by omega
  have i1 : (I : Int) < fs.length := by omega
  obtain ⟨b, off, rfl, hb0⟩ := HT.out.some_of (by omega)
  have HC : Hid (∀ x, Below W2.heap.size W2 x → x.cell? ⟨b, off + I * 5, none⟩ = some (.string fs[I].n) ∧ x.cell? ⟨b, off + I * 5 + 1, none⟩ = some (.string fs[I].c) ∧ x.cell? ⟨b, off + I * 5 + 2, none⟩ = some (.string fs[I].s) ∧ x.cell? ⟨b, off + I * 5 + 3, none⟩ = some (.string fs[I].v) ∧ x.cell? ⟨b, off + I * 5 + 4, none⟩ = some (.bool fs[I].g)) := fun x hx => (HT.out.below hx).at I hIl
  have HG : Hid (fs.getD I fldD = fs[I]) := by show _ = _; rw [List.getD_eq_getElem?_getD, List.getElem?_eq_getElem hIl]; rfl
  have HFC : Hid (fgC k at_ fs I = if fs[I].g = true then 7 else 0) := by show _ = _; unfold fgC; rw [if_pos hr, if_pos hin, Int.toNat_natCast, HG.out]
  have HFF : Hid (fgC k at_ fs I = 0 → fgF k at_ fs I = fs.set I (goneF fs[I])) := by
    intro h
    show (if _ then _ else _) = _
    rw [if_pos h, Int.toNat_natCast, HG.out]
  have HGF : Hid (goneF fs[I] = ⟨fs[I].n, fs[I].c, ByteArray.empty, ByteArray.empty, true⟩) := rfl
  clear HG hin
  generalize fs[I].n = fn at *
  generalize fs[I].c = fc at *
  generalize fs[I].s = fss at *
  generalize fs[I].v = fv at *
  generalize goneF fs[I] = GF at *
  cases hgg : fs[I].g with
  | true =>
    rw [hgg] at HC HFC
    have hC : Hid (fgC k at_ fs I = 7) := by show _ = _; rw [HFC.out]; rfl
    clear hr hgg HFC HFF HGF
    go_enter Tryz.func75, Tryz.ntmps75
    go_wp2_with fail
    rw [← HW2.out]
    refine hD.mono ?_
    rintro e y1 ⟨rfl, b1⟩
    clear t0 t1 t2
    obtain ⟨t0, t1, t2⟩ := HX.out y1 b1
    go_wp2_with fail
    refine (HI.out y1).mono ?_
    rintro e y2 ⟨rfl, rfl⟩
    obtain ⟨c0, c1, c2, c3, c4⟩ := HC.out y2 b1
    go_wp2_with fail
    refine (l07Ill_any 7 _).mono ?_
    rintro e y3 ⟨rfl, b2⟩
    have b2 := chainB (alB b1 _) b2
    have HE := fun x0 x1 x2 x3 => HEr.out y3 7 x0 x1 x2 x3 b2 hC.out (by omega)
    obtain ⟨r0, r1, r2, r3, f0, f1, f2, f3⟩ := HR.out y3 (K1.out.below b2)
    clear b1 b2 HEr HR HX t0 t1 t2 c0 c1 c2 c3 c4
    go_wp2_with fail
    refine bodyPost_ret (v := .agg #[.string ByteArray.empty, .int .i64 0, .slice none 0 0, .int .i64 7]) (by simp [results, Tryz.results75, go_sem, r0, r1, r2, r3]) rfl ?_
    exact HE _ _ _ _
  | false =>
    rw [hgg] at HC HFC
    have hC : Hid (fgC k at_ fs I = 0) := by show _ = _; rw [HFC.out]; rfl
    have HK2 : Hid (fgK k at_ fs I = k) := if_pos hC.out
    have HA2 : Hid (fgA k at_ fs I = at_) := if_pos hC.out
    have HF2 : Hid (fgF k at_ fs I = fs.set I GF) := HFF.out hC.out
    clear hr hgg HFC HFF HEr
    go_enter Tryz.func75, Tryz.ntmps75
    go_wp2_with fail
    rw [← HW2.out]
    refine hD.mono ?_
    rintro e y1 ⟨rfl, b1⟩
    clear t0 t1 t2
    obtain ⟨t0, t1, t2⟩ := HX.out y1 b1
    go_wp2_with fail
    refine (HI.out y1).mono ?_
    rintro e y2 ⟨rfl, rfl⟩
    obtain ⟨c0, c1, c2, c3, c4⟩ := HC.out y2 b1
    go_upto_region 6 with fail
    obtain ⟨y3, hy3⟩ : ∃ y3, y3 = y2.alloc (.cells #[.string fn, .string fc, .string fss, .string fv, .bool false] 87) := ⟨_, rfl⟩
    rw [← hy3]
    have b3 : Hid (Below W2.heap.size W2 y3) := by rw [hy3]; exact alB b1 _
    have KY : Hid (Bxs y3 y2.heap.size 87 #[.string fn, .string fc, .string fss, .string fv, .bool false]) := by rw [hy3]; exact Bxs.new _ _ _
    have hsy : Hid (W2.heap.size ≤ y2.heap.size) := b1.size
    clear hy3 t0 t1 t2 c0 c1 c2 c3 c4 b1
    obtain ⟨t0, t1, t2⟩ := HX.out y3 b3.out
    have u4 : y3.cell? ⟨y2.heap.size, 4, none⟩ = some (.bool false) := KY.out.cell 4
    have hCp := l07Copy_any k at_ (some ⟨b, off, none⟩) c fs y3 (HT.out.below b3.out) (by omega) (by omega)
    go_wp2_with fail
    refine hCp.mono ?_
    rintro e y4 ⟨bb, cc, rfl, own4, b4⟩
    clear t0 t1 t2 u4 hCp
    go_upto_region 9 with fail
    obtain ⟨y5, hy5⟩ : ∃ y5, y5 = y4.alloc (.cells #[.string k, .int .i64 at_, .slice (some ⟨bb, 0, none⟩) fs.length cc] 40) := ⟨_, rfl⟩
    rw [← hy5]
    have b5 : Hid (Below W2.heap.size W2 y5) := by rw [hy5]; exact alB (chainB b3.out b4) _
    have KZ : Hid (Bxs y5 y4.heap.size 40 #[.string k, .int .i64 at_, .slice (some ⟨bb, 0, none⟩) fs.length cc]) := by rw [hy5]; exact Bxs.new _ _ _
    have KY5 : Hid (Bxs y5 y2.heap.size 87 #[.string fn, .string fc, .string fss, .string fv, .bool false]) := by rw [hy5]; exact (KY.out.below b4).alloc _
    have own5 : Hid (y5.ownsRow y3.heap.size 87 5 (.slice (some ⟨bb, 0, none⟩) fs.length cc) fs.length (fldRow fs)) := by rw [hy5]; exact own4.alloc _
    have KR5 : Hid (Bxs y5 (w.heap.size + 1) 79 #[.string ByteArray.empty, .int .i64 0, .slice none 0 0, .int .i64 0]) := K1.out.below b5.out
    have HO : Hid (∀ (x0 x1 x2 x3 : Value), (((((set5 y5 bb (I * 5) GF).setCell ⟨w.heap.size + 1, 0, none⟩ x0).setCell ⟨w.heap.size + 1, 1, none⟩ x1).setCell ⟨w.heap.size + 1, 2, none⟩ x2).setCell ⟨w.heap.size + 1, 3, none⟩ x3).ownsRow w.heap.size 87 5 (.slice (some ⟨bb, 0, none⟩) fs.length cc) (fs.set I GF).length (fldRow (fs.set I GF)) ∧ Below w.heap.size w (((((set5 y5 bb (I * 5) GF).setCell ⟨w.heap.size + 1, 0, none⟩ x0).setCell ⟨w.heap.size + 1, 1, none⟩ x1).setCell ⟨w.heap.size + 1, 2, none⟩ x2).setCell ⟨w.heap.size + 1, 3, none⟩ x3)) := by
      intro x0 x1 x2 x3
      have h6 := own_set5 own5.out I GF
      have hlt := (own5.out.lt bb rfl).1
      have hs3 := b3.out.size
      have hs2 := HS2.out
      have n2 : (Value.slice (some ⟨bb, 0, none⟩) fs.length cc).ownBlock ≠ some (w.heap.size + 1) := by simp [Value.ownBlock]; omega
      rw [List.length_set]
      exact ⟨ownS_mono (ownsRow_setCell_other (ownsRow_setCell_other (ownsRow_setCell_other (ownsRow_setCell_other h6 n2 _) n2 _) n2 _) n2 _) (by omega), below_set4 (set5_below (chainB B2.out b5.out) (by omega) _ _) (by omega) _ _ _ _⟩
    have HK6 : Hid (Bxs (set5 y5 bb (I * 5) GF) y4.heap.size 40 #[.string k, .int .i64 at_, .slice (some ⟨bb, 0, none⟩) fs.length cc] ∧ Bxs (set5 y5 bb (I * 5) GF) (w.heap.size + 1) 79 #[.string ByteArray.empty, .int .i64 0, .slice none 0 0, .int .i64 0]) := by
      have e1 := ownF_ne own5.out KZ.out (by decide)
      have e2 := ownF_ne own5.out KR5.out (by decide)
      exact ⟨set5_other KZ.out (by simpa [Value.ownBlock] using e1) _, set5_other KR5.out (by simpa [Value.ownBlock] using e2) _⟩
    have HSt : Hid (set5 y5 bb (I * 5) GF = ((((y5.setCell ⟨bb, I * 5, none⟩ (.string fn)).setCell ⟨bb, I * 5 + 1, none⟩ (.string fc)).setCell ⟨bb, I * 5 + 2, none⟩ (.string ⟨#[]⟩)).setCell ⟨bb, I * 5 + 3, none⟩ (.string ⟨#[]⟩)).setCell ⟨bb, I * 5 + 4, none⟩ (.bool true)) := by show _ = _; rw [HGF.out]; rfl
    obtain ⟨v0, v1, v2⟩ : y5.cell? ⟨y4.heap.size, 0, none⟩ = some (.string k) ∧ y5.cell? ⟨y4.heap.size, 1, none⟩ = some (.int .i64 at_) ∧ y5.cell? ⟨y4.heap.size, 2, none⟩ = some (.slice (some ⟨bb, 0, none⟩) fs.length cc) := ⟨KZ.out.cell 0, KZ.out.cell 1, KZ.out.cell 2⟩
    obtain ⟨w0, w1⟩ : y5.cell? ⟨y2.heap.size, 0, none⟩ = some (.string fn) ∧ y5.cell? ⟨y2.heap.size, 1, none⟩ = some (.string fc) := ⟨KY5.out.cell 0, KY5.out.cell 1⟩
    obtain ⟨⟨k0, k1, k2, k3, k4⟩, g0, g1, g2, g3, g4⟩ : (y5.cell? ⟨bb, I * 5, none⟩ = some (.string fs[I].n) ∧ y5.cell? ⟨bb, I * 5 + 1, none⟩ = some (.string fs[I].c) ∧ y5.cell? ⟨bb, I * 5 + 2, none⟩ = some (.string fs[I].s) ∧ y5.cell? ⟨bb, I * 5 + 3, none⟩ = some (.string fs[I].v) ∧ y5.cell? ⟨bb, I * 5 + 4, none⟩ = some (.bool fs[I].g)) ∧ y5.frozen? ⟨bb, I * 5, none⟩ = false ∧ y5.frozen? ⟨bb, I * 5 + 1, none⟩ = false ∧ y5.frozen? ⟨bb, I * 5 + 2, none⟩ = false ∧ y5.frozen? ⟨bb, I * 5 + 3, none⟩ = false ∧ y5.frozen? ⟨bb, I * 5 + 4, none⟩ = false := by
      have hr := fldRow_at fs I (by omega)
      rw [← own5.out.cellAt (I * 5) (by omega), ← own5.out.cellAt (I * 5 + 1) (by omega), ← own5.out.cellAt (I * 5 + 2) (by omega), ← own5.out.cellAt (I * 5 + 3) (by omega), ← own5.out.cellAt (I * 5 + 4) (by omega)] at hr
      exact ⟨hr, own5.out.frozenAt _, own5.out.frozenAt _, own5.out.frozenAt _, own5.out.frozenAt _, own5.out.frozenAt _⟩
    clear hy5 own4 b4 KY
    go_upto_region 10 with fail
    rw [← HSt.out]
    obtain ⟨r0, r1, r2, r3, f0, f1, f2, f3⟩ := HR.out _ HK6.out.2
    obtain ⟨x0, x1, x2⟩ : (set5 y5 bb (I * 5) GF).cell? ⟨y4.heap.size, 0, none⟩ = some (.string k) ∧ (set5 y5 bb (I * 5) GF).cell? ⟨y4.heap.size, 1, none⟩ = some (.int .i64 at_) ∧ (set5 y5 bb (I * 5) GF).cell? ⟨y4.heap.size, 2, none⟩ = some (.slice (some ⟨bb, 0, none⟩) fs.length cc) := ⟨HK6.out.1.cell 0, HK6.out.1.cell 1, HK6.out.1.cell 2⟩
    clear HSt HK6 v0 v1 v2 w0 w1 k0 k1 k2 k3 k4 g0 g1 g2 g3 g4 own5 KR5 KZ KY5
    generalize set5 y5 bb (I * 5) GF = y6 at *
    go_wp2_with fail
    refine bodyPost_ret (v := .agg #[.string k, .int .i64 at_, .slice (some ⟨bb, 0, none⟩) fs.length cc, .int .i64 0]) (by simp [results, Tryz.results75, go_sem, r0, r1, r2, r3]) rfl ?_
    rw [HK2.out, HA2.out, HF2.out, hC.out]
    exact ⟨_, rfl, HO.out _ _ _ _⟩
end Go.Proofs.YthfecjjahoflcaaGreatDoor
