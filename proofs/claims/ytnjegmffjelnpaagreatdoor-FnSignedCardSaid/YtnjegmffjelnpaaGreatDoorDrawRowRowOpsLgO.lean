/-
  Parts of one proof, laid as one text: DrawRow, RowOps, LgO; what each says stands at its head.
-/
import Derived.Test.YtnjegmffjelnpaaGreatDoorRows
import Derived.Test.YtnjegmffjelnpaaGreatDoorBytesDigMathTurnIWholeR
import Derived.Test.YtnjegmffjelnpaaGreatDoorSlABxKSlBOwnSSgnBOwnBPadI
import Derived.Test.YtnjegmffjelnpaaGreatDoorPutNumAppSSrc
import Derived.Test.YtnjegmffjelnpaaGreatDoorGrKTakesLSpecGNSpecGTTillTwoFldNFldTb
import Derived.Test.YtnjegmffjelnpaaGreatDoorDrawsDrawKitSomeIsInSignSSignDWide2StepApp
import Derived.Test.YtnjegmffjelnpaaGreatDoorLwSigDrawFldFldOMFldO
import Derived.Test.YtnjegmffjelnpaaGreatDoorShwKImplFT
import Derived.Test.YtnjegmffjelnpaaGreatDoorNameRight
import Derived.Test.YtnjegmffjelnpaaGreatDoorTimeBPutTextFldMathFldRiseScanMath
import Derived.Handy
import Derived.WalkSpells
import Derived.OwnWalk
import Derived.Deep.Cut
import Derived.ArgAppend
import Derived.Laws.CopyRow
import Derived.Deep.AppendLies
import Derived.Lib.AppendZerosOnto
import Derived.Lib.Overlaps
import Derived.Test.YtnjegmffjelnpaaGreatDoorLgMathLgAtKLgAnsLgRtTakesFldIsFldC
import Derived.Test.YtnjegmffjelnpaaGreatDoorRwBlkLawFRLawSGLawLgLawLhLawLzLawLmSgnLg
/-
  What l07Row draws: a row that is right, none of its fields forgotten, in memory of its own.
  Conditions: the source is one ('Src'); the time is right.
-/
namespace Go.Proofs.YtnjegmffjelnpaaGreatDoor
open Go.RowKit Go.Lib
set_option linter.unusedVariables false
set_option maxRecDepth 20000

/-- A source; a result's box; a block of names; two rows of texts of its own, apart. -/
structure LrS (w : World) (B p : Nat) (a : Option Addr) (len cap : Nat) (g : Nat) (ns : List ByteArray) (v1 v2 : Value) (ss vs : List ByteArray) (x : World) : Prop where
  src : Src 59 B p a len cap x
  gr : w.grownBy x (some p)
  res : Bxs x w.heap.size 65 #[.string ByteArray.empty, .int .i64 0, .slice none 0 0]
  nm : BlkS x g ns
  own1 : x.ownsRow w.heap.size 9 1 v1 ss.length (strRow ss)
  own2 : x.ownsRow w.heap.size 9 1 v2 vs.length (strRow vs)
  ap : ∀ j, v1.ownBlock = some j → v2.ownBlock ≠ some j
  n1 : v1.ownBlock ≠ some g
  n2 : v2.ownBlock ≠ some g
  hp : p < w.heap.size
  hg : w.heap.size ≤ g
section
variable {w : World} {B p : Nat} {a : Option Addr} {len cap g : Nat} {ns : List ByteArray} {v1 v2 : Value} {ss vs : List ByteArray} {x y : World}
theorem LrS.swap (h : LrS w B p a len cap g ns v1 v2 ss vs x) : LrS w B p a len cap g ns v2 v1 vs ss x :=
  ⟨h.src, h.gr, h.res, h.nm, h.own2, h.own1, fun j h1 h2 => h.ap j h2 h1, h.n2, h.n1, h.hp, h.hg⟩
theorem LrS.draw (h : LrS w B p a len cap g ns v1 v2 ss vs x) (hs : Src 59 B p a len cap y) (k : x.grownBy y (some p)) : LrS w B p a len cap g ns v1 v2 ss vs y := by
  have hp := h.hp
  have hg := h.hg
  exact ⟨hs, touch_trans h.gr k, h.res.grown k (fun e => by cases e; omega), h.nm.touch k (by omega), ownR_grown h.own1 k (fun j hj e => by have := (h.own1.lt j hj).1; cases e; omega), ownR_grown h.own2 k (fun j hj e => by have := (h.own2.lt j hj).1; cases e; omega), h.ap, h.n1, h.n2, hp, hg⟩
theorem LrS.al (h : LrS w B p a len cap g ns v1 v2 ss vs x) (o : Obj) : LrS w B p a len cap g ns v1 v2 ss vs (x.alloc o) :=
  ⟨h.src.below ((Below.refl _ _).alloc (Nat.le_refl _) _), touch_below h.gr ((Below.refl _ _).alloc (Nat.le_refl _) _), h.res.alloc _, h.nm.below ((Below.refl _ _).alloc (Nat.le_refl _) _) h.nm.lt, h.own1.alloc _, h.own2.alloc _, h.ap, h.n1, h.n2, h.hp, h.hg⟩
theorem LrS.app1 (h : LrS w B p a len cap g ns v1 v2 ss vs x) (s : ByteArray) (hl : ss.length + 1 ≤ 1048576) :
    ∃ g' c y, (Builtin.append_ #[24, 24] 24 #[v1, .slice (some ⟨x.heap.size, 0, none⟩) 1 1]).run Tryz.prog (x.alloc (.cells #[.string s] 9)) = .ok (.slice (some ⟨g', 0, none⟩) (ss.length + 1) c) y ∧
      LrS w B p a len cap g ns (.slice (some ⟨g', 0, none⟩) (ss.length + 1) c) v2 (ss ++ [s]) vs y := by
  have hsz := h.gr.size
  have hp := h.hp
  obtain ⟨g', c, y, h1, h2, h3, h4⟩ := app_str x w.heap.size v1 ss h.own1 s hl hsz
  have H := h.al (.cells #[.string s] 9)
  have hrow : ∀ j, v1.ownBlock = some j → w.heap.size ≤ j := fun j hj => (h.own1.lt j hj).1
  have hob : ∀ j, (Value.slice (some ⟨g', 0, none⟩) (ss.length + 1) c).ownBlock = some j → g' = j := fun j hj => by simpa [Value.ownBlock] using hj
  refine ⟨g', c, y, h1, ⟨H.src.other h3 (fun j hj => by have := hrow j hj; omega), touch_own H.gr h3 hrow, H.res.grown h3 (Ne.symm (ownR_ne H.own1 H.res (by decide))), ?_, h2, ownR_grown H.own2 h3 (fun j hj he => h.ap j he hj), ?_, ?_, h.n2, hp, h.hg⟩⟩
  · exact (h3.block g H.nm.lt (Ne.symm h.n1)).trans H.nm
  · intro j hj he
    obtain rfl := hob j hj
    rcases h4 with h4 | h4
    · exact h.ap _ h4 he
    · have := (h.own2.lt _ he).2; omega
  · intro he
    obtain rfl := hob _ he
    rcases h4 with h4 | h4
    · exact h.n1 h4
    · have := h.nm.lt; omega
end
/-! ### What is drawn, whatever is drawn -/
def nmS : Nat → List ByteArray
  | 0 => [⟨#[109, 97, 105, 108]⟩, ⟨#[110, 97, 109, 101]⟩]
  | 1 => [⟨#[97, 103, 101]⟩]
  | _ => [⟨#[97, 103, 101]⟩, ⟨#[109, 97, 105, 108]⟩, ⟨#[116, 111, 119, 110]⟩]
def userS : ByteArray := ⟨#[117, 115, 101, 114]⟩
theorem fb_right (at_ : Int) (h0 : 0 ≤ at_) (h1 : at_ ≤ 1000000) : roC userS at_ [⟨#[97, 103, 101]⟩] [⟨#[115]⟩] [⟨#[55]⟩] = 0 := by
  unfold roC
  rw [if_neg (by unfold roBig; decide), if_neg (by unfold roOdd; decide), if_pos]
  refine rwB_of (by decide) ⟨h0, h1⟩ (by decide) ?_ rfl
  intro f hf
  have : f = rfAt [⟨#[97, 103, 101]⟩] [⟨#[115]⟩] [⟨#[55]⟩] 0 := by simpa [rfTo, List.range_succ] using hf
  subst this
  show fdB ⟨⟨#[97, 103, 101]⟩, cmB ⟨#[97, 103, 101]⟩ ⟨#[115]⟩ ⟨#[55]⟩, ⟨#[115]⟩, ⟨#[55]⟩, false⟩ = true
  unfold fdB
  dsimp only
  have hok : cmOk ⟨#[97, 103, 101]⟩ ⟨#[115]⟩ ⟨#[55]⟩ = true := by decide
  have hs : (cmB ⟨#[97, 103, 101]⟩ ⟨#[115]⟩ ⟨#[55]⟩).size = 32 := by unfold cmB; rw [if_pos hok]; exact digB_size _
  rw [decide_eq_true hs, show nrB ⟨#[97, 103, 101]⟩ = true by decide]
  simp
theorem rf_there (ns ss vs : List ByteArray) (k : Nat) : ∀ f ∈ rfTo ns ss vs k, f.g = false := by
  intro f hf
  obtain ⟨j, -, rfl⟩ := List.mem_map.1 hf
  rfl
/-- A row that is right, whose fields are all there. -/
def RwR (k : ByteArray) (at_ : Int) (fs : List Fld) : Prop := rwB k at_ fs = true ∧ ∀ f ∈ fs, f.g = false
theorem ro_right {k : ByteArray} {at_ : Int} {ns ss vs : List ByteArray} (h : roC k at_ ns ss vs = 0) : RwR k at_ (roF k at_ ns ss vs) ∧ roK k at_ ns ss vs = k ∧ roA k at_ ns ss vs = at_ := by
  have e : roF k at_ ns ss vs = rfTo ns ss vs ns.length := if_pos h
  refine ⟨⟨?_, by rw [e]; exact rf_there _ _ _ _⟩, if_pos h, if_pos h⟩
  rw [e]
  unfold roC at h
  split at h
  · cases h
  · split at h
    · cases h
    · split at h
      · assumption
      · cases h
theorem set_grown (x : World) (g i : Nat) (v : Value) : x.grownBy (x.setCell ⟨g, i, none⟩ v) (some g) := grown_set (World.grownBy.refl _ _) i v
/-- Three stores into a box of one's own, beside a source and a row of one's own. -/
theorem put3 {w x : World} {B p : Nat} {a : Option Addr} {len cap g : Nat} {v : Value} {n : Nat} {xs : List Value} (hg : w.grownBy x (some p)) (hs : Src 59 B p a len cap x) (ho : x.ownsRow w.heap.size 76 5 v n xs) (hp : p < w.heap.size) (hw : w.heap.size ≤ g) (hn : v.ownBlock ≠ some g) (x0 x1 x2 : Value) :
    (((x.setCell ⟨g, 0, none⟩ x0).setCell ⟨g, 1, none⟩ x1).setCell ⟨g, 2, none⟩ x2).ownsRow w.heap.size 76 5 v n xs ∧ Src 59 B p a len cap (((x.setCell ⟨g, 0, none⟩ x0).setCell ⟨g, 1, none⟩ x1).setCell ⟨g, 2, none⟩ x2) ∧ w.grownBy (((x.setCell ⟨g, 0, none⟩ x0).setCell ⟨g, 1, none⟩ x1).setCell ⟨g, 2, none⟩ x2) (some p) := by
  have hr : ∀ j, some g = some j → p < j := fun j hj => by cases hj; omega
  have hr2 : ∀ j, some g = some j → w.heap.size ≤ j := fun j hj => by cases hj; exact hw
  refine ⟨ownsRow_setCell_other (ownsRow_setCell_other (ownsRow_setCell_other ho hn _) hn _) hn _, ?_, ?_⟩
  · exact ((hs.other (set_grown x g 0 x0) hr).other (set_grown _ g 1 x1) hr).other (set_grown _ g 2 x2) hr
  · exact touch_own (touch_own (touch_own hg (set_grown x g 0 x0) hr2) (set_grown _ g 1 x1) hr2) (set_grown _ g 2 x2) hr2
def kindS : List ByteArray := [userS, ⟨#[98, 105, 108, 108]⟩]
theorem kindS_small : ∀ t ∈ kindS, t.size ≤ 4 := by decide
theorem field_rowD (k : ByteArray) (t : Int) (q : Option Addr) (n c : Nat) (e : Int) (x : World) : (Instr.field 104 (.agg #[.string k, .int .i64 t, .slice q n c, .int .i64 e]) 0).run Tryz.prog x = .ok (.agg #[.string k, .int .i64 t, .slice q n c]) x := by kernel_rfl
set_option maxHeartbeats 8000000 in
theorem l07Row_any (B p : Nat) (a : Option Addr) (len cap : Nat) (at_ : Int) (w : World) (hs : Src 59 B p a len cap w) (h0 : 0 ≤ at_) (h1 : at_ ≤ 1000000) :
    Calls Tryz.prog 33 #[.pointer (some ⟨p, 0, none⟩), .int .i64 at_] w fun e w' =>
      (∃ (k : ByteArray) (fs : List Fld) (v : Value), e = .returned (.agg #[.string k, .int .i64 at_, v]) ∧ w'.ownsRow w.heap.size 76 5 v fs.length (fldRow fs) ∧ RwR k at_ fs) ∧ Src 59 B p a len cap w' ∧ w.grownBy w' (some p) := by
  have hp := hs.lt
  obtain ⟨W1, hW1⟩ : ∃ W1, W1 = w.alloc (.cells #[.string ⟨#[]⟩, .int .i64 0, .slice none 0 0] 65) := ⟨_, rfl⟩
  obtain ⟨W2, hW2⟩ : ∃ W2, W2 = W1.alloc (.cells #[.string ⟨#[109, 97, 105, 108]⟩, .string ⟨#[110, 97, 109, 101]⟩] 9) := ⟨_, rfl⟩
  obtain ⟨W3, hW3⟩ : ∃ W3, W3 = W2.alloc (.cells #[.string ⟨#[97, 103, 101]⟩] 9) := ⟨_, rfl⟩
  obtain ⟨W4, hW4⟩ : ∃ W4, W4 = W3.alloc (.cells #[.string ⟨#[97, 103, 101]⟩, .string ⟨#[109, 97, 105, 108]⟩, .string ⟨#[116, 111, 119, 110]⟩] 9) := ⟨_, rfl⟩
  obtain ⟨W5, hW5⟩ : ∃ W5, W5 = W4.alloc (.cells #[.slice (some ⟨w.heap.size + 1, 0, none⟩) 2 2, .slice (some ⟨w.heap.size + 1 + 1, 0, none⟩) 1 1, .slice (some ⟨w.heap.size + 1 + 1 + 1, 0, none⟩) 3 3] 24) := ⟨_, rfl⟩
  have HW : Hid (W5 = ((((w.alloc (.cells #[.string ⟨#[]⟩, .int .i64 0, .slice none 0 0] 65)).alloc (.cells #[.string ⟨#[109, 97, 105, 108]⟩, .string ⟨#[110, 97, 109, 101]⟩] 9)).alloc (.cells #[.string ⟨#[97, 103, 101]⟩] 9)).alloc (.cells #[.string ⟨#[97, 103, 101]⟩, .string ⟨#[109, 97, 105, 108]⟩, .string ⟨#[116, 111, 119, 110]⟩] 9)).alloc (.cells #[.slice (some ⟨w.heap.size + 1, 0, none⟩) 2 2, .slice (some ⟨w.heap.size + 1 + 1, 0, none⟩) 1 1, .slice (some ⟨w.heap.size + 1 + 1 + 1, 0, none⟩) 3 3] 24)) := by rw [hW5, hW4, hW3, hW2, hW1]; exact rfl
  have z1 : W1.heap.size = w.heap.size + 1 := by rw [hW1]; simp
  have z2 : W2.heap.size = w.heap.size + 1 + 1 := by rw [hW2, szA, z1]
  have z3 : W3.heap.size = w.heap.size + 1 + 1 + 1 := by rw [hW3, szA, z2]
  have z4 : W4.heap.size = w.heap.size + 1 + 1 + 1 + 1 := by rw [hW4, szA, z3]
  have a1 : Below W1.heap.size W1 W2 := by rw [hW2]; exact (Below.refl _ _).alloc (Nat.le_refl _) _
  have a2 : Below W2.heap.size W2 W3 := by rw [hW3]; exact (Below.refl _ _).alloc (Nat.le_refl _) _
  have a3 : Below W3.heap.size W3 W4 := by rw [hW4]; exact (Below.refl _ _).alloc (Nat.le_refl _) _
  have a4 : Below W4.heap.size W4 W5 := by rw [hW5]; exact (Below.refl _ _).alloc (Nat.le_refl _) _
  have a0 : Below w.heap.size w W1 := by rw [hW1]; exact (Below.refl _ _).alloc (Nat.le_refl _) _
  have R5 : Hid (Bxs W5 w.heap.size 65 #[.string ByteArray.empty, .int .i64 0, .slice none 0 0]) := by
    have h : Bxs W1 w.heap.size 65 #[.string ByteArray.empty, .int .i64 0, .slice none 0 0] := by rw [hW1]; exact Bxs.new _ _ _
    exact ((h.below a1).below a2 |>.below a3).below a4
  have N0 : Hid (BlkS W5 (w.heap.size + 1) (nmS 0)) := by
    have h : BlkS W2 (w.heap.size + 1) (nmS 0) := by rw [hW2, ← z1]; exact alloc_str W1 (nmS 0)
    exact ((h.below a2 h.lt).below a3 (h.below a2 h.lt).lt).below a4 ((h.below a2 h.lt).below a3 (h.below a2 h.lt).lt).lt
  have N1 : Hid (BlkS W5 (w.heap.size + 1 + 1) (nmS 1)) := by
    have h : BlkS W3 (w.heap.size + 1 + 1) (nmS 1) := by rw [hW3, ← z2]; exact alloc_str W2 (nmS 1)
    exact (h.below a3 h.lt).below a4 (h.below a3 h.lt).lt
  have N2 : Hid (BlkS W5 (w.heap.size + 1 + 1 + 1) (nmS 2)) := by
    have h : BlkS W4 (w.heap.size + 1 + 1 + 1) (nmS 2) := by rw [hW4, ← z3]; exact alloc_str W3 (nmS 2)
    exact h.below a4 h.lt
  have D5 : Hid (Bxs W5 (w.heap.size + 1 + 1 + 1 + 1) 24 #[.slice (some ⟨w.heap.size + 1, 0, none⟩) 2 2, .slice (some ⟨w.heap.size + 1 + 1, 0, none⟩) 1 1, .slice (some ⟨w.heap.size + 1 + 1 + 1, 0, none⟩) 3 3]) := by rw [hW5, ← z4]; exact Bxs.new _ _ _
  have b5 : Below w.heap.size w W5 := (((a0.trans (a1.mono (by omega))).trans (a2.mono (by omega))).trans (a3.mono (by omega))).trans (a4.mono (by omega))
  have S5 : Hid (Src 59 B p a len cap W5) := hs.below b5
  have G5 : Hid (w.grownBy W5 (some p)) := grown_below b5
  clear hW1 hW2 hW3 hW4 hW5 z1 z2 z3 z4 a0 a1 a2 a3 a4 b5 hs
  go_enter Tryz.func33, Tryz.ntmps33
  go_wp2_with fail
  rw [← HW.out]
  clear HW
  refine (n_any B p a len cap 3 W5 S5.out (by omega)).mono ?_
  rintro e w6 ⟨⟨r, rfl, r0, r1, -⟩, hs6, hg6⟩
  have r2 := r1 (by omega)
  obtain ⟨R, rfl⟩ := Int.eq_ofNat_of_zero_le r0
  obtain ⟨g, ns, hcell, hnm, hgw, hnl, hnz⟩ : ∃ (g : Nat) (ns : List ByteArray), w6.cell? ⟨w.heap.size + 1 + 1 + 1 + 1, R, none⟩ = some (.slice (some ⟨g, 0, none⟩) ns.length ns.length) ∧ BlkS w6 g ns ∧ w.heap.size ≤ g ∧ ns.length ≤ 3 ∧ ∀ x ∈ ns, x.size ≤ 4 := by
    have d6 := D5.out.grown hg6 (fun e => by cases e; omega)
    have n0 := N0.out.touch hg6 (by omega)
    have n1 := N1.out.touch hg6 (by omega)
    have n2 := N2.out.touch hg6 (by omega)
    match R, r2 with
    | 0, _ => exact ⟨_, nmS 0, d6.cell 0, n0, by omega, by decide, by decide⟩
    | 1, _ => exact ⟨_, nmS 1, d6.cell 1, n1, by omega, by decide, by decide⟩
    | 2, _ => exact ⟨_, nmS 2, d6.cell 2, n2, by omega, by decide, by decide⟩
    | R + 3, h => omega
  have S6 : Hid (LrS w B p a len cap g ns (.slice (some ⟨w6.heap.size, 0, none⟩) 0 0) (.slice (some ⟨w6.heap.size + 1, 0, none⟩) 0 0) [] [] ((w6.alloc (.cells #[] 9)).alloc (.cells #[] 9))) := by
    have hsz : w.heap.size ≤ w6.heap.size := (touch_trans G5.out hg6).size
    have hng := hnm.lt
    have hz : (w6.alloc (.cells #[] 9)).heap.size = w6.heap.size + 1 := szA _ _
    have e1 : (w6.alloc (.cells #[] 9)).ownsRow w.heap.size 9 1 (.slice (some ⟨w6.heap.size, 0, none⟩) 0 0) ([] : List ByteArray).length (strRow []) := ownS_mono (ownS_none w6) hsz
    have e2 : ((w6.alloc (.cells #[] 9)).alloc (.cells #[] 9)).ownsRow w.heap.size 9 1 (.slice (some ⟨w6.heap.size + 1, 0, none⟩) 0 0) ([] : List ByteArray).length (strRow []) := by
      have := ownS_none (w6.alloc (.cells #[] 9))
      rw [hz] at this
      exact ownS_mono this (by omega)
    have b : Below w6.heap.size w6 ((w6.alloc (.cells #[] 9)).alloc (.cells #[] 9)) := alB ((Below.refl _ _).alloc (Nat.le_refl _) _) _
    exact ⟨hs6.below b, touch_below (touch_trans G5.out hg6) b, (R5.out.grown hg6 (fun e => by cases e; omega)).below b, hnm.below b hng, e1.alloc _, e2, fun j hj he => by
        have q1 : w6.heap.size = j := by simpa [Value.ownBlock] using hj
        have q2 : w6.heap.size + 1 = j := by simpa [Value.ownBlock] using he
        omega, fun e => by
        have q1 : w6.heap.size = g := by simpa [Value.ownBlock] using e
        omega, fun e => by
        have q1 : w6.heap.size + 1 = g := by simpa [Value.ownBlock] using e
        omega, hp, hgw⟩
  clear hs6 hg6 hnm D5 N0 N1 N2 R5 S5 G5 r1 r0
  have i3 : (R : Int) < 3 := by omega
  go_wp2_with fail
  go_loopw [6, 7, 8] (fun v1 v2 i wr => ∃ (k : Nat) (ss vs : List ByteArray) (u1 u2 : Value), u1 = v1 ∧ u2 = v2 ∧ i = .int .i64 k ∧ k ≤ ns.length ∧ Hid (ss.length = k ∧ vs.length = k) ∧ Hid ((∀ x ∈ ss, x.size ≤ 9) ∧ ∀ x ∈ vs, x.size ≤ 17) ∧ Hid (LrS w B p a len cap g ns u1 u2 ss vs wr)) (fun _ _ i _ => ns.length - (Go.RowKit.intOf i).toNat)
  case atStart => exact ⟨0, [], [], _, _, rfl, rfl, rfl, Nat.zero_le _, ⟨rfl, rfl⟩, ⟨(fun x hx => by simp at hx), (fun x hx => by simp at hx)⟩, S6⟩
  case round =>
    clear S6 hcell
    obtain ⟨k, ss, vs, v1, v2, rfl, rfl, rfl, hk, HL, HZ, HS⟩ := hrel
    by_cases hlt : k < ns.length
    · have i1 : (k : Int) < ns.length := by omega
      go_wp2_with fail
      refine (l07Salt_any B p a len cap wr HS.out.src).mono ?_
      rintro e y1 ⟨⟨s1, rfl, hs1⟩, hsy, hgy⟩
      have S1 := HS.out.draw hsy hgy
      obtain ⟨g1, c1, y2, hrun1, S2⟩ := S1.app1 s1 (by have := HL.out.1; omega)
      have HS2 : Hid (LrS w B p a len cap g ns (.slice (some ⟨g1, 0, none⟩) (ss.length + 1) c1) v2 (ss ++ [s1]) vs y2) := S2
      clear S1 S2 hsy hgy HS
      go_wp2_with (at_builtin; refine wpList_append_run rfl _ _ _ rfl _ _ _ _ rfl rfl hrun1 ?_)
      refine (l07Value_any B p a len cap y2 HS2.out.src).mono ?_
      rintro e y3 ⟨⟨s2, rfl, hs2⟩, hsy, hgy⟩
      have S1 := HS2.out.draw hsy hgy
      obtain ⟨g2, c2, y4, hrun2, S2⟩ := S1.swap.app1 s2 (by have := HL.out.2; omega)
      have HS4 : Hid (LrS w B p a len cap g ns (.slice (some ⟨g1, 0, none⟩) (ss.length + 1) c1) (.slice (some ⟨g2, 0, none⟩) (vs.length + 1) c2) (ss ++ [s1]) (vs ++ [s2]) y4) := S2.swap
      have HL2 : Hid ((ss ++ [s1]).length = k + 1 ∧ (vs ++ [s2]).length = k + 1) := ⟨by rw [List.length_append, HL.out.1]; rfl, by rw [List.length_append, HL.out.2]; rfl⟩
      have HZ2 : Hid ((∀ x ∈ ss ++ [s1], x.size ≤ 9) ∧ ∀ x ∈ vs ++ [s2], x.size ≤ 17) := ⟨fun x hx => by
          rcases List.mem_append.1 hx with h | h
          · exact HZ.out.1 x h
          · obtain rfl := List.mem_singleton.1 h; exact hs1, fun x hx => by
          rcases List.mem_append.1 hx with h | h
          · exact HZ.out.2 x h
          · obtain rfl := List.mem_singleton.1 h; exact hs2⟩
      clear S1 S2 hsy hgy HS2 HL HZ hrun1
      go_wp2_with (at_builtin; refine wpList_append_run rfl _ _ _ rfl _ _ _ _ rfl rfl hrun2 ?_)
      go_roundw
      case rel => exact ⟨k + 1, ss ++ [s1], vs ++ [s2], _, _, rfl, rfl, by go_num, by omega, HL2, HZ2, HS4⟩
      case measure => simp [Go.RowKit.intOf]; omega
    · have hkn : ¬ (k : Int) < ns.length := by omega
      obtain ⟨z1, hz1⟩ : ∃ z1, z1 = wr.alloc (.cells #[.string ⟨#[117, 115, 101, 114]⟩, .string ⟨#[98, 105, 108, 108]⟩] 9) := ⟨_, rfl⟩
      have HZ1 : Hid (z1 = wr.alloc (.cells #[.string ⟨#[117, 115, 101, 114]⟩, .string ⟨#[98, 105, 108, 108]⟩] 9)) := hz1
      have BK : Hid (BlkS z1 wr.heap.size kindS) := by rw [hz1]; exact alloc_str wr kindS
      have S1 : Hid (LrS w B p a len cap g ns v1 v2 ss vs z1) := by rw [hz1]; exact HS.out.al _
      have hne : wr.heap.size ≠ p := by have := HS.out.src.lt; omega
      clear hz1 HS
      go_wp2_with fail
      rw [← HZ1.out]
      refine (pick_any B p a len cap wr.heap.size kindS z1 S1.out.src BK.out hne (by decide) (by decide)).mono ?_
      rintro e y1 ⟨⟨kd, hkd, rfl⟩, hsy, hgy⟩
      have S2 := S1.out.draw hsy hgy
      obtain ⟨p2, q2, rfl, hq2, t2⟩ := ownS_form S2.own1
      obtain ⟨p3, q3, rfl, hq3, t3⟩ := ownS_form S2.own2
      have hkz := kindS_small kd hkd
      have HRO := specRowOf_any kd at_ (some ⟨g, 0, none⟩) ns.length ns p2 q2 ss p3 q3 vs y1 S2.nm.txt t2 t3 (Nat.le_refl _) hq2 hq3 (by unfold maxLen; omega) (fun x hx => by have := hnz x hx; unfold maxLen; omega) (fun x hx => by have := HZ.out.1 x hx; unfold maxLen; omega) (fun x hx => by have := HZ.out.2 x hx; unfold maxLen; omega)
      have HS2 : Hid (LrS w B p a len cap g ns (.slice p2 ss.length q2) (.slice p3 vs.length q3) ss vs y1) := S2
      have HRR : Hid (roC kd at_ ns ss vs = 0 → RwR kd at_ (roF kd at_ ns ss vs) ∧ roK kd at_ ns ss vs = kd ∧ roA kd at_ ns ss vs = at_) := ro_right
      clear S1 S2 hsy hgy BK HZ1 HZ HL t2 t3 hkz hkd
      generalize roC kd at_ ns ss vs = C at *
      generalize roK kd at_ ns ss vs = RK at *
      generalize roA kd at_ ns ss vs = RA at *
      generalize roF kd at_ ns ss vs = RF at *
      go_wp2_with fail
      refine HRO.mono ?_
      rintro e y2 ⟨v, rfl, own, b2⟩
      obtain ⟨q, cc, rfl, hcc, -⟩ := ownF_form own
      go_upto_region 10 with fail
      obtain ⟨y3, hy3⟩ : ∃ y3, y3 = y2.alloc (.cells #[.string RK, .int .i64 RA, .slice q RF.length cc, .int .i64 C] 104) := ⟨_, rfl⟩
      rw [← hy3]
      obtain ⟨Z, hZ⟩ : ∃ Z, Z = y2.heap.size := ⟨_, rfl⟩
      rw [← hZ]
      have BZ : Bxs y3 Z 104 #[.string RK, .int .i64 RA, .slice q RF.length cc, .int .i64 C] := by rw [hy3, hZ]; exact Bxs.new _ _ _
      have b3 : Below y1.heap.size y1 y3 := by rw [hy3]; exact alB b2 _
      have hsz : w.heap.size + 1 ≤ y1.heap.size := HS2.out.res.lt
      have own3 : Hid (y3.ownsRow y1.heap.size 76 5 (.slice q RF.length cc) RF.length (fldRow RF)) := by rw [hy3]; exact own.alloc _
      have G3 : Hid (w.grownBy y3 (some p)) := touch_below HS2.out.gr b3
      have S3 : Hid (Src 59 B p a len cap y3) := HS2.out.src.below b3
      have R3 : Hid (Bxs y3 w.heap.size 65 #[.string ByteArray.empty, .int .i64 0, .slice none 0 0]) := HS2.out.res.below b3
      obtain ⟨c0, c1, c2, c3⟩ := BZ.four
      clear hy3 hZ BZ b3 own b2 HS2 HRO
      cases hC : (C != 0) with
      | false =>
        have hC0 : C = 0 := by simpa using hC
        obtain ⟨rr, rfl, rfl⟩ := HRR.out hC0
        have hPut := fun x0 x1 x2 => put3 G3.out S3.out (ownS_mono own3.out (show w.heap.size ≤ y1.heap.size by omega)) hp (Nat.le_refl _) (fun e => by have := (own3.out.lt _ e).1; omega) x0 x1 x2
        have HP : Hid (∀ x0 x1 x2 : Value, _) := hPut
        have HRr : Hid (RwR RK RA RF) := rr
        have f0 := R3.out.fr 0
        have f1 := R3.out.fr 1
        have f2 := R3.out.fr 2
        have d0 : y3.cell? ⟨w.heap.size, 0, none⟩ = some (.string ByteArray.empty) := R3.out.cell 0
        have d1 : y3.cell? ⟨w.heap.size, 1, none⟩ = some (.int .i64 0) := R3.out.cell 1
        have d2 : y3.cell? ⟨w.heap.size, 2, none⟩ = some (.slice none 0 0) := R3.out.cell 2
        clear hPut rr HRR G3 S3 own3 R3
        go_wp2_with fail
        refine bodyPost_ret (v := .agg #[.string RK, .int .i64 RA, .slice q RF.length cc]) (by simp [results, Tryz.results33, go_sem, d0, d1, d2]) rfl ?_
        obtain ⟨o1, o2, o3⟩ := HP.out (.string RK) (.int .i64 RA) (.slice q RF.length cc)
        exact ⟨⟨RK, RF, _, rfl, o1, HRr.out⟩, o2, o3⟩
      | true =>
        have hC0 : (C == 0) = false := by simpa using hC
        clear HRR c0 c1 c2 hcc
        obtain ⟨u1, hu1⟩ : ∃ u1, u1 = ((y3.alloc (.cells #[.string ⟨#[97, 103, 101]⟩] 9)).alloc (.cells #[.string ⟨#[115]⟩] 9)).alloc (.cells #[.string ⟨#[55]⟩] 9) := ⟨_, rfl⟩
        have HU1 : Hid (u1 = ((y3.alloc (.cells #[.string ⟨#[97, 103, 101]⟩] 9)).alloc (.cells #[.string ⟨#[115]⟩] 9)).alloc (.cells #[.string ⟨#[55]⟩] 9)) := hu1
        have bu : Below y3.heap.size y3 u1 := by rw [hu1]; exact alB (alB ((Below.refl _ _).alloc (Nat.le_refl _) _) _) _
        have tA : TxtAt u1 (some ⟨y3.heap.size, 0, none⟩) [⟨#[97, 103, 101]⟩] := by
          rw [hu1]
          exact (((alloc_str y3 [⟨#[97, 103, 101]⟩]).txt.below ((Below.refl _ _).alloc (Nat.le_refl _) _)).below ((Below.refl _ _).alloc (Nat.le_refl _) _))
        have tB : TxtAt u1 (some ⟨y3.heap.size + 1, 0, none⟩) [⟨#[115]⟩] := by
          rw [hu1]
          have h := (alloc_str (y3.alloc (.cells #[.string ⟨#[97, 103, 101]⟩] 9)) [⟨#[115]⟩]).txt
          rw [szA] at h
          exact h.below ((Below.refl _ _).alloc (Nat.le_refl _) _)
        have tC : TxtAt u1 (some ⟨y3.heap.size + 1 + 1, 0, none⟩) [⟨#[55]⟩] := by
          rw [hu1]
          have h := (alloc_str ((y3.alloc (.cells #[.string ⟨#[97, 103, 101]⟩] 9)).alloc (.cells #[.string ⟨#[115]⟩] 9)) [⟨#[55]⟩]).txt
          rw [szA, szA] at h
          exact h
        have HFB := specRowOf_any userS at_ (some ⟨y3.heap.size, 0, none⟩) 1 [⟨#[97, 103, 101]⟩] (some ⟨y3.heap.size + 1, 0, none⟩) 1 [⟨#[115]⟩] (some ⟨y3.heap.size + 1 + 1, 0, none⟩) 1 [⟨#[55]⟩] u1 tA tB tC (by decide) (by decide) (by decide) (by decide) (by decide) (by decide) (by decide)
        have hfb := fb_right at_ h0 h1
        obtain ⟨rr, e1, e2⟩ := ro_right hfb
        rw [hfb, e1, e2] at HFB
        have HFB' : Hid (Calls Tryz.prog 79 #[.string ⟨#[117, 115, 101, 114]⟩, .int .i64 at_, .slice (some ⟨y3.heap.size, 0, none⟩) 1 1, .slice (some ⟨y3.heap.size + 1, 0, none⟩) 1 1, .slice (some ⟨y3.heap.size + 1 + 1, 0, none⟩) 1 1] u1 fun e w' => ∃ v, e = .returned (.agg #[.string userS, .int .i64 at_, v, .int .i64 0]) ∧ w'.ownsRow u1.heap.size 76 5 v (roF userS at_ [⟨#[97, 103, 101]⟩] [⟨#[115]⟩] [⟨#[55]⟩]).length (fldRow (roF userS at_ [⟨#[97, 103, 101]⟩] [⟨#[115]⟩] [⟨#[55]⟩])) ∧ Below u1.heap.size u1 w') := HFB
        generalize roF userS at_ [⟨#[97, 103, 101]⟩] [⟨#[115]⟩] [⟨#[55]⟩] = FF at *
        have HRr : Hid (RwR userS at_ FF) := rr
        have HBu : Hid (Below y3.heap.size y3 u1) := bu
        have hfr := field_rowD
        clear hu1 tA tB tC HFB hfb rr e1 e2 bu
        go_wp2_with fail
        rw [← HU1.out]
        refine HFB'.out.mono ?_
        rintro e y5 ⟨v5, rfl, own5, b5⟩
        obtain ⟨q5, cc5, rfl, hcc5, -⟩ := ownF_form own5
        have bb := chainB HBu.out b5
        have hsu : y3.heap.size ≤ u1.heap.size := HBu.out.size
        have hsy := R3.out.lt
        have hPut := fun x0 x1 x2 => put3 (touch_below G3.out bb) (S3.out.below bb) (ownS_mono own5 (show w.heap.size ≤ u1.heap.size by omega)) hp (Nat.le_refl _) (fun e => by have := (own5.lt _ e).1; omega) x0 x1 x2
        have HP : Hid (∀ x0 x1 x2 : Value, _) := hPut
        have R5 := R3.out.below bb
        have f0 := R5.fr 0
        have f1 := R5.fr 1
        have f2 := R5.fr 2
        have d0 : y5.cell? ⟨w.heap.size, 0, none⟩ = some (.string ByteArray.empty) := R5.cell 0
        have d1 : y5.cell? ⟨w.heap.size, 1, none⟩ = some (.int .i64 0) := R5.cell 1
        have d2 : y5.cell? ⟨w.heap.size, 2, none⟩ = some (.slice none 0 0) := R5.cell 2
        clear hPut G3 S3 own3 R3 own5 bb b5 R5 HBu HFB' HU1
        go_wp2_with fail
        refine bodyPost_ret (v := .agg #[.string userS, .int .i64 at_, .slice q5 FF.length cc5]) (by simp [results, Tryz.results33, go_sem, d0, d1, d2]) rfl ?_
        obtain ⟨o1, o2, o3⟩ := HP.out (.string userS) (.int .i64 at_) (.slice q5 FF.length cc5)
        exact ⟨⟨userS, FF, _, rfl, o1, HRr.out⟩, o2, o3⟩
end Go.Proofs.YtnjegmffjelnpaaGreatDoor
/-
  Rows of elements of any size: appended to, copied over, cleared, as the built-in functions do it. Of no program.
-/
namespace Go.Proofs.YtnjegmffjelnpaaGreatDoor
open Go.RowKit Go.Lib
set_option linter.unusedVariables false

/-- A type of slices (t) of elements (e): zero value, cells and bytes of an element. -/
structure ElT (P : Program) (t e : TypeId) (i : TypeInfo) (z : Value) (size bytes : Nat) : Prop where
  ht : P.underlying t = some (.slice e)
  hi : P.info? e = some i
  hz : i.zero = some z
  hs : i.size = size
  hb : i.bytes = bytes
  hzs : z.cells.size = size
  h0 : 0 < size
  one : ∀ v ∈ z.cells.toList, v.oneCell' = true
theorem elT_of {P : Program} {t e : TypeId} {z : Value} {size bytes : Nat} (ht : P.underlying t = some (.slice e)) (h : (P.info? e).map (fun i => (i.zero, i.size, i.bytes)) = some (some z, size, bytes)) (hzs : z.cells.size = size) (h0 : 0 < size) (one : ∀ v ∈ z.cells.toList, v.oneCell' = true) : ∃ i, ElT P t e i z size bytes := by
  obtain ⟨i, hi, a, b, c⟩ := info_parts h
  exact ⟨i, ht, hi, a, b, c, hzs, h0, one⟩
/-- The cells from p on hold these values (of none nothing is asked). -/
def CelAt (w : World) (p : Option Addr) (cs : List Value) : Prop := ∀ j (h : j < cs.length), ∃ b off, p = some ⟨b, off, none⟩ ∧ b < w.heap.size ∧ w.cell? ⟨b, off + j, none⟩ = some cs[j]
theorem CelAt.below {w w' : World} {p : Option Addr} {cs : List Value} (h : CelAt w p cs) (hb : Below w.heap.size w w') : CelAt w' p cs := by
  intro i hi
  obtain ⟨b, off, rfl, h1, h2⟩ := h i hi
  exact ⟨b, off, rfl, Nat.lt_of_lt_of_le h1 hb.size, (hb.cell (p := ⟨b, off + i, none⟩) h1).trans h2⟩
theorem CelAt.nil (w : World) (p : Option Addr) : CelAt w p [] := fun i h => by simp at h
theorem CelAt.some_of {w : World} {p : Option Addr} {cs : List Value} (h : CelAt w p cs) (h0 : 0 < cs.length) : ∃ b off, p = some ⟨b, off, none⟩ := by
  obtain ⟨b, off, e, -⟩ := h 0 h0
  exact ⟨b, off, e⟩
theorem CelAt.src {w : World} {b off : Nat} {cs : List Value} (h : CelAt w (some ⟨b, off, none⟩) cs) : ∀ j u, cs[j]? = some u → w.cell? ((⟨b, off, none⟩ : Addr).add j) = some u := by
  intro j u hu
  obtain ⟨hj, rfl⟩ := List.getElem?_eq_some_iff.1 hu
  obtain ⟨b', off', e, _, h2⟩ := h j hj
  cases e
  rw [show (⟨b, off, none⟩ : Addr).add j = ⟨b, off + j, none⟩ by unfold Addr.add; split <;> simp_all]
  exact h2
theorem CelAt.take {w : World} {p : Option Addr} {cs : List Value} (h : CelAt w p cs) (k : Nat) : CelAt w p (cs.take k) := fun j hj => by
  obtain ⟨b, off, e, h1, h2⟩ := h j (by simp at hj; omega)
  exact ⟨b, off, e, h1, by rw [h2, List.getElem_take]⟩
theorem CelAt.drop {w : World} {b off : Nat} {cs : List Value} (h : CelAt w (some ⟨b, off, none⟩) cs) (k : Nat) : CelAt w (some ⟨b, off + k, none⟩) (cs.drop k) := fun j hj => by
  obtain ⟨b', off', e, h1, h2⟩ := h (k + j) (by simp at hj; omega)
  cases e
  exact ⟨b, off + k, rfl, h1, by rw [Nat.add_assoc, h2, List.getElem_drop]⟩
theorem own_cel {w : World} {base : Nat} {e : TypeId} {size n : Nat} {p : Option Addr} {cap : Nat} {xs : List Value} (h : w.ownsRow base e size (.slice p n cap) n xs) : CelAt w p xs := by
  rcases h.2 with ⟨e0, h0⟩ | ⟨g, cap', cur, e0, _, hg, _, _, hs, ht⟩
  · cases e0
    have hl := h.1
    intro j hj
    rw [hl, Nat.zero_mul] at hj
    omega
  · cases e0
    have hl := h.1
    intro j hj
    refine ⟨g, 0, rfl, lt_of_block hg, ?_⟩
    rw [Nat.zero_add, h.cellAt j (by omega), List.getElem?_eq_getElem hj]
/-- Where the own row of an answer lies: where it lay, or in new memory. -/
def Lies (w : World) (v v' : Value) : Prop := ∀ j, v'.ownBlock = some j → v.ownBlock = some j ∨ w.heap.size ≤ j
theorem app_cel {P : Program} {t e : TypeId} {i : TypeInfo} {z : Value} {size bytes : Nat} (E : ElT P t e i z size bytes) (ty : TypeId) (w : World) (base : Nat) (v : Value) (n : Nat) (xs : List Value) (own : w.ownsRow base e size v n xs) (p : Option Addr) (m c : Nat) (news : List Value) (hp : CelAt w p news) (hl : news.length = m * size) (one : ∀ u ∈ news, u.oneCell' = true) (hb : (n + m) * bytes ≤ 140737488355328) (hm : n + m ≤ maxLen) (hbase : base ≤ w.heap.size) :
    ∃ v' w', (Builtin.append_ #[t, t] ty #[v, .slice p m c]).run P w = .ok v' w' ∧ w'.ownsRow base e size v' (n + m) (xs ++ news) ∧ w.grownBy w' v.ownBlock ∧ Lies w v v' := by
  by_cases h0 : m = 0
  · subst h0
    have hn : news = [] := List.eq_nil_of_length_eq_zero (by simpa using hl)
    subst hn
    refine ⟨v, w, ?_, by simpa using own, World.grownBy.refl _ _, fun j hj => .inl hj⟩
    rcases own.2 with ⟨rfl, rfl⟩ | ⟨g, cap', cur, rfl, _, _, hnc, _⟩
    · cases p <;> simp [Builtin.append_, run_underlying E.ht, sizeOf, typeInfo, E.hi, Builtin.lenOf, Builtin.firstCells, loadCells, loadCellsFrom]
    · cases p <;> simp [Builtin.append_, run_underlying E.ht, sizeOf, typeInfo, E.hi, Builtin.lenOf, Builtin.firstCells, hnc, storeCells, loadCells, loadCellsFrom]
  · have hpos : 0 < news.length := by rw [hl]; exact Nat.mul_pos (by omega) E.h0
    obtain ⟨b, off, rfl⟩ := hp.some_of hpos
    obtain ⟨g, cap', w', h1, h2, h3, h4, _⟩ := run_append_lies (P := P) w t ty base e i z size bytes E.ht E.hi E.hz E.hs E.hb E.hzs E.h0 v n xs own ⟨b, off, none⟩ m c news hl hp.src one (by omega) hm hb hbase _ rfl
    refine ⟨_, w', h1, h2, h3, fun j hj => ?_⟩
    have hj : some g = some j := hj
    cases hj
    rcases h4 with h | h
    · exact .inl h
    · exact .inr (by omega)
theorem Bxs.row {w : World} {g : Nat} {T : TypeId} {cs : Array Value} (h : Bxs w g T cs) (cs' : Array Value) : Bxs (w.setRow g cs') g T cs' := setRow_heap w g cs cs' T (0, 0) h
theorem row_other (w : World) (g k : Nat) (cs : Array Value) (hne : k ≠ g) : (w.setRow g cs).heap[k]? = w.heap[k]? := by
  have : g ≠ k := fun e => hne e.symm
  simp [World.setRow, Array.getElem?_modify, this]
theorem row_size (w : World) (g : Nat) (cs : Array Value) : (w.setRow g cs).heap.size = w.heap.size := by simp [World.setRow]
theorem grown_row (w : World) (g : Nat) (cs : Array Value) : w.grownBy (w.setRow g cs) (some g) := ⟨rfl, rfl, rfl, by rw [row_size]; exact Nat.le_refl _, fun k _ hne => row_other w g k cs (fun e => hne (by rw [e]))⟩
theorem Bxs.rowOther {w : World} {g : Nat} {T : TypeId} {cs : Array Value} (h : Bxs w g T cs) (g' : Nat) (cs' : Array Value) (hne : g ≠ g') : Bxs (w.setRow g' cs') g T cs := (row_other w g' g cs' hne).trans h
theorem run_copy_bx {P : Program} {t e : TypeId} {i : TypeInfo} {z : Value} {size bytes : Nat} (E : ElT P t e i z size bytes) (ty : TypeId) (w : World) (g o dLen dCap : Nat) (a : Addr) (sLen sCap k : Nat) (cur : Array Value) (cs : List Value)
    (hg : Bxs w g e cur) (hk : k = Nat.min sLen dLen) (hn : cs.length = k * size)
    (hsrc : ∀ j v, cs[j]? = some v → w.cell? (a.add j) = some v) (hfit : o + cs.length ≤ cur.size) (h1 : ∀ v ∈ cs, v.oneCell' = true) :
    (Builtin.copy_ #[t, t] ty #[.slice (some ⟨g, o, none⟩) dLen dCap, .slice (some a) sLen sCap]).run P w =
      .ok (goInt k) (w.setRow g (cur.toList.take o ++ cs ++ cur.toList.drop (o + cs.length)).toArray) := by
  have hl := run_firstCells_some (P := P) w size k a sLen sCap cs hn hsrc
  have hst := run_storeCells_at P g o e cs 0 cur w hg (by simpa using hfit) h1
  subst hk
  simp [Builtin.copy_, run_underlying E.ht, Builtin.lenOf, sizeOf, typeInfo, E.hi, E.hs, hl, hst]
theorem run_append_bx {P : Program} {t e : TypeId} {i : TypeInfo} {z : Value} {size bytes : Nat} (E : ElT P t e i z size bytes) (ty : TypeId) (w : World) (g sLen sCap : Nat) (a : Addr) (m c : Nat) (cur : Array Value) (news : List Value)
    (hg : Bxs w g e cur) (hl : news.length = m * size) (hsrc : ∀ j v, news[j]? = some v → w.cell? (a.add j) = some v) (hroom : sLen + m ≤ sCap) (hfit : sLen * size + news.length ≤ cur.size) (h1 : ∀ v ∈ news, v.oneCell' = true) :
    (Builtin.append_ #[t, t] ty #[.slice (some ⟨g, 0, none⟩) sLen sCap, .slice (some a) m c]).run P w =
      .ok (.slice (some ⟨g, 0, none⟩) (sLen + m) sCap) (w.setRow g (cur.toList.take (sLen * size) ++ news ++ cur.toList.drop (sLen * size + news.length)).toArray) := by
  have hfc := run_firstCells_some (P := P) w size m a m c news hl hsrc
  have hst := run_storeCells_at P g (sLen * size) e news 0 cur w hg (by simpa using hfit) h1
  simp only [Nat.add_zero] at hst
  simp [Builtin.append_, run_underlying E.ht, sizeOf, typeInfo, E.hi, E.hs, Builtin.lenOf, hroom, hfc, Addr.add_lit, hst]
theorem run_clear_bx {P : Program} {t e : TypeId} {i : TypeInfo} {z : Value} {size bytes : Nat} (E : ElT P t e i z size bytes) (ty : TypeId) (w : World) (g o c : Nat) (cur : Array Value)
    (hg : Bxs w g e cur) (hfit : o + size ≤ cur.size) :
    (Builtin.clear_ #[t] ty #[.slice (some ⟨g, o, none⟩) 1 c]).run P w =
      .ok (.tuple #[]) (w.setRow g (cur.toList.take o ++ z.cells.toList ++ cur.toList.drop (o + size)).toArray) := by
  have hzc : (Builtin.zeroCells z.cells 1).toList = z.cells.toList := by
    apply List.ext_getElem
    · simp [Builtin.zeroCells]
    · intro j h1 h2
      have : j < z.cells.size := by simpa using h2
      simp [Builtin.zeroCells, Nat.mod_eq_of_lt this, getElem!_pos z.cells j this]
  have hlen : z.cells.toList.length = size := by simpa using E.hzs
  have hst := run_storeCells_at P g o e z.cells.toList 0 cur w hg (by rw [hlen]; simpa using hfit) E.one
  rw [hlen] at hst
  simp only [Nat.add_zero] at hst
  simp [Builtin.clear_, run_underlying E.ht, zeroValue, typeInfo, E.hi, E.hz, hzc, hst]
theorem own_bxs {w : World} {base : Nat} {e : TypeId} {size g n cap : Nat} {xs : List Value} (h : w.ownsRow base e size (.slice (some ⟨g, 0, none⟩) n cap) n xs) : ∃ cur, Bxs w g e cur ∧ base ≤ g ∧ n ≤ cap ∧ cap ≤ maxLen ∧ cur.size = cap * size ∧ cur.toList.take (n * size) = xs := by
  rcases h.2 with ⟨e0, _⟩ | ⟨g', cap', cur, e0, h1, h2, h3, h4, h5, h6⟩
  · cases e0
  · cases e0
    exact ⟨cur, h2, h1, h3, h4, h5, h6⟩
theorem bxs_ownE {w : World} {base : Nat} {e : TypeId} {size g n cap : Nat} {xs : List Value} {cur : Array Value} (hg : Bxs w g e cur) (hb : base ≤ g) (hn : n ≤ cap) (hm : cap ≤ maxLen) (hs : cur.size = cap * size) (ht : cur.toList.take (n * size) = xs) : w.ownsRow base e size (.slice (some ⟨g, 0, none⟩) n cap) n xs := by
  refine ⟨?_, .inr ⟨g, cap, cur, rfl, hb, hg, hn, hm, hs, ht⟩⟩
  rw [← ht, List.length_take, Array.length_toList, hs]
  exact Nat.min_eq_left (Nat.mul_le_mul_right _ hn)
theorem copy_wp {P : Program} {w : World} {o : Oper} {a : Act} {K : Act → World → Prop} {Q : Exit → Act → World → Prop} (d x : Operand) (t t' : TypeId)
    (ho : o.op = .call { callee := .builtin .copy, args := #[d, x], argTypes := #[t, t'] }) (v u : Value) (hd : a.eval d = v) (hx : a.eval x = u) (v' : Value) (w' : World)
    (hr : (Builtin.copy_ #[t, t'] o.type #[v, u]).run P w = .ok v' w') (h : K (a.put o.dst v') w') : o.wp P a w K Q := by
  unfold Oper.wp execOp
  simp only [ho, resolve, invoke, builtin, Sem.run_bind, Sem.run_pure, Result.andThen_ok, List.map_toArray, List.map_cons, List.map_nil, hd, hx, hr]
  exact h
theorem step_copy_bx {P : Program} {w : World} {ops : Array Oper} {o : Oper} {a : Act} {K : Act → World → Prop} {Q : Exit → Act → World → Prop} {E : Prop} (hgd : o.guard = none) (d x : Operand) (t t' : TypeId)
    (ho : o.op = .call { callee := .builtin .copy, args := #[d, x], argTypes := #[t, t'] }) (v u v' : Value) (w' : World) (hd : a.eval d = v) (hx : a.eval x = u)
    (hr : (Builtin.copy_ #[t, t'] o.type #[v, u]).run P w = .ok v' w') (h : K (a.put o.dst v') w') : if Region.wanted o (yielded ops a.tmps) = true then Oper.wp P o a w K Q else E := by
  rw [if_pos (by simp [Region.wanted, hgd])]
  exact copy_wp d x t t' ho v u hd hx v' w' hr h
theorem wpList_app {P : Program} {w : World} {ops : Array Oper} {rest : List Oper} {o : Oper} {a : Act} {Q : Exit → Act → World → Prop} (hgd : o.guard = none) (s x : Operand) (t t' : TypeId)
    (ho : o.op = .call { callee := .builtin .append, args := #[s, x], argTypes := #[t, t'] }) (v1 v2 v' : Value) (w' : World) (hs : a.eval s = v1) (hx : a.eval x = v2)
    (hr : (Builtin.append_ #[t, t'] o.type #[v1, v2]).run P w = .ok v' w') (h : wpList P ops Q rest (a.put o.dst v') w') : wpList P ops Q (o :: rest) a w :=
  wpList_plain hgd fun _ hK => by
    unfold Oper.wp execOp
    simp only [ho, resolve, invoke, builtin, Sem.run_bind, Sem.run_pure, Result.andThen_ok, List.map_toArray, List.map_cons, List.map_nil, hs, hx, hr]
    exact hK _ _ h
theorem wpList_copy_bx {P : Program} {w : World} {ops : Array Oper} {rest : List Oper} {o : Oper} {a : Act} {Q : Exit → Act → World → Prop} (hgd : o.guard = none) (d x : Operand) (t t' : TypeId)
    (ho : o.op = .call { callee := .builtin .copy, args := #[d, x], argTypes := #[t, t'] }) (v u v' : Value) (w' : World) (hd : a.eval d = v) (hx : a.eval x = u)
    (hr : (Builtin.copy_ #[t, t'] o.type #[v, u]).run P w = .ok v' w') (h : wpList P ops Q rest (a.put o.dst v') w') : wpList P ops Q (o :: rest) a w :=
  wpList_plain hgd fun _ hK => copy_wp d x t t' ho v u hd hx v' w' hr (hK _ _ h)
end Go.Proofs.YtnjegmffjelnpaaGreatDoor
/-
  A log of its own memory: its rows in a row of their own, the fields of each in one of their own, its leaves in one of their own.
-/
namespace Go.Proofs.YtnjegmffjelnpaaGreatDoor
open Go.RowKit Go.Lib
set_option linter.unusedVariables false
set_option maxRecDepth 20000

theorem elRow : ∃ i, ElT Tryz.prog 23 65 i (.agg #[.string ByteArray.empty, .int .i64 0, .slice none 0 0]) 3 48 :=
  elT_of Tryz.underlying23 infoRow (by kernel_rfl) (by omega) (by intro v hv; simp [Value.cells] at hv; rcases hv with rfl | rfl | rfl <;> rfl)
/-- Two own rows of elements of two types lie in two blocks. -/
theorem own_apart {w : World} {b b' : Nat} {e e' : TypeId} {s s' n n' : Nat} {v v' : Value} {xs xs' : List Value} (h : w.ownsRow b e s v n xs) (k : w.ownsRow b' e' s' v' n' xs') (hne : e ≠ e') : v.ownBlock = none ∨ v.ownBlock ≠ v'.ownBlock := by
  rcases h.2 with ⟨rfl, _⟩ | ⟨g, cap, cur, rfl, _, hg, _⟩
  · exact .inl rfl
  · rcases k.2 with ⟨rfl, _⟩ | ⟨g', cap', cur', rfl, _, hg', _⟩
    · exact .inr (by simp [Value.ownBlock])
    · refine .inr (fun e => ?_)
      have : g = g' := by simpa [Value.ownBlock] using e
      subst this
      rw [hg] at hg'
      injection hg' with h1
      injection h1 with h2 h3
      exact hne h3
theorem own_box {w : World} {base g : Nat} {e T : TypeId} {s : Nat} {v : Value} {n : Nat} {xs : List Value} {cs : Array Value} (h : w.ownsRow base e s v n xs) (hb : Bxs w g T cs) (hne : T ≠ e) : v.ownBlock ≠ some g := by
  intro he
  rcases h.2 with ⟨rfl, _⟩ | ⟨g', cap, cur, rfl, _, hg', _⟩
  · cases he
  · have : g' = g := by simpa [Value.ownBlock] using he
    subst this
    unfold Bxs at hb
    rw [hb] at hg'
    injection hg' with h1
    injection h1 with h2 h3
    exact hne h3
theorem own_low {w : World} {base base' : Nat} {e : TypeId} {s n : Nat} {v : Value} {xs : List Value} (h : w.ownsRow base e s v n xs) (hb : base' ≤ base) : w.ownsRow base' e s v n xs := ownS_mono h hb
/-- A row as its three cells, its fields in a slice. -/
def rcV (x : Rw × Value) : Rc := ⟨x.1.k, x.1.a, x.2⟩
theorem rcV_len (xs : List (Rw × Value)) : (rcRow (xs.map rcV)).length = xs.length * 3 := by rw [rcRow_len, List.length_map]
theorem one_rc (xs : List (Rw × Value)) (h : ∀ x ∈ xs, x.2.oneCell' = true) : ∀ u ∈ rcRow (xs.map rcV), u.oneCell' = true := fun u hu => by
  unfold rcRow at hu
  obtain ⟨r, hr, h1⟩ := List.mem_flatMap.1 hu
  obtain ⟨x, hx, rfl⟩ := List.mem_map.1 hr
  simp [rcCells, rcV] at h1
  rcases h1 with rfl | rfl | rfl
  · rfl
  · rfl
  · exact h x hx
/-- Rows of their own memory. -/
structure RwsO (base : Nat) (xs : List (Rw × Value)) (v : Value) (w : World) : Prop where
  own : w.ownsRow base 65 3 v xs.length (rcRow (xs.map rcV))
  fld : ∀ x ∈ xs, w.ownsRow base 76 5 x.2 x.1.fs.length (fldRow x.1.fs)
  ne : xs.Pairwise (fun x y => x.2.ownBlock = none ∨ x.2.ownBlock ≠ y.2.ownBlock)
section
variable {base base' : Nat} {xs : List (Rw × Value)} {v v1 v2 : Value} {w w' : World} {lv : List ByteArray}
theorem RwsO.nil (base : Nat) (w : World) : RwsO base [] (.slice none 0 0) w := ⟨World.ownsRow_nil _ _ _ _, (fun x hx => by cases hx), List.Pairwise.nil⟩
theorem RwsO.below (h : RwsO base xs v w) (hb : Below w.heap.size w w') : RwsO base xs v w' := ⟨ownS_below h.own hb, fun x hx => ownS_below (h.fld x hx) hb, h.ne⟩
theorem RwsO.lower (h : RwsO base xs v w) (hb : base' ≤ base) : RwsO base' xs v w := ⟨own_low h.own hb, fun x hx => own_low (h.fld x hx) hb, h.ne⟩
/-- .. and none of these blocks is the row that was written. -/
theorem RwsO.kept {row : Option Nat} (h : RwsO base xs v w) (hg : w.grownBy w' row) (h1 : v.ownBlock = none ∨ v.ownBlock ≠ row) (h2 : ∀ x ∈ xs, x.2.ownBlock = none ∨ x.2.ownBlock ≠ row) : RwsO base xs v w' := ⟨h.own.kept hg h1, fun x hx => (h.fld x hx).kept hg (h2 x hx), h.ne⟩
theorem RwsO.lt (h : RwsO base xs v w) : (∀ j, v.ownBlock = some j → base ≤ j ∧ j < w.heap.size) ∧ ∀ x ∈ xs, ∀ j, x.2.ownBlock = some j → base ≤ j ∧ j < w.heap.size := ⟨fun j hj => h.own.lt j hj, fun x hx j hj => (h.fld x hx).lt j hj⟩
/-- A box of another type is written. -/
theorem RwsO.box {T : TypeId} {cs : Array Value} {g : Nat} (h : RwsO base xs v w) (hb : Bxs w g T cs) (n1 : T ≠ 65) (n2 : T ≠ 76) (hg : w.grownBy w' (some g)) : RwsO base xs v w' :=
  h.kept hg (.inr (own_box h.own hb n1)) (fun x hx => .inr (own_box (h.fld x hx) hb n2))
theorem RwsO.form (h : RwsO base xs v w) : ∃ p c, v = .slice p xs.length c ∧ xs.length ≤ c := by
  rcases h.own.2 with ⟨h0, h1⟩ | ⟨g, cap, cur, h1, _, _, h4, _⟩
  · exact ⟨none, 0, by rw [h0, h1], by omega⟩
  · exact ⟨_, _, h1, h4⟩
theorem RwsO.at {p : Option Addr} {c : Nat} (h : RwsO base xs (.slice p xs.length c) w) : RwAt w p (xs.map (·.1)) := by
  intro i hi
  have hi2 : i < xs.length := by simpa using hi
  have hc := own_cel h.own
  have hr := rcRow_at (xs.map rcV) i (by simpa using hi2)
  have hl := rcV_len xs
  obtain ⟨b, off, rfl, hb, h1⟩ := hc (i * 3) (by omega)
  have g : ∀ j (hj : j < (rcRow (xs.map rcV)).length), w.cell? ⟨b, off + j, none⟩ = (rcRow (xs.map rcV))[j]? := fun j hj => by
    obtain ⟨b', off', e, _, h3⟩ := hc j hj
    cases e
    rw [h3, List.getElem?_eq_getElem hj]
  have ev : (xs.map rcV)[i]'(by simpa using hi2) = ⟨xs[i].1.k, xs[i].1.a, xs[i].2⟩ := by simp [rcV]
  rw [ev] at hr
  obtain ⟨q, cc, hq, hcc, hf⟩ := ownF_form (h.fld _ (List.getElem_mem hi2))
  rw [hq] at hr
  have e1 : (xs.map (·.1))[i] = xs[i].1 := by simp
  rw [e1]
  exact ⟨b, off, q, cc, rfl, hb, (g (i * 3) (by omega)).trans hr.1, by rw [Nat.add_assoc]; exact (g (i * 3 + 1) (by omega)).trans hr.2.1, by rw [Nat.add_assoc]; exact (g (i * 3 + 2) (by omega)).trans hr.2.2, hcc, hf⟩
/-- One more row, whose fields lie in memory that came later than all of these. -/
theorem RwsO.app (h : RwsO base xs v w) (x : Rw × Value) (p : Option Addr) (c : Nat) (hx : x.2.oneCell' = true) (hp : CelAt w p (rcRow [rcV x])) (hf : w.ownsRow base 76 5 x.2 x.1.fs.length (fldRow x.1.fs)) (hn : ∀ y ∈ xs, y.2.ownBlock = none ∨ y.2.ownBlock ≠ x.2.ownBlock) (hl : xs.length + 1 ≤ 1048576) (hb : base ≤ w.heap.size) :
    ∃ q d y, (Builtin.append_ #[23, 23] 23 #[v, .slice p 1 c]).run Tryz.prog w = .ok (.slice q (xs.length + 1) d) y ∧ RwsO base (xs ++ [x]) (.slice q (xs.length + 1) d) y ∧ w.grownBy y v.ownBlock ∧ Lies w v (.slice q (xs.length + 1) d) := by
  obtain ⟨i, E⟩ := elRow
  obtain ⟨v', y, h1, h2, h3, h4⟩ := app_cel E 23 w base v xs.length (rcRow (xs.map rcV)) h.own p 1 c (rcRow [rcV x]) hp (by simp [rcRow, rcCells]) (by have := one_rc [x] (fun y hy => by rw [List.mem_singleton.1 hy]; exact hx); simpa using this) (by omega) (by unfold maxLen; omega) hb
  have e0 : rcRow (xs.map rcV) ++ rcRow [rcV x] = rcRow ((xs ++ [x]).map rcV) := by rw [List.map_append, rcRow_append]; rfl
  rw [e0] at h2
  have hform : ∃ q d, v' = .slice q (xs.length + 1) d := by
    rcases h2.2 with ⟨h0, h5⟩ | ⟨g, cap, cur, h5, _⟩
    · omega
    · exact ⟨_, _, h5⟩
  obtain ⟨q, d, rfl⟩ := hform
  have far : ∀ z : Rw × Value, w.ownsRow base 76 5 z.2 z.1.fs.length (fldRow z.1.fs) → y.ownsRow base 76 5 z.2 z.1.fs.length (fldRow z.1.fs) := fun z hz => hz.kept h3 (own_apart hz h.own (by decide))
  refine ⟨q, d, y, h1, ⟨by simpa using h2, fun z hz => ?_, ?_⟩, h3, h4⟩
  · rcases List.mem_append.1 hz with g | g
    · exact far z (h.fld z g)
    · rw [List.mem_singleton.1 g]; exact far x hf
  · rw [List.pairwise_append]
    refine ⟨h.ne, List.pairwise_singleton _ _, fun a ha b hb2 => ?_⟩
    rw [List.mem_singleton.1 hb2]
    exact hn a ha
/-- A log of its own memory. -/
structure LgO (base : Nat) (xs : List (Rw × Value)) (lv : List ByteArray) (v1 v2 : Value) (w : World) : Prop where
  rws : RwsO base xs v1 w
  lvs : w.ownsRow base 9 1 v2 lv.length (strRow lv)
theorem LgO.nil (base : Nat) (w : World) : LgO base [] [] (.slice none 0 0) (.slice none 0 0) w := ⟨RwsO.nil _ _, World.ownsRow_nil _ _ _ _⟩
theorem LgO.below (h : LgO base xs lv v1 v2 w) (hb : Below w.heap.size w w') : LgO base xs lv v1 v2 w' := ⟨h.rws.below hb, ownS_below h.lvs hb⟩
theorem LgO.lower (h : LgO base xs lv v1 v2 w) (hb : base' ≤ base) : LgO base' xs lv v1 v2 w := ⟨h.rws.lower hb, own_low h.lvs hb⟩
theorem LgO.box {T : TypeId} {cs : Array Value} {g : Nat} (h : LgO base xs lv v1 v2 w) (hb : Bxs w g T cs) (n1 : T ≠ 65) (n2 : T ≠ 76) (n3 : T ≠ 9) (hg : w.grownBy w' (some g)) : LgO base xs lv v1 v2 w' := ⟨h.rws.box hb n1 n2 hg, h.lvs.kept hg (.inr (own_box h.lvs hb n3))⟩
theorem LgO.set {g : Nat} (h : LgO base xs lv v1 v2 w) (hg : g < base) (j : Nat) (x : Value) : LgO base xs lv v1 v2 (w.setCell ⟨g, j, none⟩ x) := by
  have k : w.grownBy (w.setCell ⟨g, j, none⟩ x) (some g) := by
    refine ⟨rfl, rfl, rfl, by simp [World.setCell], fun q hq hne => ?_⟩
    have hq' : g ≠ q := fun e => hne (by rw [e])
    simp [World.setCell, Array.getElem?_modify, hq']
  exact ⟨h.rws.kept k (.inr (fun e => by have := (h.rws.lt.1 g e).1; omega)) (fun y hy => .inr (fun e => by have := (h.rws.lt.2 y hy g e).1; omega)), h.lvs.kept k (.inr (fun e => by have := (h.lvs.lt g e).1; omega))⟩
/-- A log in a box at E, made since W. -/
structure LgC (W : World) (E : Nat) (xs : List (Rw × Value)) (lv : List ByteArray) (now : Int) (v1 v2 : Value) (x : World) : Prop where
  box : Bxs x E 26 #[v1, v2, .int .i64 now]
  lg : LgO W.heap.size xs lv v1 v2 x
  eb : W.heap.size ≤ E
  bel : Below W.heap.size W x
variable {W x x' : World} {E : Nat} {now : Int}
theorem LgC.below (h : LgC W E xs lv now v1 v2 x) (hb : Below x.heap.size x x') : LgC W E xs lv now v1 v2 x' := ⟨h.box.below hb, h.lg.below hb, h.eb, chainB h.bel hb⟩
theorem LgC.cells (h : LgC W E xs lv now v1 v2 x) : x.cell? ⟨E, 0, none⟩ = some v1 ∧ x.cell? ⟨E, 1, none⟩ = some v2 ∧ x.cell? ⟨E, 2, none⟩ = some (.int .i64 now) ∧ x.frozen? ⟨E, 0, none⟩ = false ∧ x.frozen? ⟨E, 1, none⟩ = false ∧ x.frozen? ⟨E, 2, none⟩ = false := ⟨h.box.cell 0, h.box.cell 1, h.box.cell 2, h.box.fr 0, h.box.fr 1, h.box.fr 2⟩
theorem set_grw (x : World) (g i : Nat) (v : Value) : x.grownBy (x.setCell ⟨g, i, none⟩ v) (some g) := by
  refine ⟨rfl, rfl, rfl, by simp [World.setCell], fun q hq hne => ?_⟩
  have hq' : g ≠ q := fun e => hne (by rw [e])
  simp [World.setCell, Array.getElem?_modify, hq']
theorem below_cel {B : Nat} {a y : World} (h : Below B a y) {g : Nat} (hg : B ≤ g) (i : Nat) (v : Value) : Below B a (y.setCell ⟨g, i, none⟩ v) := h.setCell (p := ⟨g, i, none⟩) hg v
/-- A log of its own rows and leaves is put into the box. -/
theorem LgC.put {u0 u1 u2 : Value} (k : Bxs x E 26 #[u0, u1, u2]) (hE : W.heap.size ≤ E) (hb : Below W.heap.size W x) (hl : LgO W.heap.size xs lv v1 v2 x) : LgC W E xs lv now v1 v2 (((x.setCell ⟨E, 0, none⟩ v1).setCell ⟨E, 1, none⟩ v2).setCell ⟨E, 2, none⟩ (.int .i64 now)) :=
  ⟨((k.set 0 _).set 1 _).set 2 _, (((hl.box k (by decide) (by decide) (by decide) (set_grw x E 0 v1)).box (k.set 0 v1) (by decide) (by decide) (by decide) (set_grw _ E 1 v2)).box ((k.set 0 v1).set 1 v2) (by decide) (by decide) (by decide) (set_grw _ E 2 _)), hE, below_cel (below_cel (below_cel hb hE 0 _) hE 1 _) hE 2 _⟩
/-- One more row: its fields came later than all that is there. -/
theorem LgC.app {xf : World} (h : LgC W E xs lv now v1 v2 xf) (hx : Below xf.heap.size xf x) (r : Rw) (q : Option Addr) (d : Nat) (hf : x.ownsRow xf.heap.size 76 5 (.slice q r.fs.length d) r.fs.length (fldRow r.fs)) (hl : xs.length + 1 ≤ 1048576) :
    ∃ q2 d2 y, (Builtin.append_ #[23, 23] 23 #[v1, .slice (some ⟨x.heap.size, 0, none⟩) 1 1]).run Tryz.prog (x.alloc (.cells #[.string r.k, .int .i64 r.a, .slice q r.fs.length d] 65)) = .ok (.slice q2 (xs.length + 1) d2) y ∧ LgC W E (xs ++ [(r, .slice q r.fs.length d)]) lv now (.slice q2 (xs.length + 1) d2) v2 (y.setCell ⟨E, 0, none⟩ (.slice q2 (xs.length + 1) d2)) ∧ Below W.heap.size W y ∧ y.cell? ⟨E, 0, none⟩ = some v1 ∧ y.frozen? ⟨E, 0, none⟩ = false ∧ (x.alloc (.cells #[.string r.k, .int .i64 r.a, .slice q r.fs.length d] 65)).grownBy y v1.ownBlock := by
  have hal := (Below.refl x.heap.size x).alloc (Nat.le_refl _) (.cells #[.string r.k, .int .i64 r.a, .slice q r.fs.length d] 65)
  have H := (h.below hx).below hal
  have hc : CelAt (x.alloc (.cells #[.string r.k, .int .i64 r.a, .slice q r.fs.length d] 65)) (some ⟨x.heap.size, 0, none⟩) (rcRow [rcV (r, .slice q r.fs.length d)]) := fun j hj => ⟨x.heap.size, 0, rfl, by simp, by
    rw [Nat.zero_add, (Bxs.new x 65 #[.string r.k, .int .i64 r.a, .slice q r.fs.length d]).cell j]
    have hj3 : j < 3 := by simpa [rcRow, rcCells] using hj
    match j, hj3 with
    | 0, _ => rfl
    | 1, _ => rfl
    | 2, _ => rfl⟩
  have hW := h.bel.size
  have hxz := hx.size
  obtain ⟨q2, d2, y, h1, h2, h3, h4⟩ := H.lg.rws.app (r, .slice q r.fs.length d) (some ⟨x.heap.size, 0, none⟩) 1 rfl hc (own_low (ownS_below hf hal) hW) (fun y hy => by
    cases hy2 : y.2.ownBlock with
    | none => exact .inl rfl
    | some j =>
      refine .inr (fun e => ?_)
      have a := ((h.lg.rws.lt.2 y hy) j hy2).2
      have b := (hf.lt j e.symm).1
      omega) hl H.bel.size
  have hrow : ∀ j, v1.ownBlock = some j → W.heap.size ≤ j := fun j hj => (H.lg.rws.lt.1 j hj).1
  have kb : Bxs y E 26 #[v1, v2, .int .i64 now] := H.box.grown h3 (fun e => own_box H.lg.rws.own H.box (by decide) e.symm)
  have hl2 : y.ownsRow W.heap.size 9 1 v2 lv.length (strRow lv) := H.lg.lvs.kept h3 (own_apart H.lg.lvs H.lg.rws.own (by decide))
  have hby : Below W.heap.size W y := H.bel.grown h3 H.bel.size hrow
  have ho : LgO W.heap.size (xs ++ [(r, .slice q r.fs.length d)]) lv (.slice q2 (xs.length + 1) d2) v2 y := ⟨h2, hl2⟩
  exact ⟨q2, d2, y, h1, ⟨kb.set 0 _, ho.box kb (by decide) (by decide) (by decide) (set_grw y E 0 _), h.eb, below_cel hby h.eb 0 _⟩, hby, kb.cell 0, kb.fr 0, h3⟩
end
end Go.Proofs.YtnjegmffjelnpaaGreatDoor
