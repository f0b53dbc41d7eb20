/-
  Parts of one proof, laid as one text: DrawRow, FldF; what each says stands at its head.
-/
import Derived.Test.YtonleickhincgaaGreatDoorRows
import Derived.Test.YtonleickhincgaaGreatDoorBytesDigMath
import Derived.Test.YtonleickhincgaaGreatDoorTreeMathSlABxKSlBOwnS
import Derived.Test.YtonleickhincgaaGreatDoorShwKOwnBPadIMacMathSgnBDigITurn2
import Derived.Test.YtonleickhincgaaGreatDoorMac2AppSSrcDrawsDrawKitSomeIsInSignSSignDWide2StepAppPath2DigestDrawTreeSpoil
import Derived.Test.YtonleickhincgaaGreatDoorFldIsTimeIGrKSpecGNSpecGTTillTwoFldN
import Derived.Test.YtonleickhincgaaGreatDoorTakesNDrawFldFldOMFldO
import Derived.Test.YtonleickhincgaaGreatDoorNameRight
import Derived.Test.YtonleickhincgaaGreatDoorTimeBPutMathPutNumJoinedPutTextFldMath
import Derived.Handy
import Derived.WalkSpells
import Derived.OwnWalk
import Derived.Deep.Cut
import Derived.Test.YtonleickhincgaaGreatDoorImplLgFldC
import Derived.Test.YtonleickhincgaaGreatDoorFldRSpecTgFldL
import Derived.Test.YtonleickhincgaaGreatDoorLgAtKLgAnsLgRtAudMathHdMathClaMathHearMathFldGOneKFldBlkRwBlkRowOps
import Derived.Deep.AppendLies
/-
  What l07Row draws: a row that is right, none of its fields forgotten, in memory of its own.
  Conditions: the source is one ('Src'); the time is right.
-/
namespace Go.Proofs.YtonleickhincgaaGreatDoor
open Go.RowKit Go.Lib
set_option linter.unusedVariables false
set_option maxRecDepth 20000

/-- A source; a result's box; a block of names; two rows of texts of its own, apart. -/
structure LrS (w : World) (B p : Nat) (a : Option Addr) (len cap : Nat) (g : Nat) (ns : List ByteArray) (v1 v2 : Value) (ss vs : List ByteArray) (x : World) : Prop where
  src : Src 126 B p a len cap x
  gr : w.grownBy x (some p)
  res : Bxs x w.heap.size 100 #[.string ByteArray.empty, .int .i64 0, .slice none 0 0]
  nm : BlkS x g ns
  own1 : x.ownsRow w.heap.size 9 1 v1 ss.length (strRow ss)
  own2 : x.ownsRow w.heap.size 9 1 v2 vs.length (strRow vs)
  ap : ∀ j, v1.ownBlock = some j → v2.ownBlock ≠ some j
  n1 : v1.ownBlock ≠ some g
  n2 : v2.ownBlock ≠ some g
  hp : p < w.heap.size
  hg : w.heap.size ≤ g
section
variable {w : World} {B p : Nat} {a : Option Addr} {len cap g : Nat} {ns : List ByteArray} {v1 v2 : Value} {ss vs : List ByteArray} {x y : World}
theorem LrS.swap (h : LrS w B p a len cap g ns v1 v2 ss vs x) : LrS w B p a len cap g ns v2 v1 vs ss x :=
  ⟨h.src, h.gr, h.res, h.nm, h.own2, h.own1, fun j h1 h2 => h.ap j h2 h1, h.n2, h.n1, h.hp, h.hg⟩
theorem LrS.draw (h : LrS w B p a len cap g ns v1 v2 ss vs x) (hs : Src 126 B p a len cap y) (k : x.grownBy y (some p)) : LrS w B p a len cap g ns v1 v2 ss vs y := by
  have hp := h.hp
  have hg := h.hg
  exact ⟨hs, touch_trans h.gr k, h.res.grown k (fun e => by cases e; omega), h.nm.touch k (by omega), ownR_grown h.own1 k (fun j hj e => by have := (h.own1.lt j hj).1; cases e; omega), ownR_grown h.own2 k (fun j hj e => by have := (h.own2.lt j hj).1; cases e; omega), h.ap, h.n1, h.n2, hp, hg⟩
theorem LrS.al (h : LrS w B p a len cap g ns v1 v2 ss vs x) (o : Obj) : LrS w B p a len cap g ns v1 v2 ss vs (x.alloc o) :=
  ⟨h.src.below ((Below.refl _ _).alloc (Nat.le_refl _) _), touch_below h.gr ((Below.refl _ _).alloc (Nat.le_refl _) _), h.res.alloc _, h.nm.below ((Below.refl _ _).alloc (Nat.le_refl _) _) h.nm.lt, h.own1.alloc _, h.own2.alloc _, h.ap, h.n1, h.n2, h.hp, h.hg⟩
theorem LrS.app1 (h : LrS w B p a len cap g ns v1 v2 ss vs x) (s : ByteArray) (hl : ss.length + 1 ≤ 1048576) :
    ∃ g' c y, (Builtin.append_ #[25, 25] 25 #[v1, .slice (some ⟨x.heap.size, 0, none⟩) 1 1]).run Tryz.prog (x.alloc (.cells #[.string s] 9)) = .ok (.slice (some ⟨g', 0, none⟩) (ss.length + 1) c) y ∧
      LrS w B p a len cap g ns (.slice (some ⟨g', 0, none⟩) (ss.length + 1) c) v2 (ss ++ [s]) vs y := by
  have hsz := h.gr.size
  have hp := h.hp
  obtain ⟨g', c, y, h1, h2, h3, h4⟩ := app_str x w.heap.size v1 ss h.own1 s hl hsz
  have H := h.al (.cells #[.string s] 9)
  have hrow : ∀ j, v1.ownBlock = some j → w.heap.size ≤ j := fun j hj => (h.own1.lt j hj).1
  have hob : ∀ j, (Value.slice (some ⟨g', 0, none⟩) (ss.length + 1) c).ownBlock = some j → g' = j := fun j hj => by simpa [Value.ownBlock] using hj
  refine ⟨g', c, y, h1, ⟨H.src.other h3 (fun j hj => by have := hrow j hj; omega), touch_own H.gr h3 hrow, H.res.grown h3 (Ne.symm (ownR_ne H.own1 H.res (by decide))), ?_, h2, ownR_grown H.own2 h3 (fun j hj he => h.ap j he hj), ?_, ?_, h.n2, hp, h.hg⟩⟩
  · exact (h3.block g H.nm.lt (Ne.symm h.n1)).trans H.nm
  · intro j hj he
    obtain rfl := hob j hj
    rcases h4 with h4 | h4
    · exact h.ap _ h4 he
    · have := (h.own2.lt _ he).2; omega
  · intro he
    obtain rfl := hob _ he
    rcases h4 with h4 | h4
    · exact h.n1 h4
    · have := h.nm.lt; omega
end
/-! ### What is drawn, whatever is drawn -/
def nmS : Nat → List ByteArray
  | 0 => [⟨#[109, 97, 105, 108]⟩, ⟨#[110, 97, 109, 101]⟩]
  | 1 => [⟨#[97, 103, 101]⟩]
  | _ => [⟨#[97, 103, 101]⟩, ⟨#[109, 97, 105, 108]⟩, ⟨#[116, 111, 119, 110]⟩]
def userS : ByteArray := ⟨#[117, 115, 101, 114]⟩
theorem fb_right (at_ : Int) (h0 : 0 ≤ at_) (h1 : at_ ≤ 1000000) : roC userS at_ [⟨#[97, 103, 101]⟩] [⟨#[115]⟩] [⟨#[55]⟩] = 0 := by
  unfold roC
  rw [if_neg (by unfold roBig; decide), if_neg (by unfold roOdd; decide), if_pos]
  refine rwB_of (by decide) ⟨h0, h1⟩ (by decide) ?_ rfl
  intro f hf
  have : f = rfAt [⟨#[97, 103, 101]⟩] [⟨#[115]⟩] [⟨#[55]⟩] 0 := by simpa [rfTo, List.range_succ] using hf
  subst this
  show fdB ⟨⟨#[97, 103, 101]⟩, cmB ⟨#[97, 103, 101]⟩ ⟨#[115]⟩ ⟨#[55]⟩, ⟨#[115]⟩, ⟨#[55]⟩, false⟩ = true
  unfold fdB
  dsimp only
  have hok : cmOk ⟨#[97, 103, 101]⟩ ⟨#[115]⟩ ⟨#[55]⟩ = true := by decide
  have hs : (cmB ⟨#[97, 103, 101]⟩ ⟨#[115]⟩ ⟨#[55]⟩).size = 32 := by unfold cmB; rw [if_pos hok]; exact digB_size _
  rw [decide_eq_true hs, show nrB ⟨#[97, 103, 101]⟩ = true by decide]
  simp
theorem rf_there (ns ss vs : List ByteArray) (k : Nat) : ∀ f ∈ rfTo ns ss vs k, f.g = false := by
  intro f hf
  obtain ⟨j, -, rfl⟩ := List.mem_map.1 hf
  rfl
/-- A row that is right, whose fields are all there. -/
def RwR (k : ByteArray) (at_ : Int) (fs : List Fld) : Prop := rwB k at_ fs = true ∧ ∀ f ∈ fs, f.g = false
theorem ro_right {k : ByteArray} {at_ : Int} {ns ss vs : List ByteArray} (h : roC k at_ ns ss vs = 0) : RwR k at_ (roF k at_ ns ss vs) ∧ roK k at_ ns ss vs = k ∧ roA k at_ ns ss vs = at_ := by
  have e : roF k at_ ns ss vs = rfTo ns ss vs ns.length := if_pos h
  refine ⟨⟨?_, by rw [e]; exact rf_there _ _ _ _⟩, if_pos h, if_pos h⟩
  rw [e]
  unfold roC at h
  split at h
  · cases h
  · split at h
    · cases h
    · split at h
      · assumption
      · cases h
theorem set_grown (x : World) (g i : Nat) (v : Value) : x.grownBy (x.setCell ⟨g, i, none⟩ v) (some g) := grown_set (World.grownBy.refl _ _) i v
/-- Three stores into a box of one's own, beside a source and a row of one's own. -/
theorem put3 {w x : World} {B p : Nat} {a : Option Addr} {len cap g : Nat} {v : Value} {n : Nat} {xs : List Value} (hg : w.grownBy x (some p)) (hs : Src 126 B p a len cap x) (ho : x.ownsRow w.heap.size 122 5 v n xs) (hp : p < w.heap.size) (hw : w.heap.size ≤ g) (hn : v.ownBlock ≠ some g) (x0 x1 x2 : Value) :
    (((x.setCell ⟨g, 0, none⟩ x0).setCell ⟨g, 1, none⟩ x1).setCell ⟨g, 2, none⟩ x2).ownsRow w.heap.size 122 5 v n xs ∧ Src 126 B p a len cap (((x.setCell ⟨g, 0, none⟩ x0).setCell ⟨g, 1, none⟩ x1).setCell ⟨g, 2, none⟩ x2) ∧ w.grownBy (((x.setCell ⟨g, 0, none⟩ x0).setCell ⟨g, 1, none⟩ x1).setCell ⟨g, 2, none⟩ x2) (some p) := by
  have hr : ∀ j, some g = some j → p < j := fun j hj => by cases hj; omega
  have hr2 : ∀ j, some g = some j → w.heap.size ≤ j := fun j hj => by cases hj; exact hw
  refine ⟨ownsRow_setCell_other (ownsRow_setCell_other (ownsRow_setCell_other ho hn _) hn _) hn _, ?_, ?_⟩
  · exact ((hs.other (set_grown x g 0 x0) hr).other (set_grown _ g 1 x1) hr).other (set_grown _ g 2 x2) hr
  · exact touch_own (touch_own (touch_own hg (set_grown x g 0 x0) hr2) (set_grown _ g 1 x1) hr2) (set_grown _ g 2 x2) hr2
def kindS : List ByteArray := [userS, ⟨#[98, 105, 108, 108]⟩]
theorem kindS_small : ∀ t ∈ kindS, t.size ≤ 4 := by decide
theorem field_rowD (k : ByteArray) (t : Int) (q : Option Addr) (n c : Nat) (e : Int) (x : World) : (Instr.field 187 (.agg #[.string k, .int .i64 t, .slice q n c, .int .i64 e]) 0).run Tryz.prog x = .ok (.agg #[.string k, .int .i64 t, .slice q n c]) x := by kernel_rfl
set_option maxHeartbeats 8000000 in
theorem l07Row_any (B p : Nat) (a : Option Addr) (len cap : Nat) (at_ : Int) (w : World) (hs : Src 126 B p a len cap w) (h0 : 0 ≤ at_) (h1 : at_ ≤ 1000000) :
    Calls Tryz.prog 87 #[.pointer (some ⟨p, 0, none⟩), .int .i64 at_] w fun e w' =>
      (∃ (k : ByteArray) (fs : List Fld) (v : Value), e = .returned (.agg #[.string k, .int .i64 at_, v]) ∧ w'.ownsRow w.heap.size 122 5 v fs.length (fldRow fs) ∧ RwR k at_ fs) ∧ Src 126 B p a len cap w' ∧ w.grownBy w' (some p) := by
  have hp := hs.lt
  obtain ⟨W1, hW1⟩ : ∃ W1, W1 = w.alloc (.cells #[.string ⟨#[]⟩, .int .i64 0, .slice none 0 0] 100) := ⟨_, rfl⟩
  obtain ⟨W2, hW2⟩ : ∃ W2, W2 = W1.alloc (.cells #[.string ⟨#[109, 97, 105, 108]⟩, .string ⟨#[110, 97, 109, 101]⟩] 9) := ⟨_, rfl⟩
  obtain ⟨W3, hW3⟩ : ∃ W3, W3 = W2.alloc (.cells #[.string ⟨#[97, 103, 101]⟩] 9) := ⟨_, rfl⟩
  obtain ⟨W4, hW4⟩ : ∃ W4, W4 = W3.alloc (.cells #[.string ⟨#[97, 103, 101]⟩, .string ⟨#[109, 97, 105, 108]⟩, .string ⟨#[116, 111, 119, 110]⟩] 9) := ⟨_, rfl⟩
  obtain ⟨W5, hW5⟩ : ∃ W5, W5 = W4.alloc (.cells #[.slice (some ⟨w.heap.size + 1, 0, none⟩) 2 2, .slice (some ⟨w.heap.size + 1 + 1, 0, none⟩) 1 1, .slice (some ⟨w.heap.size + 1 + 1 + 1, 0, none⟩) 3 3] 25) := ⟨_, rfl⟩
  have HW : Hid (W5 = ((((w.alloc (.cells #[.string ⟨#[]⟩, .int .i64 0, .slice none 0 0] 100)).alloc (.cells #[.string ⟨#[109, 97, 105, 108]⟩, .string ⟨#[110, 97, 109, 101]⟩] 9)).alloc (.cells #[.string ⟨#[97, 103, 101]⟩] 9)).alloc (.cells #[.string ⟨#[97, 103, 101]⟩, .string ⟨#[109, 97, 105, 108]⟩, .string ⟨#[116, 111, 119, 110]⟩] 9)).alloc (.cells #[.slice (some ⟨w.heap.size + 1, 0, none⟩) 2 2, .slice (some ⟨w.heap.size + 1 + 1, 0, none⟩) 1 1, .slice (some ⟨w.heap.size + 1 + 1 + 1, 0, none⟩) 3 3] 25)) := by rw [hW5, hW4, hW3, hW2, hW1]; exact rfl
  have z1 : W1.heap.size = w.heap.size + 1 := by rw [hW1]; simp
  have z2 : W2.heap.size = w.heap.size + 1 + 1 := by rw [hW2, szA, z1]
  have z3 : W3.heap.size = w.heap.size + 1 + 1 + 1 := by rw [hW3, szA, z2]
  have z4 : W4.heap.size = w.heap.size + 1 + 1 + 1 + 1 := by rw [hW4, szA, z3]
  have a1 : Below W1.heap.size W1 W2 := by rw [hW2]; exact (Below.refl _ _).alloc (Nat.le_refl _) _
  have a2 : Below W2.heap.size W2 W3 := by rw [hW3]; exact (Below.refl _ _).alloc (Nat.le_refl _) _
  have a3 : Below W3.heap.size W3 W4 := by rw [hW4]; exact (Below.refl _ _).alloc (Nat.le_refl _) _
  have a4 : Below W4.heap.size W4 W5 := by rw [hW5]; exact (Below.refl _ _).alloc (Nat.le_refl _) _
  have a0 : Below w.heap.size w W1 := by rw [hW1]; exact (Below.refl _ _).alloc (Nat.le_refl _) _
  have R5 : Hid (Bxs W5 w.heap.size 100 #[.string ByteArray.empty, .int .i64 0, .slice none 0 0]) := by
    have h : Bxs W1 w.heap.size 100 #[.string ByteArray.empty, .int .i64 0, .slice none 0 0] := by rw [hW1]; exact Bxs.new _ _ _
    exact ((h.below a1).below a2 |>.below a3).below a4
  have N0 : Hid (BlkS W5 (w.heap.size + 1) (nmS 0)) := by
    have h : BlkS W2 (w.heap.size + 1) (nmS 0) := by rw [hW2, ← z1]; exact alloc_str W1 (nmS 0)
    exact ((h.below a2 h.lt).below a3 (h.below a2 h.lt).lt).below a4 ((h.below a2 h.lt).below a3 (h.below a2 h.lt).lt).lt
  have N1 : Hid (BlkS W5 (w.heap.size + 1 + 1) (nmS 1)) := by
    have h : BlkS W3 (w.heap.size + 1 + 1) (nmS 1) := by rw [hW3, ← z2]; exact alloc_str W2 (nmS 1)
    exact (h.below a3 h.lt).below a4 (h.below a3 h.lt).lt
  have N2 : Hid (BlkS W5 (w.heap.size + 1 + 1 + 1) (nmS 2)) := by
    have h : BlkS W4 (w.heap.size + 1 + 1 + 1) (nmS 2) := by rw [hW4, ← z3]; exact alloc_str W3 (nmS 2)
    exact h.below a4 h.lt
  have D5 : Hid (Bxs W5 (w.heap.size + 1 + 1 + 1 + 1) 25 #[.slice (some ⟨w.heap.size + 1, 0, none⟩) 2 2, .slice (some ⟨w.heap.size + 1 + 1, 0, none⟩) 1 1, .slice (some ⟨w.heap.size + 1 + 1 + 1, 0, none⟩) 3 3]) := by rw [hW5, ← z4]; exact Bxs.new _ _ _
  have b5 : Below w.heap.size w W5 := (((a0.trans (a1.mono (by omega))).trans (a2.mono (by omega))).trans (a3.mono (by omega))).trans (a4.mono (by omega))
  have S5 : Hid (Src 126 B p a len cap W5) := hs.below b5
  have G5 : Hid (w.grownBy W5 (some p)) := grown_below b5
  clear hW1 hW2 hW3 hW4 hW5 z1 z2 z3 z4 a0 a1 a2 a3 a4 b5 hs
  go_enter Tryz.func87, Tryz.ntmps87
  go_wp2_with fail
  rw [← HW.out]
  clear HW
  refine (n_any B p a len cap 3 W5 S5.out (by omega)).mono ?_
  rintro e w6 ⟨⟨r, rfl, r0, r1, -⟩, hs6, hg6⟩
  have r2 := r1 (by omega)
  obtain ⟨R, rfl⟩ := Int.eq_ofNat_of_zero_le r0
  obtain ⟨g, ns, hcell, hnm, hgw, hnl, hnz⟩ : ∃ (g : Nat) (ns : List ByteArray), w6.cell? ⟨w.heap.size + 1 + 1 + 1 + 1, R, none⟩ = some (.slice (some ⟨g, 0, none⟩) ns.length ns.length) ∧ BlkS w6 g ns ∧ w.heap.size ≤ g ∧ ns.length ≤ 3 ∧ ∀ x ∈ ns, x.size ≤ 4 := by
    have d6 := D5.out.grown hg6 (fun e => by cases e; omega)
    have n0 := N0.out.touch hg6 (by omega)
    have n1 := N1.out.touch hg6 (by omega)
    have n2 := N2.out.touch hg6 (by omega)
    match R, r2 with
    | 0, _ => exact ⟨_, nmS 0, d6.cell 0, n0, by omega, by decide, by decide⟩
    | 1, _ => exact ⟨_, nmS 1, d6.cell 1, n1, by omega, by decide, by decide⟩
    | 2, _ => exact ⟨_, nmS 2, d6.cell 2, n2, by omega, by decide, by decide⟩
    | R + 3, h => omega
  have S6 : Hid (LrS w B p a len cap g ns (.slice (some ⟨w6.heap.size, 0, none⟩) 0 0) (.slice (some ⟨w6.heap.size + 1, 0, none⟩) 0 0) [] [] ((w6.alloc (.cells #[] 9)).alloc (.cells #[] 9))) := by
    have hsz : w.heap.size ≤ w6.heap.size := (touch_trans G5.out hg6).size
    have hng := hnm.lt
    have hz : (w6.alloc (.cells #[] 9)).heap.size = w6.heap.size + 1 := szA _ _
    have e1 : (w6.alloc (.cells #[] 9)).ownsRow w.heap.size 9 1 (.slice (some ⟨w6.heap.size, 0, none⟩) 0 0) ([] : List ByteArray).length (strRow []) := ownS_mono (ownS_none w6) hsz
    have e2 : ((w6.alloc (.cells #[] 9)).alloc (.cells #[] 9)).ownsRow w.heap.size 9 1 (.slice (some ⟨w6.heap.size + 1, 0, none⟩) 0 0) ([] : List ByteArray).length (strRow []) := by
      have := ownS_none (w6.alloc (.cells #[] 9))
      rw [hz] at this
      exact ownS_mono this (by omega)
    have b : Below w6.heap.size w6 ((w6.alloc (.cells #[] 9)).alloc (.cells #[] 9)) := alB ((Below.refl _ _).alloc (Nat.le_refl _) _) _
    exact ⟨hs6.below b, touch_below (touch_trans G5.out hg6) b, (R5.out.grown hg6 (fun e => by cases e; omega)).below b, hnm.below b hng, e1.alloc _, e2, fun j hj he => by
        have q1 : w6.heap.size = j := by simpa [Value.ownBlock] using hj
        have q2 : w6.heap.size + 1 = j := by simpa [Value.ownBlock] using he
        omega, fun e => by
        have q1 : w6.heap.size = g := by simpa [Value.ownBlock] using e
        omega, fun e => by
        have q1 : w6.heap.size + 1 = g := by simpa [Value.ownBlock] using e
        omega, hp, hgw⟩
  clear hs6 hg6 hnm D5 N0 N1 N2 R5 S5 G5 r1 r0
  have i3 : (R : Int) < 3 := by omega
  go_wp2_with fail
  go_loopw [6, 7, 8] (fun v1 v2 i wr => ∃ (k : Nat) (ss vs : List ByteArray) (u1 u2 : Value), u1 = v1 ∧ u2 = v2 ∧ i = .int .i64 k ∧ k ≤ ns.length ∧ Hid (ss.length = k ∧ vs.length = k) ∧ Hid ((∀ x ∈ ss, x.size ≤ 9) ∧ ∀ x ∈ vs, x.size ≤ 17) ∧ Hid (LrS w B p a len cap g ns u1 u2 ss vs wr)) (fun _ _ i _ => ns.length - (Go.RowKit.intOf i).toNat)
  case atStart => exact ⟨0, [], [], _, _, rfl, rfl, rfl, Nat.zero_le _, ⟨rfl, rfl⟩, ⟨(fun x hx => by simp at hx), (fun x hx => by simp at hx)⟩, S6⟩
  case round =>
    clear S6 hcell
    obtain ⟨k, ss, vs, v1, v2, rfl, rfl, rfl, hk, HL, HZ, HS⟩ := hrel
    by_cases hlt : k < ns.length
    · have i1 : (k : Int) < ns.length := by omega
      go_wp2_with fail
      refine (l07Salt_any B p a len cap wr HS.out.src).mono ?_
      rintro e y1 ⟨⟨s1, rfl, hs1⟩, hsy, hgy⟩
      have S1 := HS.out.draw hsy hgy
      obtain ⟨g1, c1, y2, hrun1, S2⟩ := S1.app1 s1 (by have := HL.out.1; omega)
      have HS2 : Hid (LrS w B p a len cap g ns (.slice (some ⟨g1, 0, none⟩) (ss.length + 1) c1) v2 (ss ++ [s1]) vs y2) := S2
      clear S1 S2 hsy hgy HS
      go_wp2_with (at_builtin; refine wpList_append_run rfl _ _ _ rfl _ _ _ _ rfl rfl hrun1 ?_)
      refine (l07Value_any B p a len cap y2 HS2.out.src).mono ?_
      rintro e y3 ⟨⟨s2, rfl, hs2⟩, hsy, hgy⟩
      have S1 := HS2.out.draw hsy hgy
      obtain ⟨g2, c2, y4, hrun2, S2⟩ := S1.swap.app1 s2 (by have := HL.out.2; omega)
      have HS4 : Hid (LrS w B p a len cap g ns (.slice (some ⟨g1, 0, none⟩) (ss.length + 1) c1) (.slice (some ⟨g2, 0, none⟩) (vs.length + 1) c2) (ss ++ [s1]) (vs ++ [s2]) y4) := S2.swap
      have HL2 : Hid ((ss ++ [s1]).length = k + 1 ∧ (vs ++ [s2]).length = k + 1) := ⟨by rw [List.length_append, HL.out.1]; rfl, by rw [List.length_append, HL.out.2]; rfl⟩
      have HZ2 : Hid ((∀ x ∈ ss ++ [s1], x.size ≤ 9) ∧ ∀ x ∈ vs ++ [s2], x.size ≤ 17) := ⟨fun x hx => by
          rcases List.mem_append.1 hx with h | h
          · exact HZ.out.1 x h
          · obtain rfl := List.mem_singleton.1 h; exact hs1, fun x hx => by
          rcases List.mem_append.1 hx with h | h
          · exact HZ.out.2 x h
          · obtain rfl := List.mem_singleton.1 h; exact hs2⟩
      clear S1 S2 hsy hgy HS2 HL HZ hrun1
      go_wp2_with (at_builtin; refine wpList_append_run rfl _ _ _ rfl _ _ _ _ rfl rfl hrun2 ?_)
      go_roundw
      case rel => exact ⟨k + 1, ss ++ [s1], vs ++ [s2], _, _, rfl, rfl, by go_num, by omega, HL2, HZ2, HS4⟩
      case measure => simp [Go.RowKit.intOf]; omega
    · have hkn : ¬ (k : Int) < ns.length := by omega
      obtain ⟨z1, hz1⟩ : ∃ z1, z1 = wr.alloc (.cells #[.string ⟨#[117, 115, 101, 114]⟩, .string ⟨#[98, 105, 108, 108]⟩] 9) := ⟨_, rfl⟩
      have HZ1 : Hid (z1 = wr.alloc (.cells #[.string ⟨#[117, 115, 101, 114]⟩, .string ⟨#[98, 105, 108, 108]⟩] 9)) := hz1
      have BK : Hid (BlkS z1 wr.heap.size kindS) := by rw [hz1]; exact alloc_str wr kindS
      have S1 : Hid (LrS w B p a len cap g ns v1 v2 ss vs z1) := by rw [hz1]; exact HS.out.al _
      have hne : wr.heap.size ≠ p := by have := HS.out.src.lt; omega
      clear hz1 HS
      go_wp2_with fail
      rw [← HZ1.out]
      refine (pick_any B p a len cap wr.heap.size kindS z1 S1.out.src BK.out hne (by decide) (by decide)).mono ?_
      rintro e y1 ⟨⟨kd, hkd, rfl⟩, hsy, hgy⟩
      have S2 := S1.out.draw hsy hgy
      obtain ⟨p2, q2, rfl, hq2, t2⟩ := ownS_form S2.own1
      obtain ⟨p3, q3, rfl, hq3, t3⟩ := ownS_form S2.own2
      have hkz := kindS_small kd hkd
      have HRO := specRowOf_any kd at_ (some ⟨g, 0, none⟩) ns.length ns p2 q2 ss p3 q3 vs y1 S2.nm.txt t2 t3 (Nat.le_refl _) hq2 hq3 (by unfold maxLen; omega) (fun x hx => by have := hnz x hx; unfold maxLen; omega) (fun x hx => by have := HZ.out.1 x hx; unfold maxLen; omega) (fun x hx => by have := HZ.out.2 x hx; unfold maxLen; omega)
      have HS2 : Hid (LrS w B p a len cap g ns (.slice p2 ss.length q2) (.slice p3 vs.length q3) ss vs y1) := S2
      have HRR : Hid (roC kd at_ ns ss vs = 0 → RwR kd at_ (roF kd at_ ns ss vs) ∧ roK kd at_ ns ss vs = kd ∧ roA kd at_ ns ss vs = at_) := ro_right
      clear S1 S2 hsy hgy BK HZ1 HZ HL t2 t3 hkz hkd
      generalize roC kd at_ ns ss vs = C at *
      generalize roK kd at_ ns ss vs = RK at *
      generalize roA kd at_ ns ss vs = RA at *
      generalize roF kd at_ ns ss vs = RF at *
      go_wp2_with fail
      refine HRO.mono ?_
      rintro e y2 ⟨v, rfl, own, b2⟩
      obtain ⟨q, cc, rfl, hcc, -⟩ := ownF_form own
      go_upto_region 10 with fail
      obtain ⟨y3, hy3⟩ : ∃ y3, y3 = y2.alloc (.cells #[.string RK, .int .i64 RA, .slice q RF.length cc, .int .i64 C] 187) := ⟨_, rfl⟩
      rw [← hy3]
      obtain ⟨Z, hZ⟩ : ∃ Z, Z = y2.heap.size := ⟨_, rfl⟩
      rw [← hZ]
      have BZ : Bxs y3 Z 187 #[.string RK, .int .i64 RA, .slice q RF.length cc, .int .i64 C] := by rw [hy3, hZ]; exact Bxs.new _ _ _
      have b3 : Below y1.heap.size y1 y3 := by rw [hy3]; exact alB b2 _
      have hsz : w.heap.size + 1 ≤ y1.heap.size := HS2.out.res.lt
      have own3 : Hid (y3.ownsRow y1.heap.size 122 5 (.slice q RF.length cc) RF.length (fldRow RF)) := by rw [hy3]; exact own.alloc _
      have G3 : Hid (w.grownBy y3 (some p)) := touch_below HS2.out.gr b3
      have S3 : Hid (Src 126 B p a len cap y3) := HS2.out.src.below b3
      have R3 : Hid (Bxs y3 w.heap.size 100 #[.string ByteArray.empty, .int .i64 0, .slice none 0 0]) := HS2.out.res.below b3
      obtain ⟨c0, c1, c2, c3⟩ := BZ.four
      clear hy3 hZ BZ b3 own b2 HS2 HRO
      cases hC : (C != 0) with
      | false =>
        have hC0 : C = 0 := by simpa using hC
        obtain ⟨rr, rfl, rfl⟩ := HRR.out hC0
        have hPut := fun x0 x1 x2 => put3 G3.out S3.out (ownS_mono own3.out (show w.heap.size ≤ y1.heap.size by omega)) hp (Nat.le_refl _) (fun e => by have := (own3.out.lt _ e).1; omega) x0 x1 x2
        have HP : Hid (∀ x0 x1 x2 : Value, _) := hPut
        have HRr : Hid (RwR RK RA RF) := rr
        have f0 := R3.out.fr 0
        have f1 := R3.out.fr 1
        have f2 := R3.out.fr 2
        have d0 : y3.cell? ⟨w.heap.size, 0, none⟩ = some (.string ByteArray.empty) := R3.out.cell 0
        have d1 : y3.cell? ⟨w.heap.size, 1, none⟩ = some (.int .i64 0) := R3.out.cell 1
        have d2 : y3.cell? ⟨w.heap.size, 2, none⟩ = some (.slice none 0 0) := R3.out.cell 2
        clear hPut rr HRR G3 S3 own3 R3
        go_wp2_with fail
        refine bodyPost_ret (v := .agg #[.string RK, .int .i64 RA, .slice q RF.length cc]) (by simp [results, Tryz.results87, go_sem, d0, d1, d2]) rfl ?_
        obtain ⟨o1, o2, o3⟩ := HP.out (.string RK) (.int .i64 RA) (.slice q RF.length cc)
        exact ⟨⟨RK, RF, _, rfl, o1, HRr.out⟩, o2, o3⟩
      | true =>
        have hC0 : (C == 0) = false := by simpa using hC
        clear HRR c0 c1 c2 hcc
        obtain ⟨u1, hu1⟩ : ∃ u1, u1 = ((y3.alloc (.cells #[.string ⟨#[97, 103, 101]⟩] 9)).alloc (.cells #[.string ⟨#[115]⟩] 9)).alloc (.cells #[.string ⟨#[55]⟩] 9) := ⟨_, rfl⟩
        have HU1 : Hid (u1 = ((y3.alloc (.cells #[.string ⟨#[97, 103, 101]⟩] 9)).alloc (.cells #[.string ⟨#[115]⟩] 9)).alloc (.cells #[.string ⟨#[55]⟩] 9)) := hu1
        have bu : Below y3.heap.size y3 u1 := by rw [hu1]; exact alB (alB ((Below.refl _ _).alloc (Nat.le_refl _) _) _) _
        have tA : TxtAt u1 (some ⟨y3.heap.size, 0, none⟩) [⟨#[97, 103, 101]⟩] := by
          rw [hu1]
          exact (((alloc_str y3 [⟨#[97, 103, 101]⟩]).txt.below ((Below.refl _ _).alloc (Nat.le_refl _) _)).below ((Below.refl _ _).alloc (Nat.le_refl _) _))
        have tB : TxtAt u1 (some ⟨y3.heap.size + 1, 0, none⟩) [⟨#[115]⟩] := by
          rw [hu1]
          have h := (alloc_str (y3.alloc (.cells #[.string ⟨#[97, 103, 101]⟩] 9)) [⟨#[115]⟩]).txt
          rw [szA] at h
          exact h.below ((Below.refl _ _).alloc (Nat.le_refl _) _)
        have tC : TxtAt u1 (some ⟨y3.heap.size + 1 + 1, 0, none⟩) [⟨#[55]⟩] := by
          rw [hu1]
          have h := (alloc_str ((y3.alloc (.cells #[.string ⟨#[97, 103, 101]⟩] 9)).alloc (.cells #[.string ⟨#[115]⟩] 9)) [⟨#[55]⟩]).txt
          rw [szA, szA] at h
          exact h
        have HFB := specRowOf_any userS at_ (some ⟨y3.heap.size, 0, none⟩) 1 [⟨#[97, 103, 101]⟩] (some ⟨y3.heap.size + 1, 0, none⟩) 1 [⟨#[115]⟩] (some ⟨y3.heap.size + 1 + 1, 0, none⟩) 1 [⟨#[55]⟩] u1 tA tB tC (by decide) (by decide) (by decide) (by decide) (by decide) (by decide) (by decide)
        have hfb := fb_right at_ h0 h1
        obtain ⟨rr, e1, e2⟩ := ro_right hfb
        rw [hfb, e1, e2] at HFB
        have HFB' : Hid (Calls Tryz.prog 140 #[.string ⟨#[117, 115, 101, 114]⟩, .int .i64 at_, .slice (some ⟨y3.heap.size, 0, none⟩) 1 1, .slice (some ⟨y3.heap.size + 1, 0, none⟩) 1 1, .slice (some ⟨y3.heap.size + 1 + 1, 0, none⟩) 1 1] u1 fun e w' => ∃ v, e = .returned (.agg #[.string userS, .int .i64 at_, v, .int .i64 0]) ∧ w'.ownsRow u1.heap.size 122 5 v (roF userS at_ [⟨#[97, 103, 101]⟩] [⟨#[115]⟩] [⟨#[55]⟩]).length (fldRow (roF userS at_ [⟨#[97, 103, 101]⟩] [⟨#[115]⟩] [⟨#[55]⟩])) ∧ Below u1.heap.size u1 w') := HFB
        generalize roF userS at_ [⟨#[97, 103, 101]⟩] [⟨#[115]⟩] [⟨#[55]⟩] = FF at *
        have HRr : Hid (RwR userS at_ FF) := rr
        have HBu : Hid (Below y3.heap.size y3 u1) := bu
        have hfr := field_rowD
        clear hu1 tA tB tC HFB hfb rr e1 e2 bu
        go_wp2_with fail
        rw [← HU1.out]
        refine HFB'.out.mono ?_
        rintro e y5 ⟨v5, rfl, own5, b5⟩
        obtain ⟨q5, cc5, rfl, hcc5, -⟩ := ownF_form own5
        have bb := chainB HBu.out b5
        have hsu : y3.heap.size ≤ u1.heap.size := HBu.out.size
        have hsy := R3.out.lt
        have hPut := fun x0 x1 x2 => put3 (touch_below G3.out bb) (S3.out.below bb) (ownS_mono own5 (show w.heap.size ≤ u1.heap.size by omega)) hp (Nat.le_refl _) (fun e => by have := (own5.lt _ e).1; omega) x0 x1 x2
        have HP : Hid (∀ x0 x1 x2 : Value, _) := hPut
        have R5 := R3.out.below bb
        have f0 := R5.fr 0
        have f1 := R5.fr 1
        have f2 := R5.fr 2
        have d0 : y5.cell? ⟨w.heap.size, 0, none⟩ = some (.string ByteArray.empty) := R5.cell 0
        have d1 : y5.cell? ⟨w.heap.size, 1, none⟩ = some (.int .i64 0) := R5.cell 1
        have d2 : y5.cell? ⟨w.heap.size, 2, none⟩ = some (.slice none 0 0) := R5.cell 2
        clear hPut G3 S3 own3 R3 own5 bb b5 R5 HBu HFB' HU1
        go_wp2_with fail
        refine bodyPost_ret (v := .agg #[.string userS, .int .i64 at_, .slice q5 FF.length cc5]) (by simp [results, Tryz.results87, go_sem, d0, d1, d2]) rfl ?_
        obtain ⟨o1, o2, o3⟩ := HP.out (.string userS) (.int .i64 at_) (.slice q5 FF.length cc5)
        exact ⟨⟨userS, FF, _, rfl, o1, HRr.out⟩, o2, o3⟩
end Go.Proofs.YtonleickhincgaaGreatDoor
/-
  What the specification's l07Copy and Forget answer.
  Conditions: the cells of Fields hold the fields.
-/
namespace Go.Proofs.YtonleickhincgaaGreatDoor
open Go.RowKit Go.Lib
set_option linter.unusedVariables false
set_option maxRecDepth 20000

theorem copy_flds (w : World) (g : Nat) (hg : w.heap[g]? = some (.cells #[] 122 (0, 0))) (p : Option Addr) (cap : Nat) (fs : List Fld) (hp : FldAt w p fs) (h0 : 0 < fs.length) (hn : fs.length ≤ 1000) :
    ∃ b c w', (Builtin.append_ #[98, 98] 98 #[.slice (some ⟨g, 0, none⟩) 0 0, .slice p fs.length cap]).run Tryz.prog w = .ok (.slice (some ⟨b, 0, none⟩) fs.length c) w' ∧ w'.ownsRow w.heap.size 122 5 (.slice (some ⟨b, 0, none⟩) fs.length c) fs.length (fldRow fs) ∧ Below w.heap.size w w' ∧ fs.length ≤ c := by
  obtain ⟨i0, hi, hz0, hz1, hz2⟩ := info_parts infoFld
  obtain ⟨b, off, rfl, hb, _⟩ := hp 0 h0
  obtain ⟨v', w', h1, h2, h3⟩ := run_append_arg_grows (P := Tryz.prog) w 98 98 122 i0 _ 5 72 Tryz.underlying98 hi hz0 hz1 hz2 rfl (by omega) ⟨g, 0, none⟩ 0 0 [] rfl (fun j u hu => by simp at hu) ⟨b, off, none⟩ fs.length cap (fldRow fs) (fldRow_len fs) (fun j u hu => by
    have hj : j < fs.length * 5 := by
      rcases Nat.lt_or_ge j (fs.length * 5) with q | q
      · exact q
      · rw [List.getElem?_eq_none (by rw [fldRow_len]; exact q)] at hu; cases hu
    have hadd : (⟨b, off, none⟩ : Addr).add j = ⟨b, off + j, none⟩ := by unfold Addr.add; split <;> simp_all
    have hc := hp.at (j / 5) (by omega)
    have hr := fldRow_at fs (j / 5) (by omega)
    rw [hadd]
    obtain ⟨c0, c1, c2, c3, c4⟩ := hc
    obtain ⟨r0, r1, r2, r3, r4⟩ := hr
    rw [Nat.add_assoc] at c1 c2 c3 c4
    have hm : j % 5 < 5 := Nat.mod_lt _ (by omega)
    have hd : j = j / 5 * 5 + j % 5 := by omega
    match hq : j % 5, hm with
    | 0, _ => rw [hq, Nat.add_zero] at hd; rw [← hd] at c0 r0; rw [c0, ← hu, r0]
    | 1, _ => rw [hq] at hd; rw [← hd] at c1 r1; rw [c1, ← hu, r1]
    | 2, _ => rw [hq] at hd; rw [← hd] at c2 r2; rw [c2, ← hu, r2]
    | 3, _ => rw [hq] at hd; rw [← hd] at c3 r3; rw [c3, ← hu, r3]
    | 4, _ => rw [hq] at hd; rw [← hd] at c4 r4; rw [c4, ← hu, r4]) (by omega) (by unfold maxLen; omega) (by omega)
  rw [Nat.zero_add, List.nil_append] at h2
  have h2' := h2
  rcases h2'.2 with ⟨hv, hn0⟩ | ⟨b', c', cur, rfl, hb1, hb2, hb3, -⟩
  · omega
  · exact ⟨_, _, w', h1, h2, below_none h3, hb3⟩
set_option maxHeartbeats 1000000 in
theorem l07Copy_any (k : ByteArray) (at_ : Int) (q : Option Addr) (c : Nat) (fs : List Fld) (w : World) (hf : FldAt w q fs) (h0 : 0 < fs.length) (hn : fs.length ≤ 1000) :
    Calls Tryz.prog 137 #[.agg #[.string k, .int .i64 at_, .slice q fs.length c]] w fun e w' => ∃ b cc, e = .returned (.agg #[.string k, .int .i64 at_, .slice (some ⟨b, 0, none⟩) fs.length cc]) ∧ w'.ownsRow w.heap.size 122 5 (.slice (some ⟨b, 0, none⟩) fs.length cc) fs.length (fldRow fs) ∧ Below w.heap.size w w' := by
  obtain ⟨W2, hW2⟩ : ∃ W2, W2 = (w.alloc (.cells #[.string k, .int .i64 at_, .slice q fs.length c] 100)).alloc (.cells #[.string ⟨#[]⟩, .int .i64 0, .slice none 0 0] 100) := ⟨_, rfl⟩
  have HW2 : Hid (W2 = (w.alloc (.cells #[.string k, .int .i64 at_, .slice q fs.length c] 100)).alloc (.cells #[.string ⟨#[]⟩, .int .i64 0, .slice none 0 0] 100)) := hW2
  have hs1 : (w.alloc (.cells #[.string k, .int .i64 at_, .slice q fs.length c] 100)).heap.size = w.heap.size + 1 := by simp
  have hs2 : W2.heap.size = w.heap.size + 2 := by rw [hW2]; simp
  have K0 : Bxs W2 w.heap.size 100 #[.string k, .int .i64 at_, .slice q fs.length c] := by rw [hW2]; exact (Bxs.new _ _ _).alloc _
  have K1 : Bxs W2 (w.heap.size + 1) 100 #[.string ByteArray.empty, .int .i64 0, .slice none 0 0] := by rw [hW2, ← hs1]; exact Bxs.new _ _ _
  have B2 : Below w.heap.size w W2 := by rw [hW2]; exact ((Below.refl _ _).alloc (Nat.le_refl _) _).alloc (by rw [hs1]; omega) _
  have B3 : Below W2.heap.size W2 (W2.alloc (.cells #[] 122)) := (Below.refl _ _).alloc (Nat.le_refl _) _
  obtain ⟨b, cc, y, hrun, hown, hbel, hcc⟩ := copy_flds (W2.alloc (.cells #[] 122)) W2.heap.size (MapKept.heap_alloc W2 _).1 q c fs (hf.below (chainB B2 B3)) h0 hn
  have Ky0 := K0.below (chainB B3 hbel)
  have Ky1 := K1.below (chainB B3 hbel)
  have HE : Hid (∀ x0 x1 x2 x3 : Value, ((((y.setCell ⟨w.heap.size, 2, none⟩ x3).setCell ⟨w.heap.size + 1, 0, none⟩ x0).setCell ⟨w.heap.size + 1, 1, none⟩ x1).setCell ⟨w.heap.size + 1, 2, none⟩ x2).ownsRow w.heap.size 122 5 (.slice (some ⟨b, 0, none⟩) fs.length cc) fs.length (fldRow fs) ∧ Below w.heap.size w ((((y.setCell ⟨w.heap.size, 2, none⟩ x3).setCell ⟨w.heap.size + 1, 0, none⟩ x0).setCell ⟨w.heap.size + 1, 1, none⟩ x1).setCell ⟨w.heap.size + 1, 2, none⟩ x2)) := by
    intro x0 x1 x2 x3
    have n0 := ownF_ne hown Ky0 (by decide)
    have n1 := ownF_ne hown Ky1 (by decide)
    refine ⟨ownS_mono (ownsRow_setCell_other (ownsRow_setCell_other (ownsRow_setCell_other (ownsRow_setCell_other hown n0 _) n1 _) n1 _) n1 _) (by rw [szA]; omega), below_set3 ((chainB B2 (chainB B3 hbel)).setCell (Nat.le_refl _) _) (by omega) _ _ _⟩
  have u2 : (W2.alloc (.cells #[] 122)).cell? ⟨w.heap.size, 2, none⟩ = some (.slice q fs.length c) := (K0.alloc _).cell 2
  obtain ⟨x0, x1, x2⟩ : y.cell? ⟨w.heap.size, 0, none⟩ = some (.string k) ∧ y.cell? ⟨w.heap.size, 1, none⟩ = some (.int .i64 at_) ∧ y.cell? ⟨w.heap.size, 2, none⟩ = some (.slice q fs.length c) := ⟨Ky0.cell 0, Ky0.cell 1, Ky0.cell 2⟩
  obtain ⟨y0, y1, y2⟩ : y.cell? ⟨w.heap.size + 1, 0, none⟩ = some (.string ByteArray.empty) ∧ y.cell? ⟨w.heap.size + 1, 1, none⟩ = some (.int .i64 0) ∧ y.cell? ⟨w.heap.size + 1, 2, none⟩ = some (.slice none 0 0) := ⟨Ky1.cell 0, Ky1.cell 1, Ky1.cell 2⟩
  have f2 := Ky0.fr 2
  have g0 := Ky1.fr 0
  have g1 := Ky1.fr 1
  have g2 := Ky1.fr 2
  clear hown hbel B2 B3 K0 K1 Ky0 Ky1 hf hW2 hs1 hs2
  go_enter Tryz.func137, Tryz.ntmps137
  go_upto_region 1 with fail
  rw [← HW2.out]
  go_wp2_with (at_builtin; refine wpList_append_run rfl _ _ _ rfl _ _ _ _ rfl rfl hrun ?_)
  refine bodyPost_ret (v := .agg #[.string k, .int .i64 at_, .slice (some ⟨b, 0, none⟩) fs.length cc]) (by simp [results, Tryz.results137, go_sem, y0, y1, y2]) rfl ?_
  exact ⟨_, _, rfl, HE.out _ _ _ _⟩
set_option maxHeartbeats 4000000 in
theorem specForget_any (k : ByteArray) (at_ : Int) (q : Option Addr) (c : Nat) (fs : List Fld) (ix : Int) (w : World) (hf : FldAt w q fs) (hn : fs.length ≤ 1048576) (hc : fs.length ≤ c) (hk : k.size ≤ maxLen) (hz : FldsLe fs) :
    Calls Tryz.prog 146 #[.agg #[.string k, .int .i64 at_, .slice q fs.length c], .int .i64 ix] w fun e w' => ∃ v, e = .returned (.agg #[.string (fgK k at_ fs ix), .int .i64 (fgA k at_ fs ix), v, .int .i64 (fgC k at_ fs ix)]) ∧ w'.ownsRow w.heap.size 122 5 v (fgF k at_ fs ix).length (fldRow (fgF k at_ fs ix)) ∧ Below w.heap.size w w' := by
  obtain ⟨W2, hW2⟩ : ∃ W2, W2 = (w.alloc (.cells #[.string k, .int .i64 at_, .slice q fs.length c] 100)).alloc (.cells #[.string ⟨#[]⟩, .int .i64 0, .slice none 0 0, .int .i64 0] 187) := ⟨_, rfl⟩
  have HW2 : Hid (W2 = (w.alloc (.cells #[.string k, .int .i64 at_, .slice q fs.length c] 100)).alloc (.cells #[.string ⟨#[]⟩, .int .i64 0, .slice none 0 0, .int .i64 0] 187)) := hW2
  have hs1 : (w.alloc (.cells #[.string k, .int .i64 at_, .slice q fs.length c] 100)).heap.size = w.heap.size + 1 := by simp
  have HS2 : Hid (W2.heap.size = w.heap.size + 2) := by rw [hW2]; show _ = _; simp
  have K0 : Hid (Bxs W2 w.heap.size 100 #[.string k, .int .i64 at_, .slice q fs.length c]) := by rw [hW2]; exact (Bxs.new _ _ _).alloc _
  have K1 : Hid (Bxs W2 (w.heap.size + 1) 187 #[.string ByteArray.empty, .int .i64 0, .slice none 0 0, .int .i64 0]) := by rw [hW2, ← hs1]; exact Bxs.new _ _ _
  have B2 : Hid (Below w.heap.size w W2) := by rw [hW2]; exact ((Below.refl _ _).alloc (Nat.le_refl _) _).alloc (by rw [hs1]; omega) _
  have HT : Hid (FldAt W2 q fs) := hf.below B2.out
  have HX : Hid (∀ x, Below W2.heap.size W2 x → x.cell? ⟨w.heap.size, 0, none⟩ = some (.string k) ∧ x.cell? ⟨w.heap.size, 1, none⟩ = some (.int .i64 at_) ∧ x.cell? ⟨w.heap.size, 2, none⟩ = some (.slice q fs.length c)) := fun x hb => ⟨(K0.out.below hb).cell 0, (K0.out.below hb).cell 1, (K0.out.below hb).cell 2⟩
  have HR : Hid (∀ x, Bxs x (w.heap.size + 1) 187 #[.string ByteArray.empty, .int .i64 0, .slice none 0 0, .int .i64 0] → x.cell? ⟨w.heap.size + 1, 0, none⟩ = some (.string ByteArray.empty) ∧ x.cell? ⟨w.heap.size + 1, 1, none⟩ = some (.int .i64 0) ∧ x.cell? ⟨w.heap.size + 1, 2, none⟩ = some (.slice none 0 0) ∧ x.cell? ⟨w.heap.size + 1, 3, none⟩ = some (.int .i64 0) ∧ x.frozen? ⟨w.heap.size + 1, 0, none⟩ = false ∧ x.frozen? ⟨w.heap.size + 1, 1, none⟩ = false ∧ x.frozen? ⟨w.heap.size + 1, 2, none⟩ = false ∧ x.frozen? ⟨w.heap.size + 1, 3, none⟩ = false) := fun x hb => ⟨hb.cell 0, hb.cell 1, hb.cell 2, hb.cell 3, hb.fr 0, hb.fr 1, hb.fr 2, hb.fr 3⟩
  have HEr : Hid (∀ (y : World) (c : Int) (x0 x1 x2 x3 : Value), Below W2.heap.size W2 y → fgC k at_ fs ix = c → c ≠ 0 → ∃ v, Ending.returned (.agg #[.string ByteArray.empty, .int .i64 0, .slice none 0 0, .int .i64 c]) = .returned (.agg #[.string (fgK k at_ fs ix), .int .i64 (fgA k at_ fs ix), v, .int .i64 (fgC k at_ fs ix)]) ∧ ((((y.setCell ⟨w.heap.size + 1, 0, none⟩ x0).setCell ⟨w.heap.size + 1, 1, none⟩ x1).setCell ⟨w.heap.size + 1, 2, none⟩ x2).setCell ⟨w.heap.size + 1, 3, none⟩ x3).ownsRow w.heap.size 122 5 v (fgF k at_ fs ix).length (fldRow (fgF k at_ fs ix)) ∧ Below w.heap.size w ((((y.setCell ⟨w.heap.size + 1, 0, none⟩ x0).setCell ⟨w.heap.size + 1, 1, none⟩ x1).setCell ⟨w.heap.size + 1, 2, none⟩ x2).setCell ⟨w.heap.size + 1, 3, none⟩ x3)) := by
    intro y c x0 x1 x2 x3 hb hc hn
    have hn' : ¬ fgC k at_ fs ix = 0 := by rw [hc]; exact hn
    rw [show fgK k at_ fs ix = ByteArray.empty from if_neg hn', show fgA k at_ fs ix = 0 from if_neg hn', show fgF k at_ fs ix = [] from if_neg hn', hc]
    exact ⟨_, rfl, World.ownsRow_nil _ _ _ _, below_set4 (chainB B2.out hb) (by omega) _ _ _ _⟩
  have hD := specRowRight_any k at_ q c fs W2 HT.out hn hc hk hz
  obtain ⟨t0, t1, t2⟩ := HX.out W2 (Below.refl _ _)
  rw [HW2.out] at t0 t1 t2
  clear hW2 hf hs1
  cases hr : rwB k at_ fs with
  | false =>
    have hC : Hid (fgC k at_ fs ix = 1) := if_neg (by rw [hr]; exact Bool.false_ne_true)
    rw [hr] at hD
    clear hr
    go_enter Tryz.func146, Tryz.ntmps146
    go_wp2_with fail
    rw [← HW2.out]
    refine hD.mono ?_
    rintro e y1 ⟨rfl, b1⟩
    go_wp2_with fail
    refine (l07Ill_any 1 y1).mono ?_
    rintro e y2 ⟨rfl, b2⟩
    have b2 := chainB b1 b2
    have HE := fun x0 x1 x2 x3 => HEr.out y2 1 x0 x1 x2 x3 b2 hC.out (by omega)
    obtain ⟨r0, r1, r2, r3, f0, f1, f2, f3⟩ := HR.out y2 (K1.out.below b2)
    clear b1 b2 HEr HR HX t0 t1 t2
    go_wp2_with fail
    refine bodyPost_ret (v := .agg #[.string ByteArray.empty, .int .i64 0, .slice none 0 0, .int .i64 1]) (by simp [results, Tryz.results146, go_sem, r0, r1, r2, r3]) rfl ?_
    exact HE _ _ _ _
  | true =>
  rw [hr] at hD
  obtain ⟨-, -, ⟨l1, l3⟩, -, -⟩ := rwB_parts hr
  have HI : Hid (∀ x, Calls Tryz.prog 45 #[.int .i64 ix, .int .i64 0, .int .i64 ((fs.length : Int) - 1)] x fun e w' => e = .returned (.bool (decide (0 ≤ ix ∧ ix ≤ (fs.length : Int) - 1))) ∧ w' = x) := fun x => l07Is_any _ _ _ x
  by_cases hin : 0 ≤ ix ∧ ix ≤ (fs.length : Int) - 1
  case neg =>
    have hC : Hid (fgC k at_ fs ix = 6) := by show _ = _; unfold fgC; rw [if_pos hr, if_neg hin]
    rw [decide_eq_false hin] at HI
    clear hr hin
    go_enter Tryz.func146, Tryz.ntmps146
    go_wp2_with fail
    rw [← HW2.out]
    refine hD.mono ?_
    rintro e y1 ⟨rfl, b1⟩
    clear t0 t1 t2
    obtain ⟨t0, t1, t2⟩ := HX.out y1 b1
    go_wp2_with fail
    refine (HI.out y1).mono ?_
    rintro e y2 ⟨rfl, rfl⟩
    go_wp2_with fail
    refine (l07Ill_any 6 y2).mono ?_
    rintro e y3 ⟨rfl, b2⟩
    have b2 := chainB b1 b2
    have HE := fun x0 x1 x2 x3 => HEr.out y3 6 x0 x1 x2 x3 b2 hC.out (by omega)
    obtain ⟨r0, r1, r2, r3, f0, f1, f2, f3⟩ := HR.out y3 (K1.out.below b2)
    clear b1 b2 HEr HR HX t0 t1 t2
    go_wp2_with fail
    refine bodyPost_ret (v := .agg #[.string ByteArray.empty, .int .i64 0, .slice none 0 0, .int .i64 6]) (by simp [results, Tryz.results146, go_sem, r0, r1, r2, r3]) rfl ?_
    exact HE _ _ _ _
  rw [decide_eq_true hin] at HI
  obtain ⟨I, hI⟩ := Int.eq_ofNat_of_zero_le hin.1
  subst hI
  have hIl : I < fs.length := by omega
  have i1 : (I : Int) < fs.length := by omega
  obtain ⟨b, off, rfl, hb0⟩ := HT.out.some_of (by omega)
  have HC : Hid (∀ x, Below W2.heap.size W2 x → x.cell? ⟨b, off + I * 5, none⟩ = some (.string fs[I].n) ∧ x.cell? ⟨b, off + I * 5 + 1, none⟩ = some (.string fs[I].c) ∧ x.cell? ⟨b, off + I * 5 + 2, none⟩ = some (.string fs[I].s) ∧ x.cell? ⟨b, off + I * 5 + 3, none⟩ = some (.string fs[I].v) ∧ x.cell? ⟨b, off + I * 5 + 4, none⟩ = some (.bool fs[I].g)) := fun x hx => (HT.out.below hx).at I hIl
  have HG : Hid (fs.getD I fldD = fs[I]) := by show _ = _; rw [List.getD_eq_getElem?_getD, List.getElem?_eq_getElem hIl]; rfl
  have HFC : Hid (fgC k at_ fs I = if fs[I].g = true then 7 else 0) := by show _ = _; unfold fgC; rw [if_pos hr, if_pos hin, Int.toNat_natCast, HG.out]
  have HFF : Hid (fgC k at_ fs I = 0 → fgF k at_ fs I = fs.set I (goneF fs[I])) := by
    intro h
    show (if _ then _ else _) = _
    rw [if_pos h, Int.toNat_natCast, HG.out]
  have HGF : Hid (goneF fs[I] = ⟨fs[I].n, fs[I].c, ByteArray.empty, ByteArray.empty, true⟩) := rfl
  clear HG hin
  generalize fs[I].n = fn at *
  generalize fs[I].c = fc at *
  generalize fs[I].s = fss at *
  generalize fs[I].v = fv at *
  generalize goneF fs[I] = GF at *
  cases hgg : fs[I].g with
  | true =>
    rw [hgg] at HC HFC
    have hC : Hid (fgC k at_ fs I = 7) := by show _ = _; rw [HFC.out]; rfl
    clear hr hgg HFC HFF HGF
    go_enter Tryz.func146, Tryz.ntmps146
    go_wp2_with fail
    rw [← HW2.out]
    refine hD.mono ?_
    rintro e y1 ⟨rfl, b1⟩
    clear t0 t1 t2
    obtain ⟨t0, t1, t2⟩ := HX.out y1 b1
    go_wp2_with fail
    refine (HI.out y1).mono ?_
    rintro e y2 ⟨rfl, rfl⟩
    obtain ⟨c0, c1, c2, c3, c4⟩ := HC.out y2 b1
    go_wp2_with fail
    refine (l07Ill_any 7 _).mono ?_
    rintro e y3 ⟨rfl, b2⟩
    have b2 := chainB (alB b1 _) b2
    have HE := fun x0 x1 x2 x3 => HEr.out y3 7 x0 x1 x2 x3 b2 hC.out (by omega)
    obtain ⟨r0, r1, r2, r3, f0, f1, f2, f3⟩ := HR.out y3 (K1.out.below b2)
    clear b1 b2 HEr HR HX t0 t1 t2 c0 c1 c2 c3 c4
    go_wp2_with fail
    refine bodyPost_ret (v := .agg #[.string ByteArray.empty, .int .i64 0, .slice none 0 0, .int .i64 7]) (by simp [results, Tryz.results146, go_sem, r0, r1, r2, r3]) rfl ?_
    exact HE _ _ _ _
  | false =>
    rw [hgg] at HC HFC
    have hC : Hid (fgC k at_ fs I = 0) := by show _ = _; rw [HFC.out]; rfl
    have HK2 : Hid (fgK k at_ fs I = k) := if_pos hC.out
    have HA2 : Hid (fgA k at_ fs I = at_) := if_pos hC.out
    have HF2 : Hid (fgF k at_ fs I = fs.set I GF) := HFF.out hC.out
    clear hr hgg HFC HFF HEr
    go_enter Tryz.func146, Tryz.ntmps146
    go_wp2_with fail
    rw [← HW2.out]
    refine hD.mono ?_
    rintro e y1 ⟨rfl, b1⟩
    clear t0 t1 t2
    obtain ⟨t0, t1, t2⟩ := HX.out y1 b1
    go_wp2_with fail
    refine (HI.out y1).mono ?_
    rintro e y2 ⟨rfl, rfl⟩
    obtain ⟨c0, c1, c2, c3, c4⟩ := HC.out y2 b1
    go_upto_region 6 with fail
    obtain ⟨y3, hy3⟩ : ∃ y3, y3 = y2.alloc (.cells #[.string fn, .string fc, .string fss, .string fv, .bool false] 122) := ⟨_, rfl⟩
    rw [← hy3]
    have b3 : Hid (Below W2.heap.size W2 y3) := by rw [hy3]; exact alB b1 _
    have KY : Hid (Bxs y3 y2.heap.size 122 #[.string fn, .string fc, .string fss, .string fv, .bool false]) := by rw [hy3]; exact Bxs.new _ _ _
    have hsy : Hid (W2.heap.size ≤ y2.heap.size) := b1.size
    clear hy3 t0 t1 t2 c0 c1 c2 c3 c4 b1
    obtain ⟨t0, t1, t2⟩ := HX.out y3 b3.out
    have u4 : y3.cell? ⟨y2.heap.size, 4, none⟩ = some (.bool false) := KY.out.cell 4
    have hCp := l07Copy_any k at_ (some ⟨b, off, none⟩) c fs y3 (HT.out.below b3.out) (by omega) (by omega)
    go_wp2_with fail
    refine hCp.mono ?_
    rintro e y4 ⟨bb, cc, rfl, own4, b4⟩
    clear t0 t1 t2 u4 hCp
    go_upto_region 9 with fail
    obtain ⟨y5, hy5⟩ : ∃ y5, y5 = y4.alloc (.cells #[.string k, .int .i64 at_, .slice (some ⟨bb, 0, none⟩) fs.length cc] 100) := ⟨_, rfl⟩
    rw [← hy5]
    have b5 : Hid (Below W2.heap.size W2 y5) := by rw [hy5]; exact alB (chainB b3.out b4) _
    have KZ : Hid (Bxs y5 y4.heap.size 100 #[.string k, .int .i64 at_, .slice (some ⟨bb, 0, none⟩) fs.length cc]) := by rw [hy5]; exact Bxs.new _ _ _
    have KY5 : Hid (Bxs y5 y2.heap.size 122 #[.string fn, .string fc, .string fss, .string fv, .bool false]) := by rw [hy5]; exact (KY.out.below b4).alloc _
    have own5 : Hid (y5.ownsRow y3.heap.size 122 5 (.slice (some ⟨bb, 0, none⟩) fs.length cc) fs.length (fldRow fs)) := by rw [hy5]; exact own4.alloc _
    have KR5 : Hid (Bxs y5 (w.heap.size + 1) 187 #[.string ByteArray.empty, .int .i64 0, .slice none 0 0, .int .i64 0]) := K1.out.below b5.out
    have HO : Hid (∀ (x0 x1 x2 x3 : Value), (((((set5 y5 bb (I * 5) GF).setCell ⟨w.heap.size + 1, 0, none⟩ x0).setCell ⟨w.heap.size + 1, 1, none⟩ x1).setCell ⟨w.heap.size + 1, 2, none⟩ x2).setCell ⟨w.heap.size + 1, 3, none⟩ x3).ownsRow w.heap.size 122 5 (.slice (some ⟨bb, 0, none⟩) fs.length cc) (fs.set I GF).length (fldRow (fs.set I GF)) ∧ Below w.heap.size w (((((set5 y5 bb (I * 5) GF).setCell ⟨w.heap.size + 1, 0, none⟩ x0).setCell ⟨w.heap.size + 1, 1, none⟩ x1).setCell ⟨w.heap.size + 1, 2, none⟩ x2).setCell ⟨w.heap.size + 1, 3, none⟩ x3)) := by
      intro x0 x1 x2 x3
      have h6 := own_set5 own5.out I GF
      have hlt := (own5.out.lt bb rfl).1
      have hs3 := b3.out.size
      have hs2 := HS2.out
      have n2 : (Value.slice (some ⟨bb, 0, none⟩) fs.length cc).ownBlock ≠ some (w.heap.size + 1) := by simp [Value.ownBlock]; omega
      rw [List.length_set]
      exact ⟨ownS_mono (ownsRow_setCell_other (ownsRow_setCell_other (ownsRow_setCell_other (ownsRow_setCell_other h6 n2 _) n2 _) n2 _) n2 _) (by omega), below_set4 (set5_below (chainB B2.out b5.out) (by omega) _ _) (by omega) _ _ _ _⟩
    have HK6 : Hid (Bxs (set5 y5 bb (I * 5) GF) y4.heap.size 100 #[.string k, .int .i64 at_, .slice (some ⟨bb, 0, none⟩) fs.length cc] ∧ Bxs (set5 y5 bb (I * 5) GF) (w.heap.size + 1) 187 #[.string ByteArray.empty, .int .i64 0, .slice none 0 0, .int .i64 0]) := by
      have e1 := ownF_ne own5.out KZ.out (by decide)
      have e2 := ownF_ne own5.out KR5.out (by decide)
      exact ⟨set5_other KZ.out (by simpa [Value.ownBlock] using e1) _, set5_other KR5.out (by simpa [Value.ownBlock] using e2) _⟩
    have HSt : Hid (set5 y5 bb (I * 5) GF = ((((y5.setCell ⟨bb, I * 5, none⟩ (.string fn)).setCell ⟨bb, I * 5 + 1, none⟩ (.string fc)).setCell ⟨bb, I * 5 + 2, none⟩ (.string ⟨#[]⟩)).setCell ⟨bb, I * 5 + 3, none⟩ (.string ⟨#[]⟩)).setCell ⟨bb, I * 5 + 4, none⟩ (.bool true)) := by show _ = _; rw [HGF.out]; rfl
    obtain ⟨v0, v1, v2⟩ : y5.cell? ⟨y4.heap.size, 0, none⟩ = some (.string k) ∧ y5.cell? ⟨y4.heap.size, 1, none⟩ = some (.int .i64 at_) ∧ y5.cell? ⟨y4.heap.size, 2, none⟩ = some (.slice (some ⟨bb, 0, none⟩) fs.length cc) := ⟨KZ.out.cell 0, KZ.out.cell 1, KZ.out.cell 2⟩
    obtain ⟨w0, w1⟩ : y5.cell? ⟨y2.heap.size, 0, none⟩ = some (.string fn) ∧ y5.cell? ⟨y2.heap.size, 1, none⟩ = some (.string fc) := ⟨KY5.out.cell 0, KY5.out.cell 1⟩
    obtain ⟨⟨k0, k1, k2, k3, k4⟩, g0, g1, g2, g3, g4⟩ : (y5.cell? ⟨bb, I * 5, none⟩ = some (.string fs[I].n) ∧ y5.cell? ⟨bb, I * 5 + 1, none⟩ = some (.string fs[I].c) ∧ y5.cell? ⟨bb, I * 5 + 2, none⟩ = some (.string fs[I].s) ∧ y5.cell? ⟨bb, I * 5 + 3, none⟩ = some (.string fs[I].v) ∧ y5.cell? ⟨bb, I * 5 + 4, none⟩ = some (.bool fs[I].g)) ∧ y5.frozen? ⟨bb, I * 5, none⟩ = false ∧ y5.frozen? ⟨bb, I * 5 + 1, none⟩ = false ∧ y5.frozen? ⟨bb, I * 5 + 2, none⟩ = false ∧ y5.frozen? ⟨bb, I * 5 + 3, none⟩ = false ∧ y5.frozen? ⟨bb, I * 5 + 4, none⟩ = false := by
      have hr := fldRow_at fs I (by omega)
      rw [← own5.out.cellAt (I * 5) (by omega), ← own5.out.cellAt (I * 5 + 1) (by omega), ← own5.out.cellAt (I * 5 + 2) (by omega), ← own5.out.cellAt (I * 5 + 3) (by omega), ← own5.out.cellAt (I * 5 + 4) (by omega)] at hr
      exact ⟨hr, own5.out.frozenAt _, own5.out.frozenAt _, own5.out.frozenAt _, own5.out.frozenAt _, own5.out.frozenAt _⟩
    clear hy5 own4 b4 KY
    go_upto_region 10 with fail
    rw [← HSt.out]
    obtain ⟨r0, r1, r2, r3, f0, f1, f2, f3⟩ := HR.out _ HK6.out.2
    obtain ⟨x0, x1, x2⟩ : (set5 y5 bb (I * 5) GF).cell? ⟨y4.heap.size, 0, none⟩ = some (.string k) ∧ (set5 y5 bb (I * 5) GF).cell? ⟨y4.heap.size, 1, none⟩ = some (.int .i64 at_) ∧ (set5 y5 bb (I * 5) GF).cell? ⟨y4.heap.size, 2, none⟩ = some (.slice (some ⟨bb, 0, none⟩) fs.length cc) := ⟨HK6.out.1.cell 0, HK6.out.1.cell 1, HK6.out.1.cell 2⟩
    clear HSt HK6 v0 v1 v2 w0 w1 k0 k1 k2 k3 k4 g0 g1 g2 g3 g4 own5 KR5 KZ KY5
    generalize set5 y5 bb (I * 5) GF = y6 at *
    go_wp2_with fail
    refine bodyPost_ret (v := .agg #[.string k, .int .i64 at_, .slice (some ⟨bb, 0, none⟩) fs.length cc, .int .i64 0]) (by simp [results, Tryz.results146, go_sem, r0, r1, r2, r3]) rfl ?_
    rw [HK2.out, HA2.out, HF2.out, hC.out]
    exact ⟨_, rfl, HO.out _ _ _ _⟩
end Go.Proofs.YtonleickhincgaaGreatDoor
