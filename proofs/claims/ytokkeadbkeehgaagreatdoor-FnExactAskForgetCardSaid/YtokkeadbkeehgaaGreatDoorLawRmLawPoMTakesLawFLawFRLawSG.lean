/-
  Parts of one proof, laid as one text: LawRm, LawPoM, Takes, LawF, LawFR, LawSG; what each says stands at its head.
-/
import Derived.Test.YtokkeadbkeehgaaGreatDoorRows
import Derived.Test.YtokkeadbkeehgaaGreatDoorBytesDigMathTreeMathSlASlBBxKOwnSTakesLTillTwo
import Derived.Test.YtokkeadbkeehgaaGreatDoorRulBlkLawRlLawPoLawSLawM
import Derived.Test.YtokkeadbkeehgaaGreatDoorLgAtKShwKOneKFldGFldBlkRwBlkIntKLawILawOGLawImBlNotRulMathAppS
import Derived.Handy
import Derived.WalkSpells
import Derived.OwnWalk
import Derived.Deep.RegionWith
import Derived.Deep.RegionHeld3
import Derived.Test.YtokkeadbkeehgaaGreatDoorTimeBPutMathPutNumJoinedPutTextFldMathFldRiseScanMath
import Derived.Deep.RegionLaw
import Derived.Deep.QuietTactic
import Derived.BigQuiet
/-
  What the laws' own helpers do that mark rules: markRuleS, heldRuleS.
-/
namespace Go.Proofs.YtokkeadbkeehgaaGreatDoor
open Go.RowKit Go.Lib
set_option linter.unusedVariables false
set_option maxRecDepth 20000

def mkU (s j : Nat) : Rul := ⟨markB (s + 4 * j), markB (s + 4 * j + 1), ((s + 4 * j + 2 : Nat) : Int), ((s + 4 * j + 3 : Nat) : Int)⟩
def muN (s n : Nat) : List Rul := (List.range n).map (mkU s)
def muT (s : Nat) (l : List Rul) (k : Nat) : List Rul := muN s k ++ l.drop k
theorem muN_len (s n : Nat) : (muN s n).length = n := by simp [muN]
theorem muT_len (s : Nat) (l : List Rul) (k : Nat) (h : k ≤ l.length) : (muT s l k).length = l.length := by simp [muT, muN]; omega
theorem muT_set (s : Nat) (l : List Rul) (k : Nat) (h : k < l.length) : (muT s l k).set k (mkU s k) = muT s l (k + 1) := by
  unfold muT muN
  have hl : ((List.range k).map (mkU s)).length = k := by simp
  rw [List.set_append_right _ _ (by omega), hl, Nat.sub_self, List.drop_eq_getElem_cons h, List.set_cons_zero, List.range_succ, List.map_append, List.append_assoc]; rfl
theorem muT_all (s : Nat) (l : List Rul) : muT s l l.length = muN s l.length := by unfold muT; simp
set_option maxHeartbeats 4000000 in
theorem markU_any (s : Nat) (hs1 : 1 ≤ s) (base : Nat) (v : Value) (l : List Rul) (w : World) (h : w.ownsRow base 101 4 v l.length (rulRow l)) (hl : s + 4 * l.length ≤ 16777217) :
    Calls Tryz.prog 49 #[v, .int .i64 (s : Int)] w fun e w' => e = .returned (.int .i64 (4 * (l.length : Int) + s)) ∧ w'.ownsRow base 101 4 v l.length (rulRow (muN s l.length)) ∧ w.grownBy w' v.ownBlock := by
  rcases h.2 with ⟨rfl, h0⟩ | ⟨g, cap, cur, rfl, hg1, hg2, hg3, hg4, hg5, hg6⟩
  · have hl0 : l = [] := List.length_eq_zero_iff.1 h0
    subst hl0
    clear h h0
    go_enter Tryz.func49, Tryz.ntmps49
    go_wp2_with fail
    go_loop [5, 1] (fun i x => i = .int .i64 0 ∧ x = .int .i64 (s : Int)) (fun _ _ => 0)
    case atStart => exact ⟨rfl, rfl⟩
    case round =>
      obtain ⟨rfl, rfl⟩ := hrel
      go_wp2_with fail
      go_ret
      exact ⟨by simp, World.ownsRow_nil _ _ _ _, World.grownBy.refl _ _⟩
  · have HO : Hid (OG w base 101 4 g l.length cap w (rulRow (muT s l 0))) := by
      show OG _ _ _ _ _ _ _ _ _
      rw [show muT s l 0 = l by simp [muT, muN]]; exact OG.start h
    clear h hg2 hg5 hg6
    go_enter Tryz.func49, Tryz.ntmps49
    go_wp2_with fail
    go_loopw [5, 1] (fun i x wr => ∃ k : Nat, k ≤ l.length ∧ i = .int .i64 k ∧ x = .int .i64 (4 * (k : Int) + s) ∧ Hid (OG w base 101 4 g l.length cap wr (rulRow (muT s l k)))) (fun i _ _ => l.length - (intOf i).toNat)
    case atStart => exact ⟨0, Nat.zero_le _, rfl, by simp, HO⟩
    case round =>
      clear HO
      obtain ⟨k, hk, rfl, rfl, hown⟩ := hrel
      by_cases hlt : k < l.length
      · have i1 : (k : Int) < l.length := by omega
        have HM1 : Hid (∀ x, Calls Tryz.prog 83 #[.int .i64 (4 * (k : Int) + s)] x fun e x1 => e = .returned (.string (markB (s + 4 * k))) ∧ Below x.heap.size x x1) := fun x => by
          have := markText_any (s + 4 * k) x (by omega) (by omega)
          rwa [show ((s + 4 * k : Nat) : Int) = 4 * (k : Int) + s by omega] at this
        have HM2 : Hid (∀ x, Calls Tryz.prog 83 #[.int .i64 (4 * (k : Int) + s + 1)] x fun e x1 => e = .returned (.string (markB (s + 4 * k + 1))) ∧ Below x.heap.size x x1) := fun x => by
          have := markText_any (s + 4 * k + 1) x (by omega) (by omega)
          rwa [show ((s + 4 * k + 1 : Nat) : Int) = 4 * (k : Int) + s + 1 by omega] at this
        have HE : Hid ((((( (rulRow (muT s l k)).set (k * 4) (.string (markB (s + 4 * k)))).set (k * 4 + 1) (.string (markB (s + 4 * k + 1)))).set (k * 4 + 2) (.int .i64 (4 * (k : Int) + s + 1 + 1))).set (k * 4 + 3) (.int .i64 (4 * (k : Int) + s + 1 + 1 + 1))) = rulRow (muT s l (k + 1))) := by
          show _ = _
          rw [← muT_set s l k hlt, ← rulRow_set]
          simp only [mkU]
          rw [show ((s + 4 * k + 2 : Nat) : Int) = 4 * (k : Int) + s + 1 + 1 by omega, show ((s + 4 * k + 3 : Nat) : Int) = 4 * (k : Int) + s + 1 + 1 + 1 by omega]
        generalize markB (s + 4 * k) = M1 at *
        generalize markB (s + 4 * k + 1) = M2 at *
        generalize rulRow (muT s l k) = R1 at *
        go_wp2_with fail
        refine (HM1.out wr).mono ?_
        rintro e y1 ⟨rfl, b1⟩
        have O1 := hown.out.below b1
        obtain ⟨x1, c1, f1⟩ := O1.cell (k * 4) (by omega)
        obtain ⟨W1, hW1⟩ : ∃ W1, W1 = y1.setCell ⟨g, k * 4, none⟩ (.string M1) := ⟨_, rfl⟩
        have HW1 : Hid (W1 = y1.setCell ⟨g, k * 4, none⟩ (.string M1)) := hW1
        have O2 := O1.set (k * 4) (.string M1)
        rw [← hW1] at O2
        have HO2 : Hid (OG w base 101 4 g l.length cap W1 (R1.set (k * 4) (.string M1))) := O2
        clear hown O1 O2 hW1 b1 HM1
        go_wp2_with fail
        rw [← HW1.out]
        refine (HM2.out W1).mono ?_
        rintro e y2 ⟨rfl, b2⟩
        have O3 := HO2.out.below b2
        obtain ⟨x2, c2, f2⟩ := O3.cell (k * 4 + 1) (by omega)
        have O4 := O3.set (k * 4 + 1) (.string M2)
        obtain ⟨x3, c3, f3⟩ := O3.cell (k * 4 + 2) (by omega)
        have O5 := O4.set (k * 4 + 2) (.int .i64 (4 * (k : Int) + s + 1 + 1))
        obtain ⟨x4, c4, f4⟩ := O3.cell (k * 4 + 3) (by omega)
        have O6 := O5.set (k * 4 + 3) (.int .i64 (4 * (k : Int) + s + 1 + 1 + 1))
        rw [HE.out] at O6
        have HO6 : Hid (OG w base 101 4 g l.length cap (((y2.setCell ⟨g, k * 4 + 1, none⟩ (.string M2)).setCell ⟨g, k * 4 + 2, none⟩ (.int .i64 (4 * (k : Int) + s + 1 + 1))).setCell ⟨g, k * 4 + 3, none⟩ (.int .i64 (4 * (k : Int) + s + 1 + 1 + 1))) (rulRow (muT s l (k + 1)))) := O6
        clear HO2 O3 O4 O5 O6 b2 HM2 HE HW1 c1 f1
        go_wp2_with fail
        go_roundw
        case rel => exact ⟨k + 1, by omega, by go_num, by go_num, HO6⟩
        case measure => simp [intOf]; omega
      · obtain rfl : k = l.length := by omega
        have HO2 : Hid (OG w base 101 4 g l.length cap wr (rulRow (muN s l.length))) := by
          show OG _ _ _ _ _ _ _ _ _
          rw [← muT_all]; exact hown.out
        clear hown
        go_wp2_with fail
        go_ret
        exact ⟨rfl, HO2.out.1, HO2.out.2⟩
end Go.Proofs.YtokkeadbkeehgaaGreatDoor
/-
  What the laws' own helpers do that mark policies: markPolicy, heldPolicy, markPolicyOut, heldPolicyOut.
  Conditions: the two rows are the call's own, in two blocks.
-/
namespace Go.Proofs.YtokkeadbkeehgaaGreatDoor
open Go.RowKit Go.Lib
set_option linter.unusedVariables false
set_option maxRecDepth 20000

theorem ownP_ne {w : World} {base : Nat} {e : TypeId} {s : Nat} {v : Value} {n : Nat} {xs : List Value} (h : w.ownsRow base e s v n xs) {g : Nat} (hg : w.heap.size ≤ g) : some g ≠ v.ownBlock := fun he => by have := (h.lt g he.symm).2; omega
set_option maxHeartbeats 1000000 in
theorem markPolicy_any (base : Nat) (p1 p2 : Option Addr) (c1 c2 : Nat) (ss : List Rul) (ps : List Int) (w : World) (o1 : w.ownsRow base 101 4 (.slice p1 ss.length c1) ss.length (rulRow ss)) (o2 : w.ownsRow base 2 1 (.slice p2 ps.length c2) ps.length (intRow ps)) (hne : (Value.slice p1 ss.length c1).ownBlock = none ∨ (Value.slice p1 ss.length c1).ownBlock ≠ (Value.slice p2 ps.length c2).ownBlock) (n1 : ss.length ≤ 1048576) (n2 : ps.length ≤ 1048576) :
    Calls Tryz.prog 16 #[.agg #[.slice p1 ss.length c1, .slice p2 ps.length c2], .int .i64 1] w fun e w' => e = .returned (.int .i64 ((ps.length : Int) + (4 * (ss.length : Int) + 1))) ∧ w'.ownsRow base 101 4 (.slice p1 ss.length c1) ss.length (rulRow (muN 1 ss.length)) ∧ w'.ownsRow base 2 1 (.slice p2 ps.length c2) ps.length (intRow (miN (4 * ss.length + 1) ps.length)) ∧
      ∃ wm, w.grownBy wm (Value.slice p1 ss.length c1).ownBlock ∧ wm.grownBy w' (Value.slice p2 ps.length c2).ownBlock := by
  obtain ⟨W1, hW1⟩ : ∃ W1, W1 = w.alloc (.cells #[.slice p1 ss.length c1, .slice p2 ps.length c2] 40) := ⟨_, rfl⟩
  have HW1 : Hid (W1 = w.alloc (.cells #[.slice p1 ss.length c1, .slice p2 ps.length c2] 40)) := hW1
  have X1 : Hid (Bxs W1 w.heap.size 40 #[.slice p1 ss.length c1, .slice p2 ps.length c2]) := by rw [hW1]; exact Bxs.new _ _ _
  have E1 : Hid (some w.heap.size ≠ (Value.slice p1 ss.length c1).ownBlock) := ownP_ne o1 (Nat.le_refl _)
  have O1 : Hid (W1.ownsRow base 101 4 (.slice p1 ss.length c1) ss.length (rulRow ss)) := by rw [hW1]; exact o1.alloc _
  have O2 : Hid (W1.ownsRow base 2 1 (.slice p2 ps.length c2) ps.length (intRow ps)) := by rw [hW1]; exact o2.alloc _
  have HG : Hid (∀ wm, W1.grownBy wm (Value.slice p1 ss.length c1).ownBlock → w.grownBy wm (Value.slice p1 ss.length c1).ownBlock) := by
    rw [hW1]
    intro wm h
    exact ⟨h.os, h.tape, h.output, by have := h.size; simp at this; omega, fun b hb hn => (h.block b (by simp; omega) hn).trans (Below.heap_alloc _ _ _ hb)⟩
  have H1 := markU_any 1 (by omega) base (.slice p1 ss.length c1) ss W1 O1.out (by omega)
  rw [show ((1 : Nat) : Int) = 1 from rfl] at H1
  have HN : Hid ((Value.slice p2 ps.length c2).ownBlock = none ∨ (Value.slice p2 ps.length c2).ownBlock ≠ (Value.slice p1 ss.length c1).ownBlock) := by
    rcases hne with h | h
    · cases h1 : (Value.slice p2 ps.length c2).ownBlock with
      | none => exact .inl rfl
      | some b => exact .inr (by rw [h]; simp)
    · exact .inr (fun e => h e.symm)
  have HN2 : Hid ((Value.slice p1 ss.length c1).ownBlock = none ∨ (Value.slice p1 ss.length c1).ownBlock ≠ (Value.slice p2 ps.length c2).ownBlock) := hne
  clear hW1 o1 o2 hne
  go_enter Tryz.func16, Tryz.ntmps16
  go_wp2_with fail
  rw [← HW1.out]
  refine H1.mono ?_
  rintro e w2 ⟨rfl, q1, g1⟩
  have x2 : w2.cell? ⟨w.heap.size, 1, none⟩ = some (.slice p2 ps.length c2) := (X1.out.grown g1 E1.out).cell 1
  have q2 := O2.out.kept g1 HN.out
  have H2 := markIO_any (4 * ss.length + 1) base (.slice p2 ps.length c2) ps w2 q2 (by omega)
  rw [show ((4 * ss.length + 1 : Nat) : Int) = 4 * (ss.length : Int) + 1 by omega] at H2
  have Q1 : Hid (w2.ownsRow base 101 4 (.slice p1 ss.length c1) ss.length (rulRow (muN 1 ss.length))) := q1
  have G1 : Hid (W1.grownBy w2 (Value.slice p1 ss.length c1).ownBlock) := g1
  clear q1 q2 g1 H1 O1 O2 X1
  go_wp2_with fail
  refine H2.mono ?_
  rintro e w3 ⟨rfl, q3, g3⟩
  have Q3 : Hid (w3.ownsRow base 2 1 (.slice p2 ps.length c2) ps.length (intRow (miN (4 * ss.length + 1) ps.length))) := q3
  have Q4 : Hid (w3.ownsRow base 101 4 (.slice p1 ss.length c1) ss.length (rulRow (muN 1 ss.length))) := Q1.out.kept g3 HN2.out
  have G3 : Hid (w2.grownBy w3 (Value.slice p2 ps.length c2).ownBlock) := g3
  clear q3 g3 H2 x2 Q1
  go_wp2_with fail
  go_ret
  exact ⟨rfl, Q4.out, Q3.out, w2, HG.out _ G1.out, G3.out⟩

end Go.Proofs.YtokkeadbkeehgaaGreatDoor
/-
  One operation of a drawing region taken by hand: wanted or not, a call that stands alone.
-/
namespace Go.Proofs.YtokkeadbkeehgaaGreatDoor
open Go.RowKit Go.Lib
set_option linter.unusedVariables false

theorem take_at {P : Program} {md : Region.Mode} {ops : Array Oper} {Q : Exit → Act → World → Prop} {S : World → Prop} (i : Nat) {oi : Oper} {v : Value} {fuel : Nat} {listed : Array Bool} {a : Act} {w : World} (hi : ops.toList[i]? = some oi)
    (hs : Region.noSelect ops = true) (hf : Region.free md ops listed i = true) (hr : (Region.ready md ops listed).contains i = true)
    (hQ : ∀ c a w, Q (.panic c) (a.put oi.dst v) w → Q (.panic c) a w) (hS : S w) (hy : YieldsIf P ops S oi v a)
    (h : wpAnyH P md ops Q S fuel (listed.setIfInBounds i true) (a.put oi.dst v) w) : wpAnyH P md ops Q S (fuel + 1) listed a w :=
  wpAnyH_take (by rw [← hi]; simp) hs hf hr hQ hy hS h
theorem ready_at {P : Program} {md : Region.Mode} {ops : Array Oper} {Q : Exit → Act → World → Prop} {S : World → Prop} (i : Nat) {o : Oper} {fuel : Nat} {listed : Array Bool} {a : Act} {w : World} (hi : ops.toList[i]? = some o) (hr : Region.ready md ops listed = [i])
    (h : ∀ K' : Act → World → Prop, Shut (∀ a w, S w → (S w → wpAnyH P md ops Q S fuel (listed.setIfInBounds i true) a w) → K' a w) → if Region.wanted o (yielded ops a.tmps) = true then Oper.wp P o a w K' Q else K' (a.put o.dst undef) w) : wpAnyH P md ops Q S (fuel + 1) listed a w :=
  wpAnyH_ready hr (by simp) (AllReadyH.cons (by rw [← hi]; simp) h AllReadyH.nil)
end Go.Proofs.YtokkeadbkeehgaaGreatDoor
/-
  What the laws' own helpers answer for slices of fields: szFieldS, toFieldS (a copy in new memory), eqFieldS (of two that are alike).
  Conditions: the slices' cells hold the fields.
-/
namespace Go.Proofs.YtokkeadbkeehgaaGreatDoor
open Go.RowKit Go.Lib
set_option linter.unusedVariables false
set_option maxRecDepth 20000

set_option maxHeartbeats 1000000 in
theorem szFld_any (f : Fld) (l : Int) (w : World) (l0 : 0 ≤ l) (l1 : l ≤ 1048576) (h1 : f.n.size ≤ 9223372036854775807) (h2 : f.c.size ≤ 9223372036854775807) (h3 : f.s.size ≤ 9223372036854775807) (h4 : f.v.size ≤ 9223372036854775807) :
    Calls Tryz.prog 133 #[.agg #[.string f.n, .string f.c, .string f.s, .string f.v, .bool f.g], .int .i64 l] w fun e w' => (∃ r : Int, e = .returned (.int .i64 r) ∧ (r = -1 ∨ (0 ≤ r ∧ r ≤ l))) ∧ Below w.heap.size w w' := by
  obtain ⟨n, c, s, v, g⟩ := f
  show Calls Tryz.prog 133 #[.agg #[.string n, .string c, .string s, .string v, .bool g], .int .i64 l] w _
  have h1 : n.size ≤ 9223372036854775807 := h1
  have h2 : c.size ≤ 9223372036854775807 := h2
  have h3 : s.size ≤ 9223372036854775807 := h3
  have h4 : v.size ≤ 9223372036854775807 := h4
  have B1 : Below w.heap.size w (w.alloc (.cells #[.string n, .string c, .string s, .string v, .bool g] 173)) := (Below.refl _ _).alloc (Nat.le_refl _) _
  by_cases k1 : (n.size : Int) ≤ l
  · by_cases k2 : (n.size : Int) + c.size ≤ l
    · by_cases k3 : (n.size : Int) + c.size + s.size ≤ l
      · by_cases k4 : (n.size : Int) + c.size + s.size + v.size ≤ l
        · go_enter Tryz.func133, Tryz.ntmps133
          go_wp2
          go_ret
          exact ⟨⟨_, rfl, .inr ⟨by omega, by omega⟩⟩, B1⟩
        · go_enter Tryz.func133, Tryz.ntmps133
          go_wp2
          go_ret
          exact ⟨⟨_, rfl, .inl rfl⟩, B1⟩
      · go_enter Tryz.func133, Tryz.ntmps133
        go_wp2
        go_ret
        exact ⟨⟨_, rfl, .inl rfl⟩, B1⟩
    · go_enter Tryz.func133, Tryz.ntmps133
      go_wp2
      go_ret
      exact ⟨⟨_, rfl, .inl rfl⟩, B1⟩
  · go_enter Tryz.func133, Tryz.ntmps133
    go_wp2
    go_ret
    exact ⟨⟨_, rfl, .inl rfl⟩, B1⟩

def FldsBig (fs : List Fld) : Prop := ∀ f ∈ fs, f.n.size ≤ 9223372036854775807 ∧ f.c.size ≤ 9223372036854775807 ∧ f.s.size ≤ 9223372036854775807 ∧ f.v.size ≤ 9223372036854775807
set_option maxHeartbeats 1000000 in
theorem szF_any (l0 : Int) (l00 : 0 ≤ l0) (l01 : l0 ≤ 1048576) (p : Option Addr) (cap : Nat) (fs : List Fld) (w : World) (hp : FldAt w p fs) (hn : fs.length ≤ 9223372036854775807) (hcap : fs.length ≤ cap) (hs : FldsBig fs) :
    Calls Tryz.prog 94 #[.slice p fs.length cap, .int .i64 l0] w fun e w' => (∃ r : Int, e = .returned (.int .i64 r) ∧ (r = -1 ∨ (0 ≤ r ∧ r ≤ l0 ∧ fs.length ≤ 1048576))) ∧ Below w.heap.size w w' := by
  have HP : Hid (FldAt w p fs) := hp
  have HS : Hid (FldsBig fs) := hs
  clear hp hs
  by_cases hl : (fs.length : Int) ≤ l0
  · go_enter Tryz.func94, Tryz.ntmps94
    go_wp2_with fail
    go_loopw [5, 1] (fun i x wr => ∃ (k : Nat) (l : Int), k ≤ fs.length ∧ i = .int .i64 k ∧ x = .int .i64 l ∧ 0 ≤ l ∧ l ≤ l0 ∧ Hid (Below w.heap.size w wr)) (fun i _ _ => fs.length - (intOf i).toNat)
    case atStart => exact ⟨0, _, Nat.zero_le _, rfl, rfl, by omega, by omega, Below.refl _ _⟩
    case round =>
      obtain ⟨k, l, hk, rfl, rfl, hl0, hl1, HB⟩ := hrel
      by_cases hlt : k < fs.length
      · obtain ⟨b, off, rfl, hb, hc1, hc2, hc3, hc4, hc5⟩ := (HP.out.below HB.out) k hlt
        have hsz := HS.out fs[k] (List.getElem_mem hlt)
        have j5 : (k : Int) < fs.length := by omega
        generalize fs[k] = f at *
        obtain ⟨n, c, s, v, g⟩ := f
        have hc1 : wr.cell? ⟨b, off + k * 5, none⟩ = some (.string n) := hc1
        have hc2 : wr.cell? ⟨b, off + k * 5 + 1, none⟩ = some (.string c) := hc2
        have hc3 : wr.cell? ⟨b, off + k * 5 + 2, none⟩ = some (.string s) := hc3
        have hc4 : wr.cell? ⟨b, off + k * 5 + 3, none⟩ = some (.string v) := hc4
        have hc5 : wr.cell? ⟨b, off + k * 5 + 4, none⟩ = some (.bool g) := hc5
        have hS := szFld_any ⟨n, c, s, v, g⟩ l wr hl0 (by omega) hsz.1 hsz.2.1 hsz.2.2.1 hsz.2.2.2
        clear hsz
        go_wp2_with fail
        refine hS.mono ?_
        rintro e w1 ⟨⟨r, rfl, hr⟩, b1⟩
        have HB1 : Hid (Below w.heap.size w w1) := chainB HB.out b1
        clear b1 HB hS hc1 hc2 hc3 hc4 hc5
        rcases hr with rfl | ⟨r0, r1⟩
        · go_wp2_with fail
          go_ret
          exact ⟨⟨_, rfl, .inl rfl⟩, HB1.out⟩
        · have dl : decide (r < 0) = false := decide_eq_false (by omega)
          go_wp2_with fail
          go_roundw
          case rel => exact ⟨k + 1, r, by omega, by go_num, rfl, by omega, by omega, HB1⟩
          case measure => simp [intOf]; omega
      · go_wp2_with fail
        go_ret
        exact ⟨⟨_, rfl, .inr ⟨hl0, by omega, by omega⟩⟩, HB.out⟩
  · go_enter Tryz.func94, Tryz.ntmps94
    go_wp2_with fail
    go_ret
    exact ⟨⟨_, rfl, .inl rfl⟩, Below.refl _ _⟩

theorem toFld_any (f : Fld) (w : World) :
    Calls Tryz.prog 139 #[.agg #[.string f.n, .string f.c, .string f.s, .string f.v, .bool f.g]] w fun e w' => e = .returned (.agg #[.string f.n, .string f.c, .string f.s, .string f.v, .bool f.g]) ∧ Below w.heap.size w w' := by
  obtain ⟨n, c, s, v, g⟩ := f
  show Calls Tryz.prog 139 #[.agg #[.string n, .string c, .string s, .string v, .bool g]] w fun e w' => e = .returned (.agg #[.string n, .string c, .string s, .string v, .bool g]) ∧ _
  have B1 : Below w.heap.size w (((w.alloc (.cells #[.string n, .string c, .string s, .string v, .bool g] 173)).alloc (.cells #[.string n, .string c, .string s, .string v, .bool g] 98)).alloc (.cells #[.string n, .string c, .string s, .string v, .bool g] 98)) := alB (alB (alB (Below.refl _ _) _) _) _
  go_enter Tryz.func139, Tryz.ntmps139
  go_wp2_with fail
  refine bodyPost_ret (v := .agg #[.string n, .string c, .string s, .string v, .bool g]) (by simp [results, Tryz.results139, go_sem]) rfl ?_
  exact ⟨rfl, B1⟩

def cutF (fs : List Fld) (k : Nat) : List Fld := fs.take k ++ List.replicate (fs.length - k) fldE5
theorem cutF_len (fs : List Fld) (k : Nat) (h : k ≤ fs.length) : (cutF fs k).length = fs.length := by simp [cutF]; omega
theorem cutF_set (fs : List Fld) (k : Nat) (h : k < fs.length) : (cutF fs k).set k fs[k] = cutF fs (k + 1) := by
  unfold cutF
  rw [show fs.length - k = (fs.length - (k + 1)) + 1 by omega, List.replicate_succ]
  have hl : (fs.take k).length = k := by simp; omega
  rw [List.set_append_right _ _ (by omega), hl, Nat.sub_self, List.set_cons_zero, List.take_succ_eq_append_getElem h, List.append_assoc]; rfl
theorem BlkF.own {w : World} {g : Nat} {l : List Fld} (h : BlkF w g l) (base : Nat) (hb : base ≤ g) (hm : l.length ≤ maxLen) : w.ownsRow base 98 5 (.slice (some ⟨g, 0, none⟩) l.length l.length) l.length (fldRow l) :=
  ⟨fldRow_len l, .inr ⟨g, l.length, (fldRow l).toArray, rfl, hb, h, Nat.le_refl _, hm, by rw [List.size_toArray, fldRow_len], List.take_of_length_le (by rw [fldRow_len]; exact Nat.le_refl _)⟩⟩

set_option maxHeartbeats 2000000 in
theorem toF_any (p : Option Addr) (cap : Nat) (fs : List Fld) (w : World) (hp : FldAt w p fs) (hn : fs.length ≤ 1048576) (hcap : fs.length ≤ cap) :
    Calls Tryz.prog 100 #[.slice p fs.length cap] w fun e w' => e = .returned (.slice (some ⟨w.heap.size, 0, none⟩) fs.length fs.length) ∧ BlkF w' w.heap.size fs ∧ Below w.heap.size w w' := by
  have HP : Hid (FldAt w p fs) := hp
  clear hp
  obtain ⟨W1, hW1⟩ : ∃ W1, W1 = w.alloc (.cells (fldRow (List.replicate fs.length fldE5)).toArray 98) := ⟨_, rfl⟩
  have hmk := run_make_fld fs.length hn w
  rw [← hW1] at hmk
  have H0 : Hid (BlkF W1 w.heap.size (cutF fs 0)) := by
    have : BlkF W1 w.heap.size (List.replicate fs.length fldE5) := by rw [hW1]; exact alloc_fld _ _
    show BlkF _ _ _
    unfold cutF; simpa using this
  have B0 : Hid (Below w.heap.size w W1) := by rw [hW1]; exact (Below.refl _ _).alloc (Nat.le_refl _) _
  clear hW1
  go_enter Tryz.func100, Tryz.ntmps100
  go_wp2_with fail
  go_loopw [4] (fun i wr => ∃ k : Nat, k ≤ fs.length ∧ i = .int .i64 k ∧ Hid (BlkF wr w.heap.size (cutF fs k)) ∧ Hid (Below w.heap.size w wr)) (fun i _ => fs.length - (intOf i).toNat)
  case atStart => exact ⟨0, Nat.zero_le _, rfl, H0, B0⟩
  case round =>
    clear H0 hmk B0
    obtain ⟨k, hk, rfl, hrow, hnx⟩ := hrel
    have hsz := Bxs.lt hrow.out
    by_cases hlt : k < fs.length
    · have i1 : (k : Int) < fs.length := by omega
      obtain ⟨b, off, rfl, hb, hc1, hc2, hc3, hc4, hc5⟩ := HP.out k hlt
      have hc1 := (hnx.out.cell (p := ⟨b, off + k * 5, none⟩) hb).trans hc1
      have hc2 := (hnx.out.cell (p := ⟨b, off + k * 5 + 1, none⟩) hb).trans hc2
      have hc3 := (hnx.out.cell (p := ⟨b, off + k * 5 + 2, none⟩) hb).trans hc3
      have hc4 := (hnx.out.cell (p := ⟨b, off + k * 5 + 3, none⟩) hb).trans hc4
      have hc5 := (hnx.out.cell (p := ⟨b, off + k * 5 + 4, none⟩) hb).trans hc5
      have hlen := cutF_len fs k hk
      have hset := cutF_set fs k hlt
      have HS : Hid (∀ y, Below wr.heap.size wr y → (∃ x1 x2 x3 x4 x5, y.cell? ⟨w.heap.size, k * 5, none⟩ = some x1 ∧ y.cell? ⟨w.heap.size, k * 5 + 1, none⟩ = some x2 ∧ y.cell? ⟨w.heap.size, k * 5 + 2, none⟩ = some x3 ∧ y.cell? ⟨w.heap.size, k * 5 + 3, none⟩ = some x4 ∧ y.cell? ⟨w.heap.size, k * 5 + 4, none⟩ = some x5) ∧ (y.frozen? ⟨w.heap.size, k * 5, none⟩ = false ∧ y.frozen? ⟨w.heap.size, k * 5 + 1, none⟩ = false ∧ y.frozen? ⟨w.heap.size, k * 5 + 2, none⟩ = false ∧ y.frozen? ⟨w.heap.size, k * 5 + 3, none⟩ = false ∧ y.frozen? ⟨w.heap.size, k * 5 + 4, none⟩ = false) ∧ Hid (∀ f, fs[k] = f → BlkF (set5 y w.heap.size (k * 5) f) w.heap.size (cutF fs (k + 1)) ∧ Below w.heap.size w (set5 y w.heap.size (k * 5) f))) := fun y hb => by
        have h := hrow.out.below hb
        obtain ⟨g1, g3⟩ := h.cells k (by omega)
        refine ⟨⟨_, _, _, _, _, g1⟩, g3, fun f he => ?_⟩
        rw [← hset, he]
        exact ⟨h.set5 k f, set5_below (chainB hnx.out hb) (Nat.le_refl _) _ _⟩
      clear hset hrow
      generalize fs[k] = f at *
      obtain ⟨n, c, s, v, g⟩ := f
      have hc1 : wr.cell? ⟨b, off + k * 5, none⟩ = some (.string n) := hc1
      have hc2 : wr.cell? ⟨b, off + k * 5 + 1, none⟩ = some (.string c) := hc2
      have hc3 : wr.cell? ⟨b, off + k * 5 + 2, none⟩ = some (.string s) := hc3
      have hc4 : wr.cell? ⟨b, off + k * 5 + 3, none⟩ = some (.string v) := hc4
      have hc5 : wr.cell? ⟨b, off + k * 5 + 4, none⟩ = some (.bool g) := hc5
      go_wp2_with fail
      refine (toFld_any ⟨n, c, s, v, g⟩ wr).mono ?_
      rintro e y ⟨rfl, b1⟩
      obtain ⟨⟨x1, x2, x3, x4, x5, g1, g2, g3, g4, g5⟩, ⟨f1, f2, f3, f4, f5⟩, HE⟩ := HS.out y b1
      obtain ⟨W5, hW5⟩ : ∃ W5, W5 = set5 y w.heap.size (k * 5) ⟨n, c, s, v, g⟩ := ⟨_, rfl⟩
      have HE2 : Hid (BlkF W5 w.heap.size (cutF fs (k + 1))) := by rw [hW5]; exact (HE.out _ rfl).1
      have HE3 : Hid (Below w.heap.size w W5) := by rw [hW5]; exact (HE.out _ rfl).2
      have HW5 : Hid (W5 = set5 y w.heap.size (k * 5) ⟨n, c, s, v, g⟩) := hW5
      clear HS HE b1 hc1 hc2 hc3 hc4 hc5 hW5
      go_wp2_with fail
      go_roundw
      case rel =>
        have e5 := HW5.out
        unfold set5 at e5
        rw [← e5]
        exact ⟨k + 1, by omega, by go_num, HE2, HE3⟩
      case measure => simp [intOf]; omega
    · have hkk : k = fs.length := by omega
      subst hkk
      have HR : Hid (BlkF wr w.heap.size fs) := by
        have := hrow.out; unfold cutF at this; show BlkF _ _ _; simpa using this
      go_wp2_with fail
      go_ret
      exact ⟨rfl, HR.out, hnx.out⟩

theorem eqFld_any (f : Fld) (w : World) :
    Calls Tryz.prog 156 #[.agg #[.string f.n, .string f.c, .string f.s, .string f.v, .bool f.g], .agg #[.string f.n, .string f.c, .string f.s, .string f.v, .bool f.g]] w fun e w' => e = .returned (.bool true) ∧ Below w.heap.size w w' := by
  obtain ⟨n, c, s, v, g⟩ := f
  show Calls Tryz.prog 156 #[.agg #[.string n, .string c, .string s, .string v, .bool g], .agg #[.string n, .string c, .string s, .string v, .bool g]] w _
  have B1 : Below w.heap.size w ((w.alloc (.cells #[.string n, .string c, .string s, .string v, .bool g] 98)).alloc (.cells #[.string n, .string c, .string s, .string v, .bool g] 98)) := alB (alB (Below.refl _ _) _) _
  go_enter Tryz.func156, Tryz.ntmps156
  go_wp2_with fail
  go_ret
  exact ⟨rfl, B1⟩

set_option maxHeartbeats 1000000 in
theorem eqF_any (p q : Option Addr) (cap cap2 : Nat) (fs : List Fld) (w : World) (hp : FldAt w p fs) (hq : FldAt w q fs) (hn : fs.length ≤ 1048576) (hcap : fs.length ≤ cap) (hcap2 : fs.length ≤ cap2) :
    Calls Tryz.prog 122 #[.slice p fs.length cap, .slice q fs.length cap2] w fun e w' => e = .returned (.bool true) ∧ Below w.heap.size w w' := by
  have HP : Hid (FldAt w p fs) := hp
  have HQ : Hid (FldAt w q fs) := hq
  clear hp hq
  go_enter Tryz.func122, Tryz.ntmps122
  go_wp2_with fail
  go_loopw [5] (fun i wr => ∃ k : Nat, k ≤ fs.length ∧ i = .int .i64 k ∧ Hid (Below w.heap.size w wr)) (fun i _ => fs.length - (intOf i).toNat)
  case atStart => exact ⟨0, Nat.zero_le _, rfl, Below.refl _ _⟩
  case round =>
    obtain ⟨k, hk, rfl, HB⟩ := hrel
    by_cases hlt : k < fs.length
    · obtain ⟨b, off, rfl, hb, hc1, hc2, hc3, hc4, hc5⟩ := (HP.out.below HB.out) k hlt
      obtain ⟨b2, off2, rfl, hb2, hd1, hd2, hd3, hd4, hd5⟩ := (HQ.out.below HB.out) k hlt
      have j5 : (k : Int) < fs.length := by omega
      generalize fs[k] = f at *
      obtain ⟨n, c, s, v, g⟩ := f
      have hc1 : wr.cell? ⟨b, off + k * 5, none⟩ = some (.string n) := hc1
      have hc2 : wr.cell? ⟨b, off + k * 5 + 1, none⟩ = some (.string c) := hc2
      have hc3 : wr.cell? ⟨b, off + k * 5 + 2, none⟩ = some (.string s) := hc3
      have hc4 : wr.cell? ⟨b, off + k * 5 + 3, none⟩ = some (.string v) := hc4
      have hc5 : wr.cell? ⟨b, off + k * 5 + 4, none⟩ = some (.bool g) := hc5
      have hd1 : wr.cell? ⟨b2, off2 + k * 5, none⟩ = some (.string n) := hd1
      have hd2 : wr.cell? ⟨b2, off2 + k * 5 + 1, none⟩ = some (.string c) := hd2
      have hd3 : wr.cell? ⟨b2, off2 + k * 5 + 2, none⟩ = some (.string s) := hd3
      have hd4 : wr.cell? ⟨b2, off2 + k * 5 + 3, none⟩ = some (.string v) := hd4
      have hd5 : wr.cell? ⟨b2, off2 + k * 5 + 4, none⟩ = some (.bool g) := hd5
      go_wp2_with fail
      go_region_with (first | (go_at_call 156; refine (eqFld_any ⟨n, c, s, v, g⟩ _).mono ?_; rintro e y1 ⟨rfl, z1⟩; have z1 : Below w.heap.size w y1 := chainB (by first | exact HB.out | exact HB.out.drew) z1))
      all_goals
        have HB1 : Hid (Below w.heap.size w y1) := z1
        clear z1
        go_wp2_with fail
        go_roundw
        case rel => exact ⟨k + 1, by omega, by go_num, HB1⟩
        case measure => simp [intOf]; omega
    · go_wp2_with fail
      go_ret
      exact ⟨rfl, HB.out⟩
end Go.Proofs.YtokkeadbkeehgaaGreatDoor
/-
  What the laws' own helpers answer for rows: szRow, toRow, eqRow, eqRowOut (of two that are alike).
  Conditions: the slices' cells hold the fields.
-/
namespace Go.Proofs.YtokkeadbkeehgaaGreatDoor
open Go.RowKit Go.Lib
set_option linter.unusedVariables false
set_option maxRecDepth 20000

set_option maxHeartbeats 1000000 in
theorem szRow_any (kd : ByteArray) (at_ : Int) (p : Option Addr) (c : Nat) (fs : List Fld) (w : World) (h1 : FldAt w p fs) (n1 : fs.length ≤ 9223372036854775807) (m1 : fs.length ≤ c) (s1 : FldsBig fs) (s0 : kd.size ≤ 9223372036854775807) :
    Calls Tryz.prog 58 #[.agg #[.string kd, .int .i64 at_, .slice p fs.length c], .int .i64 1048576] w fun e w' => (∃ r : Int, e = .returned (.int .i64 r) ∧ (r = -1 ∨ (0 ≤ r ∧ r ≤ 1048576 ∧ fs.length ≤ 1048576))) ∧ Below w.heap.size w w' := by
  obtain ⟨W1, hW1⟩ : ∃ W1, W1 = w.alloc (.cells #[.string kd, .int .i64 at_, .slice p fs.length c] 88) := ⟨_, rfl⟩
  have HW1 : Hid (W1 = w.alloc (.cells #[.string kd, .int .i64 at_, .slice p fs.length c] 88)) := hW1
  have B1 : Hid (Below w.heap.size w W1) := by rw [hW1]; exact (Below.refl _ _).alloc (Nat.le_refl _) _
  have H2 : Hid (∀ (l0 : Int), 0 ≤ l0 → l0 ≤ 1048576 → Calls Tryz.prog 94 #[.slice p fs.length c, .int .i64 l0] W1 fun e w' => (∃ r : Int, e = .returned (.int .i64 r) ∧ (r = -1 ∨ (0 ≤ r ∧ r ≤ l0 ∧ fs.length ≤ 1048576))) ∧ Below W1.heap.size W1 w') := fun l0 a b => szF_any l0 a b p c fs W1 (h1.below B1.out) n1 m1 s1
  clear h1 s1 hW1
  by_cases hk : (kd.size : Int) ≤ 1048576
  · have H3 := H2.out (1048576 - kd.size) (by omega) (by omega)
    clear H2
    go_enter Tryz.func58, Tryz.ntmps58
    go_wp2_with fail
    rw [← HW1.out]
    refine H3.mono ?_
    rintro e w2 ⟨⟨r', rfl, hr'⟩, b2⟩
    have b2 := chainB B1.out b2
    clear H3
    rcases hr' with rfl | ⟨r4, r5, r6⟩
    · go_wp2_with fail
      go_ret
      exact ⟨⟨_, rfl, .inl rfl⟩, b2⟩
    · have dr : decide (r' < 0) = false := decide_eq_false (by omega)
      go_wp2_with fail
      go_ret
      exact ⟨⟨_, rfl, .inr ⟨r4, by omega, r6⟩⟩, b2⟩
  · clear H2
    go_enter Tryz.func58, Tryz.ntmps58
    go_wp2_with fail
    rw [← HW1.out]
    go_ret
    exact ⟨⟨_, rfl, .inl rfl⟩, B1.out⟩

set_option maxHeartbeats 2000000 in
theorem toRow_any (kd : ByteArray) (at_ : Int) (p : Option Addr) (c : Nat) (fs : List Fld) (w : World) (h1 : FldAt w p fs) (n1 : fs.length ≤ 1048576) (m1 : fs.length ≤ c) :
    Calls Tryz.prog 69 #[.agg #[.string kd, .int .i64 at_, .slice p fs.length c]] w fun e w' => ∃ g, w.heap.size ≤ g ∧ e = .returned (.agg #[.string kd, .int .i64 at_, .slice (some ⟨g, 0, none⟩) fs.length fs.length]) ∧ BlkF w' g fs ∧ Below w.heap.size w w' := by
  obtain ⟨W1, hW1⟩ : ∃ W1, W1 = w.alloc (.cells #[.string kd, .int .i64 at_, .slice p fs.length c] 88) := ⟨_, rfl⟩
  obtain ⟨W2, hW2⟩ : ∃ W2, W2 = W1.alloc (.cells #[.string ⟨#[]⟩, .int .i64 0, .slice none 0 0] 96) := ⟨_, rfl⟩
  obtain ⟨W3, hW3⟩ : ∃ W3, W3 = W2.alloc (.cells #[.string kd, .int .i64 at_, .slice none 0 0] 96) := ⟨_, rfl⟩
  have z1 : W1.heap.size = w.heap.size + 1 := by rw [hW1]; simp
  have z2 : W2.heap.size = w.heap.size + 1 + 1 := by rw [hW2]; simp [z1]
  have z3 : W3.heap.size = w.heap.size + 3 := by rw [hW3]; simp [z2]
  have b1 : Below w.heap.size w W1 := by rw [hW1]; exact (Below.refl _ _).alloc (Nat.le_refl _) _
  have b2 : Below w.heap.size w W2 := by rw [hW2]; exact alB b1 _
  have B0 : Hid (Below w.heap.size w W3) := by rw [hW3]; exact alB b2 _
  have XR : Hid (Bxs W3 (w.heap.size + 1) 96 #[.string ⟨#[]⟩, .int .i64 0, .slice none 0 0]) := by rw [hW3]; refine Bxs.alloc ?_ _; rw [hW2, ← z1]; exact Bxs.new _ _ _
  have XO : Hid (Bxs W3 (w.heap.size + 1 + 1) 96 #[.string kd, .int .i64 at_, .slice none 0 0]) := by rw [hW3, ← z2]; exact Bxs.new _ _ _
  have HW3 : Hid (W3 = ((w.alloc (.cells #[.string kd, .int .i64 at_, .slice p fs.length c] 88)).alloc (.cells #[.string ⟨#[]⟩, .int .i64 0, .slice none 0 0] 96)).alloc (.cells #[.string kd, .int .i64 at_, .slice none 0 0] 96)) := by rw [hW3, hW2, hW1]; exact rfl
  have HC := toF_any p c fs W3 (h1.below B0.out) n1 m1
  have HZ3 : Hid (W3.heap.size = w.heap.size + 3) := z3
  clear hW1 hW2 hW3 z1 z2 z3 b1 b2 h1
  go_enter Tryz.func69, Tryz.ntmps69
  go_wp2_with fail
  rw [← HW3.out]
  refine HC.mono ?_
  rintro e w4 ⟨rfl, hB4, b4⟩
  rw [HZ3.out] at hB4 ⊢
  have xo := XO.out.below b4
  have xr := XR.out.below b4
  have o0 : w4.cell? ⟨w.heap.size + 1 + 1, 0, none⟩ = some (.string kd) := xo.cell 0
  have o1 : w4.cell? ⟨w.heap.size + 1 + 1, 1, none⟩ = some (.int .i64 at_) := xo.cell 1
  have o2 : w4.cell? ⟨w.heap.size + 1 + 1, 2, none⟩ = some (.slice none 0 0) := xo.cell 2
  have fo := xo.fr 2
  have r0 : w4.cell? ⟨w.heap.size + 1, 0, none⟩ = some (.string ⟨#[]⟩) := xr.cell 0
  have r1 : w4.cell? ⟨w.heap.size + 1, 1, none⟩ = some (.int .i64 0) := xr.cell 1
  have r2 : w4.cell? ⟨w.heap.size + 1, 2, none⟩ = some (.slice none 0 0) := xr.cell 2
  have e0 := xr.fr 0
  have e1 := xr.fr 1
  have e2 := xr.fr 2
  have HEnd : Hid (∀ v0 v1 v2 v3 : Value, BlkF ((((w4.setCell ⟨w.heap.size + 1 + 1, 2, none⟩ v0).setCell ⟨w.heap.size + 1, 0, none⟩ v1).setCell ⟨w.heap.size + 1, 1, none⟩ v2).setCell ⟨w.heap.size + 1, 2, none⟩ v3) (w.heap.size + 3) fs ∧ Below w.heap.size w ((((w4.setCell ⟨w.heap.size + 1 + 1, 2, none⟩ v0).setCell ⟨w.heap.size + 1, 0, none⟩ v1).setCell ⟨w.heap.size + 1, 1, none⟩ v2).setCell ⟨w.heap.size + 1, 2, none⟩ v3)) := by
    intro v0 v1 v2 v3
    have hb := chainB B0.out b4
    exact ⟨Bxs.other (Bxs.other (Bxs.other (Bxs.other hB4 _ _ (by omega) _) _ _ (by omega) _) _ _ (by omega) _) _ _ (by omega) _, (((hb.setCell (by show w.heap.size ≤ w.heap.size + 1 + 1; omega) _).setCell (by show w.heap.size ≤ w.heap.size + 1; omega) _).setCell (by show w.heap.size ≤ w.heap.size + 1; omega) _).setCell (by show w.heap.size ≤ w.heap.size + 1; omega) _⟩
  clear hB4 b4 xo xr HC XR XO B0 HW3
  go_wp2_with fail
  refine bodyPost_ret (v := .agg #[.string kd, .int .i64 at_, .slice (some ⟨w.heap.size + 3, 0, none⟩) fs.length fs.length]) (by simp [results, Tryz.results69, go_sem, r0, r1, r2]) rfl ?_
  exact ⟨w.heap.size + 3, by omega, rfl, HEnd.out _ _ _ _⟩

set_option maxHeartbeats 1000000 in
theorem eqRow_any (kd : ByteArray) (at_ : Int) (p q : Option Addr) (c d : Nat) (fs : List Fld) (w : World) (h1 : FldAt w p fs) (g1 : FldAt w q fs) (n1 : fs.length ≤ 1048576) (m1 : fs.length ≤ c) (m2 : fs.length ≤ d) :
    Calls Tryz.prog 81 #[.agg #[.string kd, .int .i64 at_, .slice p fs.length c], .agg #[.string kd, .int .i64 at_, .slice q fs.length d]] w fun e w' => e = .returned (.bool true) ∧ Below w.heap.size w w' := by
  obtain ⟨W0, hW0⟩ : ∃ W0, W0 = w.alloc (.cells #[.string kd, .int .i64 at_, .slice p fs.length c] 96) := ⟨_, rfl⟩
  obtain ⟨W1, hW1⟩ : ∃ W1, W1 = W0.alloc (.cells #[.string kd, .int .i64 at_, .slice q fs.length d] 96) := ⟨_, rfl⟩
  have HW1 : Hid (W1 = (w.alloc (.cells #[.string kd, .int .i64 at_, .slice p fs.length c] 96)).alloc (.cells #[.string kd, .int .i64 at_, .slice q fs.length d] 96)) := by rw [hW1, hW0]; exact rfl
  have hB0 : Below w.heap.size w W0 := by rw [hW0]; exact (Below.refl _ _).alloc (Nat.le_refl _) _
  have B1 : Hid (Below w.heap.size w W1) := by rw [hW1]; exact alB hB0 _
  have hE := eqF_any p q c d fs W1 (h1.below B1.out) (g1.below B1.out) n1 m1 m2
  clear hW1 hW0 h1 g1 hB0
  go_enter Tryz.func81, Tryz.ntmps81
  go_wp2_with fail
  rw [← HW1.out]
  refine hE.mono ?_
  rintro e w1 ⟨rfl, b1⟩
  have b1 := chainB B1.out b1
  clear hE
  go_wp2_with fail
  go_ret
  exact ⟨rfl, b1⟩

end Go.Proofs.YtokkeadbkeehgaaGreatDoor
/-
  szStringS from any number on.
-/
namespace Go.Proofs.YtokkeadbkeehgaaGreatDoor
open Go.RowKit Go.Lib
set_option linter.unusedVariables false

def SzTo (r l0 : Int) (ss : List ByteArray) : Prop := r = -1 ∨ (0 ≤ r ∧ r ≤ l0 ∧ ss.length ≤ 1048576 ∧ ∀ x ∈ ss, x.size ≤ 1048576)
set_option maxHeartbeats 400000 in
theorem szG_any (l0 : Int) (l00 : 0 ≤ l0) (l01 : l0 ≤ 1048576) (p : Option Addr) (cap : Nat) (ss : List ByteArray) (w : World) (hp : TxtAt w p ss) (hn : ss.length ≤ 9223372036854775807) (hcap : ss.length ≤ cap) (hs : ∀ x ∈ ss, x.size ≤ 9223372036854775807) :
    Calls Tryz.prog 27 #[.slice p ss.length cap, .int .i64 l0] w fun e w' => (∃ r : Int, e = .returned (.int .i64 r) ∧ SzTo r l0 ss) ∧ w' = w := by
  have HP : Hid (TxtAt w p ss) := hp
  have HS : Hid (∀ x ∈ ss, x.size ≤ 9223372036854775807) := hs
  clear hp hs
  by_cases hl : (ss.length : Int) ≤ l0
  · go_enter Tryz.func27, Tryz.ntmps27
    go_wp2
    go_loop [5, 1] (fun i x => ∃ (k : Nat) (l : Int), k ≤ ss.length ∧ i = .int .i64 k ∧ x = .int .i64 l ∧ 0 ≤ l ∧ l ≤ l0 ∧ Hid (∀ j (h : j < ss.length), j < k → ss[j].size ≤ 1048576)) (fun i _ => ss.length - (intOf i).toNat)
    case atStart => exact ⟨0, _, Nat.zero_le _, rfl, rfl, by omega, by omega, fun j h hk => by omega⟩
    case round =>
      obtain ⟨k, l, hk, rfl, rfl, hl0, hl1, HK⟩ := hrel
      by_cases hlt : k < ss.length
      · obtain ⟨b, off, rfl, hb, hck⟩ := HP.out k hlt
        have hsz := HS.out ss[k] (List.getElem_mem hlt)
        by_cases h32 : (ss[k].size : Int) ≤ l
        · have HK2 : Hid (∀ j (h : j < ss.length), j < k + 1 → ss[j].size ≤ 1048576) := fun j h hj => if he : j = k then by subst he; omega else HK.out j h (by omega)
          generalize ss[k] = q at *
          go_wp2
          go_round
          case rel => exact ⟨k + 1, l - q.size, by omega, by go_num, by go_num, by omega, by omega, HK2⟩
          case measure => simp [intOf]; omega
        · generalize ss[k] = q at *
          go_wp2
          go_ret
          exact ⟨⟨_, rfl, .inl rfl⟩, rfl⟩
      · have HF : Hid (∀ x ∈ ss, x.size ≤ 1048576) := fun x hx => by
          obtain ⟨j, hj, rfl⟩ := List.getElem_of_mem hx
          exact HK.out j hj (by omega)
        go_wp2
        go_ret
        exact ⟨⟨_, rfl, .inr ⟨hl0, by omega, by omega, HF.out⟩⟩, rfl⟩
  · go_enter Tryz.func27, Tryz.ntmps27
    go_wp2
    go_ret
    exact ⟨⟨_, rfl, .inl rfl⟩, rfl⟩

end Go.Proofs.YtokkeadbkeehgaaGreatDoor
