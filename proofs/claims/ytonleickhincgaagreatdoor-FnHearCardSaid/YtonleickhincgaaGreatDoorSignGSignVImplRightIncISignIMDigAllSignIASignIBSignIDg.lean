/-
  Parts of one proof, laid as one text: SignG, SignV, ImplRight, IncI, SignIM, DigAll, SignIA, SignIB, SignIDg; what each says stands at its head.
-/
import Derived.Test.YtonleickhincgaaGreatDoorRows
import Derived.Test.YtonleickhincgaaGreatDoorBytesDigMath
import Derived.Test.YtonleickhincgaaGreatDoorShwKOwnBPadIMacMathSgnBDigITurn2
import Derived.Test.YtonleickhincgaaGreatDoorAll2LeafNode
import Derived.Test.YtonleickhincgaaGreatDoorTreeMathSlABxKSlBOwnS
import Derived.Test.YtonleickhincgaaGreatDoorMac2AppSSrcDrawsDrawKitSomeIsInSignSSignDWide2StepAppPath2DigestDrawTreeSpoil
import Derived.Test.YtonleickhincgaaGreatDoorPowerHalvesTreeTree2TreeHPathMathIncMathTakerTakePathConMathProofLawSignMath
import Derived.Handy
import Derived.WalkSpells
import Derived.OwnWalk
import Derived.Deep.AppendLies
import Derived.Deep.RegionLaw
import Derived.Deep.RegionWith
import Derived.Test.YtonleickhincgaaGreatDoorTimeBPutMathPutNumJoinedPutTextFldMath
import Derived.Test.YtonleickhincgaaGreatDoorBlockI
import Derived.Test.YtonleickhincgaaGreatDoorWholeR
/-
  What the specification's l04Sign and Sign answer: a key, and two rows of texts that lie apart in memory of their own.
-/
namespace Go.Proofs.YtonleickhincgaaGreatDoor
open Go.RowKit Go.Lib
set_option linter.unusedVariables false
set_option maxRecDepth 20000

/-- The digits of a text in a row. -/
def DigAt (w : World) (g : Nat) (t : ByteArray) : Prop := g < w.heap.size ∧ ∀ j, j < 6 → w.cell? ⟨g, j, none⟩ = some (.int .i64 (dg t j))
theorem dig_form {w : World} {base : Nat} {v : Value} {t : ByteArray} (h : w.ownsRow base 2 1 v 6 ((digsI t).map (Value.int .i64))) : ∃ g c, v = .slice (some ⟨g, 0, none⟩) 6 c ∧ 6 ≤ c ∧ base ≤ g ∧ DigAt w g t := by
  rcases h.2 with ⟨rfl, h0⟩ | ⟨g, cap, cur, rfl, h2, h3, h4, h5, h6, h7⟩
  · cases h0
  · refine ⟨g, cap, rfl, h4, h2, lt_of_block h3, fun j hj => ?_⟩
    have h8 : (cur.toList.take (6 * 1))[j]? = some (.int .i64 (dg t j)) := by
      rw [h7]
      have hl : j < (digsI t).length := hj
      simp [dg, List.getD_eq_getElem?_getD, List.getElem?_eq_getElem hl]
    rw [List.getElem?_take_of_lt (by omega)] at h8
    simpa [World.cell?, h3] using h8
theorem DigAt.below {w w' : World} {g : Nat} {t : ByteArray} (h : DigAt w g t) (hb : Below w.heap.size w w') : DigAt w' g t := ⟨Nat.lt_of_lt_of_le h.1 hb.size, fun j hj => by rw [hb.cell (p := ⟨g, j, none⟩) h.1]; exact h.2 j hj⟩

/-- The box of what is made at X, its Ends in memory that came behind W. -/
structure SgS (W : World) (X : Nat) (k : Int) (v1 v2 : Value) (l : List ByteArray) (w : World) : Prop where
  gr : W.grownBy w (some X)
  box : w.heap[X]? = some (.cells #[.int .i64 k, v1, v2] 27 (0, 0))
  own : w.ownsRow W.heap.size 9 1 v1 l.length (strRow l)
section
variable {W w w' : World} {X : Nat} {k : Int} {v1 v2 v' : Value} {l l' : List ByteArray}
theorem SgS.lt (h : SgS W X k v1 v2 l w) : X < w.heap.size := lt_of_block h.box
theorem SgS.below (h : SgS W X k v1 v2 l w) (hb : Below w.heap.size w w') : SgS W X k v1 v2 l w' :=
  ⟨touch_below h.gr hb, (hb.block _ h.lt).trans h.box, ownS_below h.own hb⟩
theorem SgS.drew (h : SgS W X k v1 v2 l w) : SgS W X k v1 v2 l w.drew := h.below (Below.refl _ _).drew
theorem SgS.cells (h : SgS W X k v1 v2 l w) : w.cell? ⟨X, 0, none⟩ = some (.int .i64 k) ∧ w.cell? ⟨X, 1, none⟩ = some v1 ∧ w.cell? ⟨X, 2, none⟩ = some v2 ∧ w.frozen? ⟨X, 1, none⟩ = false := by
  simp [World.cell?, World.frozen?, h.box]
theorem SgS.append (h : SgS W X k v1 v2 l w) (hX : X < W.heap.size) (o : Obj) (hg : (w.alloc o).grownBy w' v1.ownBlock) (ho : w'.ownsRow W.heap.size 9 1 v' l'.length (strRow l')) :
    w'.cell? ⟨X, 1, none⟩ = some v1 ∧ w'.frozen? ⟨X, 1, none⟩ = false ∧ SgS W X k v' v2 l' (w'.setCell ⟨X, 1, none⟩ v') := by
  have hlt := h.lt
  have hb : w'.heap[X]? = some (.cells #[.int .i64 k, v1, v2] 27 (0, 0)) := (hg.block X (by simp; omega) (fun e => by have := (h.own.lt X e.symm).1; omega)).trans ((Below.heap_alloc _ _ _ hlt).trans h.box)
  have hG : W.grownBy w' (some X) := touch_own (touch_below h.gr ((Below.refl _ _).alloc (Nat.le_refl _) o)) hg (fun j hj => (h.own.lt j hj).1)
  refine ⟨?_, ?_, ⟨touch_set hG 1 v', by rw [blk_set hb]; rfl, ownsRow_setCell_below ho hX _⟩⟩ <;> simp [World.cell?, World.frozen?, hb]
end
theorem DigAt.touch {W w : World} {X g : Nat} {t : ByteArray} (h : DigAt W g t) (hg : W.grownBy w (some X)) (hne : g ≠ X) : DigAt w g t := by
  refine ⟨Nat.lt_of_lt_of_le h.1 hg.size, fun j hj => ?_⟩
  have hb := hg.block g h.1 (fun e => hne (by cases e; rfl))
  have := h.2 j hj
  simpa [World.cell?, hb] using this

set_option maxHeartbeats 4000000 in
theorem specSignB_any (seed : ByteArray) (I : Nat) (text : ByteArray) (w : World) (hs : seed.size ≤ 1048576) (hI : I < 4) (ht : text.size ≤ 1048576) :
    Calls Tryz.prog 124 #[.string seed, .int .i64 (I : Int), .string text] w fun e w' => ∃ v1 v2, e = .returned (.agg #[.int .i64 (I : Int), v1, v2]) ∧ w'.ownsRow w.heap.size 9 1 v1 (endsTo seed I text 6).length (strRow (endsTo seed I text 6)) ∧ w'.ownsRow w.heap.size 9 1 v2 (pathB (pubsB seed) I).length (strRow (pathB (pubsB seed) I)) ∧ v1.ownBlock ≠ v2.ownBlock ∧ Below w.heap.size w w' := by
  obtain ⟨W1, hW1⟩ : ∃ W1, W1 = w.alloc (.cells #[.int .i64 0, .slice none 0 0, .slice none 0 0] 27) := ⟨_, rfl⟩
  have HW1 : Hid (W1 = w.alloc (.cells #[.int .i64 0, .slice none 0 0, .slice none 0 0] 27)) := hW1
  have B1 : Hid (Below w.heap.size w W1) := by rw [hW1]; exact (Below.refl _ _).alloc (Nat.le_refl _) _
  have X1 : Hid (W1.heap[w.heap.size]? = some (.cells #[.int .i64 0, .slice none 0 0, .slice none 0 0] 27 (0, 0))) := by rw [hW1]; exact (MapKept.heap_alloc w _).1
  have HZ1 : Hid (W1.heap.size = w.heap.size + 1) := by rw [hW1]; show _ = _; simp
  clear hW1
  go_enter Tryz.func124, Tryz.ntmps124
  go_wp2_with fail
  rw [← HW1.out]
  refine (specPublics_any seed W1 hs).mono ?_
  rintro e w1 ⟨v, rfl, o1, b1⟩
  obtain ⟨q, c, rfl, hc, htx⟩ := ownS_form o1
  have hP := path2_any 4 q c (pubsB seed) I w1 (pubsB_len seed) htx (by rw [pubsB_len]; omega) hc (fun x hx => by rw [pubsTo_wide seed 4 x hx]; omega) (by rw [pubsB_len]; omega)
  have hb1 := b1
  clear htx o1 hc
  go_wp2_with fail
  refine hP.mono ?_
  rintro e w2 ⟨v, rfl, o2, b2⟩
  have hz12 := b2.size
  have b2 := chainB b1 b2
  obtain ⟨q2, c2, rfl, hc2, _⟩ := ownS_form o2
  have HPl : Hid ((pathB (pubsB seed) I).length = 2) := pathB_four (pubsB seed) (pubsB_len seed) I hI
  obtain ⟨PP, hPP⟩ : ∃ PP, PP = pathB (pubsB seed) I := ⟨_, rfl⟩
  rw [← hPP] at o2 HPl ⊢
  have HPP : Hid (PP = pathB (pubsB seed) I) := hPP
  rw [← hPP] at hc2
  clear hPP
  have hsz1 := HZ1.out
  have hsz2 := b1.size
  have hsz3 := b2.size
  obtain ⟨W3, hW3⟩ : ∃ W3, W3 = w2.alloc (.cells #[.int .i64 (I : Int), .slice none 0 0, .slice q2 PP.length c2] 27) := ⟨_, rfl⟩
  have HW3 : Hid (W3 = w2.alloc (.cells #[.int .i64 (I : Int), .slice none 0 0, .slice q2 PP.length c2] 27)) := hW3
  have b3 : Below w2.heap.size w2 W3 := by rw [hW3]; exact (Below.refl _ _).alloc (Nat.le_refl _) _
  have X3 : W3.heap[w2.heap.size]? = some (.cells #[.int .i64 (I : Int), .slice none 0 0, .slice q2 PP.length c2] 27 (0, 0)) := by rw [hW3]; exact (MapKept.heap_alloc w2 _).1
  have hz3 : W3.heap.size = w2.heap.size + 1 := by rw [hW3]; simp
  have o3 := ownS_below o2 b3
  have b3 := chainB b2 b3
  clear hW3
  go_wp2_with fail
  rw [← HW3.out]
  refine (specDigits_any text W3 ht).mono ?_
  rintro e w4 ⟨v, rfl, od, b4⟩
  obtain ⟨g, cg, rfl, hcg, hg3, hd4⟩ := dig_form od
  have o4 := ownS_below o3 b4
  have hX4 : w2.heap.size < w4.heap.size := by have := b4.size; omega
  have S4 : Hid (SgS w4 w2.heap.size (I : Int) (.slice none 0 0) (.slice q2 PP.length c2) (endsTo seed I text 0) w4) := ⟨World.grownBy.refl _ _, (b4.block _ (by omega)).trans X3, World.ownsRow_nil _ _ _ _⟩
  have Y4 : Hid (w4.heap[w.heap.size]? = some (.cells #[.int .i64 0, .slice none 0 0, .slice none 0 0] 27 (0, 0))) := ((chainB b3 b4).block _ (by omega)).trans X1.out
  have HD : Hid (DigAt w4 g text) := hd4
  have B4 : Hid (Below w.heap.size w w4) := chainB (chainB B1.out b3) b4
  have O4 : Hid (w4.ownsRow w1.heap.size 9 1 (.slice q2 PP.length c2) PP.length (strRow PP)) := o4
  have hgX : g ≠ w2.heap.size := by omega
  have HN : Hid (w1.heap.size ≤ w2.heap.size ∧ w.heap.size < w1.heap.size ∧ w.heap.size < w2.heap.size) := ⟨hz12, by omega, by omega⟩
  have HV2 : Hid (∀ b, (Value.slice q2 PP.length c2).ownBlock = some b → b < w2.heap.size) := fun b hb => (o2.lt b hb).2
  clear hz12 o2 o3 o4 od hd4 X3 hz3 b1 b2 b3 b4 hb1 hsz1 hsz2 hsz3 hP HW1 HW3 X1 B1 hg3
  go_wp2_with fail
  go_loopw [9] (fun i wr => ∃ (j : Nat) (v1 : Value), i = .int .i64 j ∧ j ≤ 6 ∧ Hid (SgS w4 w2.heap.size (I : Int) v1 (.slice q2 PP.length c2) (endsTo seed I text j) wr)) (fun i _ => 6 - (Go.RowKit.intOf i).toNat)
  case atStart => exact ⟨0, _, rfl, by omega, S4⟩
  case round =>
    clear S4
    obtain ⟨j, v1, rfl, hj, HS⟩ := hrel
    obtain ⟨k0, k1, k2, f1⟩ := HS.out.cells
    obtain ⟨q1, c1, rfl, hc1, _⟩ := ownS_form HS.out.own
    by_cases hlt : j < 6
    · have d1 : decide ((j : Int) < 6) = true := decide_eq_true (by omega)
      have i1 : (j : Int) < 6 := by omega
      obtain ⟨m0, m1⟩ := dg_bd text j hlt
      have HE : Hid (endsTo seed I text (j + 1) = endsTo seed I text j ++ [stepsB (dg text j).toNat (begB seed I j)]) := endsTo_step seed I text j
      have HDj : Hid (∀ x, w4.grownBy x (some w2.heap.size) → x.cell? ⟨g, j, none⟩ = some (.int .i64 (dg text j))) := fun x hg => (HD.out.touch hg hgX).2 j hlt
      have hl : (endsTo seed I text j).length ≤ 6 := by rw [endsTo_len]; omega
      obtain ⟨m, hm⟩ := Int.eq_ofNat_of_zero_le m0
      rw [hm] at HDj HE
      rw [Int.toNat_natCast] at HE
      have hm15 : m ≤ 15 := by omega
      have QB : Hid (∀ w', Calls Tryz.prog 121 #[.string seed, .int .i64 (I : Int), .int .i64 (j : Int)] w' fun e x1 => e = .returned (.string (begB seed I j)) ∧ Below w'.heap.size w' x1) := fun w' => specBegin_any seed I j w' hs (by omega) (by omega) (by omega) (by omega)
      have hGs := begB_size seed I j
      generalize begB seed (I : Int) (j : Int) = G at *
      have QS : Hid (∀ w', Calls Tryz.prog 49 #[.string G, .int .i64 (m : Int)] w' fun e x1 => e = .returned (.string (stepsB m G)) ∧ Below w'.heap.size w' x1) := fun w' => specSteps_any G m w' (by omega) (by omega)
      generalize stepsB m G = E at *
      have k3 := HDj.out _ HS.out.gr
      clear hm m0 m1 hGs
      generalize hLg : endsTo seed (I : Int) text j = L at *
      clear hLg
      go_wp2_with fail
      go_region_law (first
        | (refine step_append_run rfl _ _ 25 rfl (.slice q1 L.length c1) (.slice (some ⟨x2.heap.size, 0, none⟩) 1 1) _ _ rfl rfl (by with_reducible exact hr4) ?_)
        | (go_simp; go_at_call 121; refine (QB.out _).mono ?_; rintro e x1 ⟨rfl, y1⟩; have s1 : SgS w4 w2.heap.size (I : Int) (.slice q1 L.length c1) (.slice q2 PP.length c2) L x1 := SgS.below (by first | exact HS.out | exact HS.out.drew) y1; obtain ⟨k4, k5, k6, f4⟩ := s1.cells; have k7 := HDj.out _ s1.gr)
        | (go_simp; go_at_call 49; refine (QS.out _).mono ?_; rintro e x2 ⟨rfl, y2⟩; have s2 : SgS w4 w2.heap.size (I : Int) (.slice q1 L.length c1) (.slice q2 PP.length c2) L x2 := SgS.below (by first | exact s1 | exact s1.drew) y2; obtain ⟨k8, k9, k10, f8⟩ := s2.cells; obtain ⟨v4, w5, hr4, ho4, hg4⟩ := app_one x2 w4.heap.size _ L s2.own E (by omega) s2.gr.size; obtain ⟨q5, c5, rfl, _, _⟩ := ownS_form ho4; obtain ⟨a0, a1, RR⟩ := s2.append hX4 _ hg4 ho4; obtain ⟨k12, k13, k14, f12⟩ := (SgS.below (w' := x2.alloc (.cells #[.string E] 9)) s2 ((Below.refl _ _).alloc (Nat.le_refl _) _)).cells))
      all_goals
        have e1 : (L ++ [E]).length = L.length + 1 := by simp
        rw [e1] at RR
        have R5 : Hid (SgS w4 w2.heap.size (I : Int) (.slice q5 (L.length + 1) c5) (.slice q2 PP.length c2) (endsTo seed I text (j + 1)) (w5.setCell ⟨w2.heap.size, 1, none⟩ (.slice q5 (L.length + 1) c5))) := by rw [HE.out]; exact RR
        clear RR ho4 hg4 s1 s2 y1 y2 e1
        go_wp2_with fail
        go_roundw
        case rel => exact ⟨j + 1, _, by go_num, by omega, R5⟩
        case measure => simp [Go.RowKit.intOf]; omega
    · obtain rfl : j = 6 := by omega
      rw [show ((6 : Nat) : Int) = (6 : Int) from rfl]
      obtain ⟨z0, z1, z2⟩ := HN.out
      have hb0 : wr.heap[w.heap.size]? = some (.cells #[.int .i64 0, .slice none 0 0, .slice none 0 0] 27 (0, 0)) := (HS.out.gr.block w.heap.size (by omega) (fun e => by simp at e; omega)).trans Y4.out
      have t0 : wr.cell? ⟨w.heap.size, 0, none⟩ = some (.int .i64 0) ∧ wr.cell? ⟨w.heap.size, 1, none⟩ = some (.slice none 0 0) ∧ wr.cell? ⟨w.heap.size, 2, none⟩ = some (.slice none 0 0) ∧ wr.frozen? ⟨w.heap.size, 0, none⟩ = false ∧ wr.frozen? ⟨w.heap.size, 1, none⟩ = false ∧ wr.frozen? ⟨w.heap.size, 2, none⟩ = false := by simp [World.cell?, World.frozen?, hb0]
      obtain ⟨t0, t1, t2, u0, u1, u2⟩ := t0
      have HEnd : Hid (∀ x y z : Value, (((wr.setCell ⟨w.heap.size, 0, none⟩ x).setCell ⟨w.heap.size, 1, none⟩ y).setCell ⟨w.heap.size, 2, none⟩ z).ownsRow w.heap.size 9 1 (.slice q1 (endsTo seed I text 6).length c1) (endsTo seed I text 6).length (strRow (endsTo seed I text 6)) ∧ (((wr.setCell ⟨w.heap.size, 0, none⟩ x).setCell ⟨w.heap.size, 1, none⟩ y).setCell ⟨w.heap.size, 2, none⟩ z).ownsRow w.heap.size 9 1 (.slice q2 PP.length c2) PP.length (strRow PP) ∧ (Value.slice q1 (endsTo seed I text 6).length c1).ownBlock ≠ (Value.slice q2 PP.length c2).ownBlock ∧ Below w.heap.size w (((wr.setCell ⟨w.heap.size, 0, none⟩ x).setCell ⟨w.heap.size, 1, none⟩ y).setCell ⟨w.heap.size, 2, none⟩ z)) := by
        intro x y z
        have h1 : ∀ {base : Nat} {v : Value} {n : Nat} {xs : List Value}, wr.ownsRow base 9 1 v n xs → w.heap.size < base → (((wr.setCell ⟨w.heap.size, 0, none⟩ x).setCell ⟨w.heap.size, 1, none⟩ y).setCell ⟨w.heap.size, 2, none⟩ z).ownsRow w.heap.size 9 1 v n xs := fun h hlt => ownS_mono (ownsRow_setCell_below (ownsRow_setCell_below (ownsRow_setCell_below h hlt _) hlt _) hlt _) (by omega)
        have hB := below_touch B4.out HS.out.gr (by omega)
        refine ⟨h1 HS.out.own (by omega), h1 (O4.out.kept HS.out.gr (.inr (fun e => by have := HV2.out _ e; omega))) z1, ?_, ((hB.setCell (Nat.le_refl _) _).setCell (Nat.le_refl _) _).setCell (Nat.le_refl _) _⟩
        obtain ⟨g1, rfl, hg1, _⟩ := ownS_at HS.out.own (by rw [endsTo_len]; omega)
        intro e
        have := HV2.out g1 e.symm
        omega
      clear hb0 z0 z1 z2 hlt
      go_wp2_with fail
      refine bodyPost_ret (v := .agg #[.int .i64 (I : Int), .slice q1 (endsTo seed I text 6).length c1, .slice q2 PP.length c2]) (by simp [results, Tryz.results124, go_sem, t0, t1, t2]) rfl ?_
      obtain ⟨r1, r2, r3, r4⟩ := HEnd.out (.int .i64 (I : Int)) (.slice q1 (endsTo seed I text 6).length c1) (.slice q2 PP.length c2)
      rw [← HPP.out]
      exact ⟨_, _, rfl, r1, r2, r3, r4⟩
end Go.Proofs.YtonleickhincgaaGreatDoor
/-
  What the specification's Sign and SigRight answer.
-/
namespace Go.Proofs.YtonleickhincgaaGreatDoor
open Go.RowKit Go.Lib
set_option linter.unusedVariables false
set_option maxRecDepth 20000

set_option maxHeartbeats 2000000 in
theorem specSign_any (seed : ByteArray) (key : Int) (text : ByteArray) (w : World) (hs : seed.size ≤ 1048576) (ht : text.size ≤ 1048576) :
    Calls Tryz.prog 79 #[.string seed, .int .i64 key, .string text] w fun e w' => ∃ v1 v2, e = .returned (.agg #[.int .i64 (sgK seed key text), v1, v2]) ∧ w'.ownsRow w.heap.size 9 1 v1 (sgE seed key text).length (strRow (sgE seed key text)) ∧ w'.ownsRow w.heap.size 9 1 v2 (sgP seed key text).length (strRow (sgP seed key text)) ∧ (v1.ownBlock = none ∨ v1.ownBlock ≠ v2.ownBlock) ∧ Below w.heap.size w w' := by
  obtain ⟨W1, hW1⟩ : ∃ W1, W1 = w.alloc (.cells #[.int .i64 0, .slice none 0 0, .slice none 0 0] 27) := ⟨_, rfl⟩
  have HW1 : Hid (W1 = w.alloc (.cells #[.int .i64 0, .slice none 0 0, .slice none 0 0] 27)) := hW1
  have B1 : Hid (Below w.heap.size w W1) := by rw [hW1]; exact (Below.refl _ _).alloc (Nat.le_refl _) _
  have X1 : Hid (W1.heap[w.heap.size]? = some (.cells #[.int .i64 0, .slice none 0 0, .slice none 0 0] 27 (0, 0))) := by rw [hW1]; exact (MapKept.heap_alloc w _).1
  have HZ1 : Hid (W1.heap.size = w.heap.size + 1) := by rw [hW1]; show _ = _; simp
  clear hW1
  have hS := specSeed_any seed W1 (by unfold maxLen; omega)
  have hK := isIn_any key 0 3 W1
  have HBk : Hid (∀ x, Below W1.heap.size W1 x → x.cell? ⟨w.heap.size, 0, none⟩ = some (.int .i64 0) ∧ x.cell? ⟨w.heap.size, 1, none⟩ = some (.slice none 0 0) ∧ x.cell? ⟨w.heap.size, 2, none⟩ = some (.slice none 0 0) ∧ x.frozen? ⟨w.heap.size, 0, none⟩ = false ∧ x.frozen? ⟨w.heap.size, 1, none⟩ = false ∧ x.frozen? ⟨w.heap.size, 2, none⟩ = false) := fun x hb => by
    have h0 := (hb.block w.heap.size (by rw [HZ1.out]; omega)).trans X1.out
    simp [World.cell?, World.frozen?, h0]
  have HNo : Hid (signOk seed key text = false → sgK seed key text = 0 ∧ sgE seed key text = [] ∧ sgP seed key text = []) := fun h => by
    have hn : ¬ signOk seed key text = true := by rw [h]; exact Bool.false_ne_true
    exact ⟨if_neg hn, if_neg hn, if_neg hn⟩
  have HZero : Hid (∀ x y z : Value, signOk seed key text = false → ∃ v1 v2, Ending.returned (.agg #[.int .i64 0, .slice none 0 0, .slice none 0 0]) = .returned (.agg #[.int .i64 (sgK seed key text), v1, v2]) ∧ (((W1.setCell ⟨w.heap.size, 0, none⟩ x).setCell ⟨w.heap.size, 1, none⟩ y).setCell ⟨w.heap.size, 2, none⟩ z).ownsRow w.heap.size 9 1 v1 (sgE seed key text).length (strRow (sgE seed key text)) ∧ (((W1.setCell ⟨w.heap.size, 0, none⟩ x).setCell ⟨w.heap.size, 1, none⟩ y).setCell ⟨w.heap.size, 2, none⟩ z).ownsRow w.heap.size 9 1 v2 (sgP seed key text).length (strRow (sgP seed key text)) ∧ (v1.ownBlock = none ∨ v1.ownBlock ≠ v2.ownBlock) ∧ Below w.heap.size w (((W1.setCell ⟨w.heap.size, 0, none⟩ x).setCell ⟨w.heap.size, 1, none⟩ y).setCell ⟨w.heap.size, 2, none⟩ z)) := by
    intro x y z h
    obtain ⟨e1, e2, e3⟩ := HNo.out h
    rw [e1, e2, e3]
    exact ⟨_, _, rfl, World.ownsRow_nil _ _ _ _, World.ownsRow_nil _ _ _ _, .inl rfl, ((B1.out.setCell (Nat.le_refl _) _).setCell (Nat.le_refl _) _).setCell (Nat.le_refl _) _⟩
  obtain ⟨t0, t1, t2, u0, u1, u2⟩ := HBk.out W1 (Below.refl _ _)
  cases h1 : seedB seed with
  | false =>
    have hno : signOk seed key text = false := by unfold signOk; rw [h1]; rfl
    have HZ := fun x y z => HZero.out x y z hno
    rw [h1] at hS
    clear hno h1 HZero HNo hK HBk X1
    go_enter Tryz.func79, Tryz.ntmps79
    go_wp2_with fail
    rw [← HW1.out]
    refine hS.mono ?_
    rintro e w1 ⟨rfl, rfl⟩
    go_wp2_with fail
    refine bodyPost_ret (v := .agg #[.int .i64 0, .slice none 0 0, .slice none 0 0]) (by simp [results, Tryz.results79, go_sem, t0, t1, t2]) rfl ?_
    exact HZ _ _ _
  | true =>
  by_cases h2 : 0 ≤ key ∧ key ≤ 3
  case neg =>
    have hno : signOk seed key text = false := by unfold signOk; rw [h1, decide_eq_false h2]; rfl
    have HZ := fun x y z => HZero.out x y z hno
    rw [h1] at hS
    rw [decide_eq_false h2] at hK
    clear hno h1 h2 HZero HNo HBk X1
    go_enter Tryz.func79, Tryz.ntmps79
    go_wp2_with fail
    rw [← HW1.out]
    refine hS.mono ?_
    rintro e w1 ⟨rfl, rfl⟩
    go_wp2_with fail
    refine hK.mono ?_
    rintro e w1 ⟨rfl, rfl⟩
    go_wp2_with fail
    refine bodyPost_ret (v := .agg #[.int .i64 0, .slice none 0 0, .slice none 0 0]) (by simp [results, Tryz.results79, go_sem, t0, t1, t2]) rfl ?_
    exact HZ _ _ _
  rw [h1] at hS
  rw [decide_eq_true h2] at hK
  by_cases h3 : text.size ≤ 8000
  case neg =>
    have hno : signOk seed key text = false := by unfold signOk; rw [h1, decide_eq_true h2, decide_eq_false h3]; rfl
    have HZ := fun x y z => HZero.out x y z hno
    have d3 : decide (8000 < (text.size : Int)) = true := decide_eq_true (by omega)
    clear hno h1 h2 h3 HZero HNo HBk X1
    go_enter Tryz.func79, Tryz.ntmps79
    go_wp2_with fail
    rw [← HW1.out]
    refine hS.mono ?_
    rintro e w1 ⟨rfl, rfl⟩
    go_wp2_with fail
    refine hK.mono ?_
    rintro e w1 ⟨rfl, rfl⟩
    go_wp2_with fail
    refine bodyPost_ret (v := .agg #[.int .i64 0, .slice none 0 0, .slice none 0 0]) (by simp [results, Tryz.results79, go_sem, t0, t1, t2]) rfl ?_
    exact HZ _ _ _
  have hok : signOk seed key text = true := by unfold signOk; rw [h1, decide_eq_true h2, decide_eq_true h3]; rfl
  have d3 : decide (8000 < (text.size : Int)) = false := decide_eq_false (by omega)
  have HE : Hid (sgK seed key text = key ∧ sgE seed key text = endsTo seed key text 6 ∧ sgP seed key text = pathB (pubsB seed) key.toNat) := ⟨if_pos hok, if_pos hok, if_pos hok⟩
  obtain ⟨I, rfl⟩ := Int.eq_ofNat_of_zero_le h2.1
  rw [Int.toNat_natCast] at HE
  have hG := specSignB_any seed I text W1 hs (by omega) ht
  clear hok h1 h2 h3 HZero HNo X1
  go_enter Tryz.func79, Tryz.ntmps79
  go_wp2_with fail
  rw [← HW1.out]
  refine hS.mono ?_
  rintro e w1 ⟨rfl, rfl⟩
  go_wp2_with fail
  refine hK.mono ?_
  rintro e w1 ⟨rfl, rfl⟩
  go_wp2_with fail
  refine hG.mono ?_
  rintro e w2 ⟨v1, v2, rfl, o1, o2, hne, b2⟩
  obtain ⟨s0, s1, s2, r0, r1, r2⟩ := HBk.out w2 b2
  obtain ⟨q1, c1, rfl, _, _⟩ := ownS_form o1
  obtain ⟨q2, c2, rfl, _, _⟩ := ownS_form o2
  have HEnd : Hid (∀ x y z : Value, (((w2.setCell ⟨w.heap.size, 0, none⟩ x).setCell ⟨w.heap.size, 1, none⟩ y).setCell ⟨w.heap.size, 2, none⟩ z).ownsRow w.heap.size 9 1 (.slice q1 (endsTo seed I text 6).length c1) (endsTo seed I text 6).length (strRow (endsTo seed I text 6)) ∧ (((w2.setCell ⟨w.heap.size, 0, none⟩ x).setCell ⟨w.heap.size, 1, none⟩ y).setCell ⟨w.heap.size, 2, none⟩ z).ownsRow w.heap.size 9 1 (.slice q2 (pathB (pubsB seed) I).length c2) (pathB (pubsB seed) I).length (strRow (pathB (pubsB seed) I)) ∧ Below w.heap.size w (((w2.setCell ⟨w.heap.size, 0, none⟩ x).setCell ⟨w.heap.size, 1, none⟩ y).setCell ⟨w.heap.size, 2, none⟩ z)) := by
    intro x y z
    have hz := HZ1.out
    have h1 : ∀ {v : Value} {n : Nat} {xs : List Value}, w2.ownsRow w1.heap.size 9 1 v n xs → (((w2.setCell ⟨w.heap.size, 0, none⟩ x).setCell ⟨w.heap.size, 1, none⟩ y).setCell ⟨w.heap.size, 2, none⟩ z).ownsRow w.heap.size 9 1 v n xs := fun h => ownS_mono (ownsRow_setCell_below (ownsRow_setCell_below (ownsRow_setCell_below h (by show w.heap.size < _; omega) _) (by show w.heap.size < _; omega) _) (by show w.heap.size < _; omega) _) (by omega)
    have hB := chainB B1.out b2
    exact ⟨h1 o1, h1 o2, ((hB.setCell (Nat.le_refl _) _).setCell (Nat.le_refl _) _).setCell (Nat.le_refl _) _⟩
  have HNe : Hid ((Value.slice q1 (endsTo seed I text 6).length c1).ownBlock ≠ (Value.slice q2 (pathB (pubsB seed) I).length c2).ownBlock) := hne
  clear o1 o2 b2 hne HBk t0 t1 t2 u0 u1 u2 hG
  generalize endsTo seed (I : Int) text 6 = L1 at *
  generalize pathB (pubsB seed) I = L2 at *
  go_wp2_with fail
  refine bodyPost_ret (v := .agg #[.int .i64 (I : Int), .slice q1 L1.length c1, .slice q2 L2.length c2]) (by simp [results, Tryz.results79, go_sem, s0, s1, s2]) rfl ?_
  obtain ⟨r1, r2, r3⟩ := HEnd.out (.int .i64 (I : Int)) (.slice q1 L1.length c1) (.slice q2 L2.length c2)
  obtain ⟨e1, e2, e3⟩ := HE.out
  rw [e1, e2, e3]
  exact ⟨_, _, rfl, r1, r2, .inr HNe.out, r3⟩
end Go.Proofs.YtonleickhincgaaGreatDoor
/-
  What the program's keyRight and SigRight answer: 'sgnB'.
  Conditions: the cells of Ends and Path hold the texts.
-/
namespace Go.Proofs.YtonleickhincgaaGreatDoor
open Go.RowKit Go.Lib
set_option linter.unusedVariables false
set_option maxRecDepth 20000

theorem keyRight_any (n : Int) (w : World) : Calls Tryz.prog 168 #[.int .i64 n] w fun e w' => e = .returned (.bool (decide (0 ≤ n ∧ n ≤ 3))) ∧ w' = w := by
  by_cases h1 : 0 ≤ n
  · have d1 : decide (0 ≤ n) = true := decide_eq_true h1
    by_cases h2 : n < 4
    · have d2 : decide (n < 4) = true := decide_eq_true h2
      have H : Hid (decide (0 ≤ n ∧ n ≤ 3) = true) := decide_eq_true ⟨h1, by omega⟩
      rw [H.out]
      clear H
      go_enter Tryz.func168, Tryz.ntmps168
      go_wp2
      go_ret
      exact ⟨rfl, rfl⟩
    · have d2 : decide (n < 4) = false := decide_eq_false h2
      have H : Hid (decide (0 ≤ n ∧ n ≤ 3) = false) := decide_eq_false fun h => h2 (by omega)
      rw [H.out]
      clear H
      go_enter Tryz.func168, Tryz.ntmps168
      go_wp2
      go_ret
      exact ⟨rfl, rfl⟩
  · have d1 : decide (0 ≤ n) = false := decide_eq_false h1
    have H : Hid (decide (0 ≤ n ∧ n ≤ 3) = false) := decide_eq_false fun h => h1 h.1
    rw [H.out]
    clear H
    go_enter Tryz.func168, Tryz.ntmps168
    go_wp2
    go_ret
    exact ⟨rfl, rfl⟩

set_option maxHeartbeats 2000000 in
theorem implSigRight_any (key : Int) (q1 : Option Addr) (c1 : Nat) (ends : List ByteArray) (q2 : Option Addr) (c2 : Nat) (path : List ByteArray) (w : World) (h1 : TxtAt w q1 ends) (h2 : TxtAt w q2 path) (n1 : ends.length ≤ 1048576) (n2 : path.length ≤ 1048576) (m1 : ends.length ≤ c1) (m2 : path.length ≤ c2) :
    Calls Tryz.prog 127 #[.agg #[.int .i64 key, .slice q1 ends.length c1, .slice q2 path.length c2]] w fun e w' => e = .returned (.bool (sgnB key ends path)) ∧ Below w.heap.size w w' := by
  obtain ⟨W1, hW1⟩ : ∃ W1, W1 = w.alloc (.cells #[.int .i64 key, .slice q1 ends.length c1, .slice q2 path.length c2] 27) := ⟨_, rfl⟩
  have HW1 : Hid (W1 = w.alloc (.cells #[.int .i64 key, .slice q1 ends.length c1, .slice q2 path.length c2] 27)) := hW1
  have B1 : Hid (Below w.heap.size w W1) := by rw [hW1]; exact (Below.refl _ _).alloc (Nat.le_refl _) _
  have X1 : W1.heap[w.heap.size]? = some (.cells #[.int .i64 key, .slice q1 ends.length c1, .slice q2 path.length c2] 27 (0, 0)) := by rw [hW1]; exact (MapKept.heap_alloc w _).1
  have t0 : W1.cell? ⟨w.heap.size, 0, none⟩ = some (.int .i64 key) ∧ W1.cell? ⟨w.heap.size, 1, none⟩ = some (.slice q1 ends.length c1) ∧ W1.cell? ⟨w.heap.size, 2, none⟩ = some (.slice q2 path.length c2) := by simp [World.cell?, X1]
  obtain ⟨t0, t1, t2⟩ := t0
  have hK := keyRight_any key W1
  have hE := areD_any q1 c1 ends W1 (h1.below B1.out) (by omega) m1
  have hP := areD_any q2 c2 path W1 (h2.below B1.out) (by omega) m2
  have H0 : Hid (sgnB key ends path = (decide (0 ≤ key ∧ key ≤ 3) && (decide (ends.length = 6) && (decide (path.length = 2) && (wideB ends && wideB path))))) := rfl
  clear hW1 X1 h1 h2
  rw [H0.out]
  generalize decide (0 ≤ key ∧ key ≤ 3) = b0 at *
  have e1 : ((ends.length : Int) == 6) = decide (ends.length = 6) := by
    by_cases h : ends.length = 6
    · rw [decide_eq_true h]; exact beq_iff_eq.2 (by omega)
    · rw [decide_eq_false h]; exact beq_eq_false_iff_ne.2 (by omega)
  have e2 : ((path.length : Int) == 2) = decide (path.length = 2) := by
    by_cases h : path.length = 2
    · rw [decide_eq_true h]; exact beq_iff_eq.2 (by omega)
    · rw [decide_eq_false h]; exact beq_eq_false_iff_ne.2 (by omega)
  generalize decide (ends.length = 6) = b1 at *
  generalize decide (path.length = 2) = b2 at *
  generalize wideB ends = b3 at *
  generalize wideB path = b4 at *
  clear H0
  go_enter Tryz.func127, Tryz.ntmps127
  go_wp2_with fail
  rw [← HW1.out]
  refine hK.mono ?_
  rintro e w1 ⟨rfl, rfl⟩
  cases b0
  · go_wp2_with fail
    go_ret
    exact ⟨ret_bool (by simp), B1.out⟩
  cases b1
  · have f1 : ¬ (ends.length : Int) = 6 := by simpa using e1
    clear e1
    go_wp2_with fail
    go_ret
    exact ⟨ret_bool (by simp), B1.out⟩
  have f1 : (ends.length : Int) = 6 := by simpa using e1
  clear e1
  cases b2
  · have f2 : ¬ (path.length : Int) = 2 := by simpa using e2
    clear e2
    go_wp2_with fail
    go_ret
    exact ⟨ret_bool (by simp), B1.out⟩
  have f2 : (path.length : Int) = 2 := by simpa using e2
  clear e2
  go_wp2_with fail
  refine hE.mono ?_
  rintro e w1 ⟨rfl, rfl⟩
  cases b3
  · go_wp2_with fail
    go_ret
    exact ⟨ret_bool (by simp), B1.out⟩
  go_wp2_with fail
  refine hP.mono ?_
  rintro e w1 ⟨rfl, rfl⟩
  go_wp2_with fail
  go_ret
  exact ⟨ret_bool (by simp), B1.out⟩
end Go.Proofs.YtonleickhincgaaGreatDoor
/-
  What the program's Included answers: 'incA'.
  Conditions: index and size are int64; the path's cells hold the texts; the two tables lie as the program's text lays them.
-/
namespace Go.Proofs.YtonleickhincgaaGreatDoor
open Go.RowKit Go.Lib
set_option linter.unusedVariables false
set_option maxRecDepth 20000

set_option maxHeartbeats 2000000 in
theorem implInc_any (leaf : ByteArray) (i n : Int) (p : Option Addr) (cap : Nat) (ss : List ByteArray) (root : ByteArray) (w : World) (hT : Tabs w) (hp : TxtAt w p ss) (hn : ss.length ≤ 140737488355328) (hcap : ss.length ≤ cap)
    (i0 : -9223372036854775808 ≤ i) (i1 : i ≤ 9223372036854775807) (n0 : -9223372036854775808 ≤ n) (n1 : n ≤ 9223372036854775807) :
    Calls Tryz.prog 131 #[.string leaf, .int .i64 i, .int .i64 n, .slice p ss.length cap, .string root] w fun e w' => e = .returned (.bool (incA leaf i n ss root)) ∧ Below w.heap.size w w' := by
  have HT : Hid (Tabs w) := hT
  have HP : Hid (TxtAt w p ss) := hp
  clear hT hp
  have H0 : Hid (incA leaf i n ss root = if 0 ≤ i ∧ i < n ∧ ss.length ≤ 63 ∧ leaf.size = 32 ∧ root.size = 32 ∧ wideB ss = true then decide (cl leaf (dirs i.toNat n.toNat) ss = some root) else false) := rfl
  by_cases c1 : 0 ≤ i
  case neg =>
    have d1 : decide (i < 0) = true := by simp; omega
    have H : Hid (incA leaf i n ss root = false) := H0.out.trans (if_neg fun h => c1 h.1)
    go_enter Tryz.func131, Tryz.ntmps131
    go_wp2_with fail
    go_ret
    exact ⟨ret_bool H.out.symm, Below.refl _ _⟩
  have d1 : decide (i < 0) = false := by simp; omega
  by_cases c2 : i < n
  case neg =>
    have d2 : decide (n ≤ i) = true := by simp; omega
    have H : Hid (incA leaf i n ss root = false) := H0.out.trans (if_neg fun h => c2 h.2.1)
    go_enter Tryz.func131, Tryz.ntmps131
    go_wp2_with fail
    go_ret
    exact ⟨ret_bool H.out.symm, Below.refl _ _⟩
  have d2 : decide (n ≤ i) = false := by simp; omega
  by_cases c3 : ss.length ≤ 63
  case neg =>
    have d3 : decide (63 < (ss.length : Int)) = true := by simp; omega
    have H : Hid (incA leaf i n ss root = false) := H0.out.trans (if_neg fun h => c3 h.2.2.1)
    go_enter Tryz.func131, Tryz.ntmps131
    go_wp2_with fail
    go_ret
    exact ⟨ret_bool H.out.symm, Below.refl _ _⟩
  have d3 : decide (63 < (ss.length : Int)) = false := by simp; omega
  have B0 : Hid (Below w.heap.size w (w.alloc (.cells #[.string leaf, .string root] 9))) := (Below.refl _ _).alloc (Nat.le_refl _) _
  have HA := areD_any _ 2 [leaf, root] _ (two_texts w leaf root 9) (by simp) (by simp)
  by_cases c4 : leaf.size = 32 ∧ root.size = 32
  case neg =>
    have H : Hid (incA leaf i n ss root = false) := H0.out.trans (if_neg fun h => c4 ⟨h.2.2.2.1, h.2.2.2.2.1⟩)
    have HW : Hid (wideB [leaf, root] = false) := by show _ = _; simp only [wideB, List.all_cons, List.all_nil, Bool.and_true]; simpa [Bool.and_eq_false_iff] using fun a b => c4 ⟨a, b⟩
    rw [HW.out] at HA
    clear c4
    go_enter Tryz.func131, Tryz.ntmps131
    go_wp2_with fail
    refine HA.mono ?_
    rintro e w1 ⟨rfl, hw1⟩
    subst hw1
    go_wp2_with fail
    go_ret
    exact ⟨ret_bool H.out.symm, B0.out⟩
  obtain ⟨c4, c5⟩ := c4
  have HW : Hid (wideB [leaf, root] = true) := by show _ = _; simp [wideB, c4, c5]
  rw [HW.out] at HA
  clear HW
  obtain ⟨W1, hW1⟩ : ∃ W1, W1 = w.alloc (.cells #[.string leaf, .string root] 9) := ⟨_, rfl⟩
  rw [← hW1] at HA B0
  have HWA : Hid (W1 = w.alloc (.cells #[.string leaf, .string root] 9)) := hW1
  clear hW1
  have HD := areD_any p cap ss W1 (HP.out.below B0.out) hn hcap
  cases c6 : wideB ss
  · have H : Hid (incA leaf i n ss root = false) := H0.out.trans (if_neg fun h => by rw [c6] at h; exact absurd h.2.2.2.2.2 (by simp))
    rw [c6] at HD
    clear c6
    go_enter Tryz.func131, Tryz.ntmps131
    go_wp2_with fail
    rw [← HWA.out]
    refine HA.mono ?_
    rintro e w1 ⟨rfl, hw1⟩
    subst hw1
    go_wp2_with fail
    refine HD.mono ?_
    rintro e w1 ⟨rfl, hw1⟩
    subst hw1
    go_wp2_with fail
    go_ret
    exact ⟨ret_bool H.out.symm, B0.out⟩
  · have H : Hid (incA leaf i n ss root = decide (cl leaf (dirs i.toNat n.toNat) ss = some root)) := H0.out.trans (if_pos ⟨c1, c2, c3, c4, c5, c6⟩)
    rw [c6] at HD
    have h32 := wideB_all c6
    have HE : Hid (∀ a, a = (dirs i.toNat n.toNat).foldl (stepP ss) (leaf, 0) → ((a.1 = root ∧ a.2 = ss.length) ↔ cl leaf (dirs i.toNat n.toNat) ss = some root)) := by
      rintro a rfl
      have := foldP h32 c5 (dirs i.toNat n.toNat) leaf 0 c4 (Nat.zero_le _)
      rwa [List.drop_zero] at this
    clear c6 H0
    obtain ⟨I, rfl⟩ := Int.eq_ofNat_of_zero_le c1
    obtain ⟨M, rfl⟩ := Int.eq_ofNat_of_zero_le (show 0 ≤ n by omega)
    have HTK := taker_any p ss cap W1
    have HTP := fun w' => takePath_any M W1 W1.heap.size (W1.heap.size + 1) p ss cap 0 I leaf w' (HT.out.below B0.out HT.out.1) (HP.out.below B0.out) (by omega) hcap h32 (by omega) (by omega) (by omega)
    simp only [Int.toNat_natCast] at HE H
    generalize hS : (dirs I M).foldl (stepP ss) (leaf, 0) = S at *
    have HE2 : Hid ((S.1 = root ∧ S.2 = ss.length) ↔ cl leaf (dirs I M) ss = some root) := HE.out S rfl
    clear hS HE h32
    obtain ⟨X, a⟩ := S
    have HTP' : Hid (∀ w', TkS W1 W1.heap.size (W1.heap.size + 1) p ss cap 0 w' → Calls Tryz.prog 173 #[.string leaf, .int .i64 (I : Int), .int .i64 (M : Int), takeF W1.heap.size (W1.heap.size + 1)] w' fun e w'' => e = .returned (.string X) ∧ TkS W1 W1.heap.size (W1.heap.size + 1) p ss cap a w'') := HTP
    clear HTP
    dsimp only at HE2
    unfold takeF at HTP' HTK
    unfold leftF at HTK
    by_cases hx : X = root
    · have q1 : (X.toList == root.toList) = true := by rw [hx]; simp
      clear hx
      have hx : Hid (X = root) := toList_inj' q1
      by_cases ha : a = ss.length
      · have HR : Hid (decide (cl leaf (dirs I M) ss = some root) = true) := decide_eq_true (HE2.out.1 ⟨hx.out, ha⟩)
        go_enter Tryz.func131, Tryz.ntmps131
        go_wp2_with fail
        rw [← HWA.out]
        refine HA.mono ?_
        rintro e w1 ⟨rfl, hw1⟩
        subst hw1
        go_wp2_with fail
        refine HD.mono ?_
        rintro e w1 ⟨rfl, hw1⟩
        subst hw1
        go_wp2_with fail
        refine HTK.mono ?_
        rintro e w2 ⟨rfl, K2⟩
        have HK2 : Hid _ := K2
        clear K2
        go_wp2_with fail
        refine (HTP'.out _ HK2.out).mono ?_
        rintro e w3 ⟨rfl, K3⟩
        have HK3 : Hid (TkS w1 w1.heap.size (w1.heap.size + 1) p ss cap a w3) := K3
        clear K3
        go_wp2_with fail
        refine (left_any w1 w1.heap.size (w1.heap.size + 1) p ss cap a w3 (by omega) HK3.out).mono ?_
        rintro e w4 ⟨rfl, hw4⟩
        subst hw4
        go_wp2_with fail
        go_ret
        exact ⟨ret_bool (by rw [H.out, HR.out]; try (simp <;> omega)), B0.out.trans (HK3.out.bel.mono B0.out.size)⟩
      · have HR : Hid (decide (cl leaf (dirs I M) ss = some root) = false) := decide_eq_false fun h => ha (HE2.out.2 h).2
        go_enter Tryz.func131, Tryz.ntmps131
        go_wp2_with fail
        rw [← HWA.out]
        refine HA.mono ?_
        rintro e w1 ⟨rfl, hw1⟩
        subst hw1
        go_wp2_with fail
        refine HD.mono ?_
        rintro e w1 ⟨rfl, hw1⟩
        subst hw1
        go_wp2_with fail
        refine HTK.mono ?_
        rintro e w2 ⟨rfl, K2⟩
        have HK2 : Hid _ := K2
        clear K2
        go_wp2_with fail
        refine (HTP'.out _ HK2.out).mono ?_
        rintro e w3 ⟨rfl, K3⟩
        have HK3 : Hid (TkS w1 w1.heap.size (w1.heap.size + 1) p ss cap a w3) := K3
        clear K3
        go_wp2_with fail
        refine (left_any w1 w1.heap.size (w1.heap.size + 1) p ss cap a w3 (by omega) HK3.out).mono ?_
        rintro e w4 ⟨rfl, hw4⟩
        subst hw4
        go_wp2_with fail
        go_ret
        exact ⟨ret_bool (by rw [H.out, HR.out]; try (simp <;> omega)), B0.out.trans (HK3.out.bel.mono B0.out.size)⟩
    · have HR : Hid (decide (cl leaf (dirs I M) ss = some root) = false) := decide_eq_false fun h => hx (HE2.out.2 h).1
      have q1 : (X.toList == root.toList) = false := by rw [beq_eq_false_iff_ne]; exact fun h => hx (toList_inj' (by rw [h]; simp))
      clear hx
      go_enter Tryz.func131, Tryz.ntmps131
      go_wp2_with fail
      rw [← HWA.out]
      refine HA.mono ?_
      rintro e w1 ⟨rfl, hw1⟩
      subst hw1
      go_wp2_with fail
      refine HD.mono ?_
      rintro e w1 ⟨rfl, hw1⟩
      subst hw1
      go_wp2_with fail
      refine HTK.mono ?_
      rintro e w2 ⟨rfl, K2⟩
      have HK2 : Hid _ := K2
      clear K2
      go_wp2_with fail
      refine (HTP'.out _ HK2.out).mono ?_
      rintro e w3 ⟨rfl, K3⟩
      have HK3 : Hid (TkS w1 w1.heap.size (w1.heap.size + 1) p ss cap a w3) := K3
      clear K3
      go_wp2_with fail
      go_ret
      exact ⟨ret_bool (by rw [H.out, HR.out]), B0.out.trans (HK3.out.bel.mono B0.out.size)⟩
end Go.Proofs.YtonleickhincgaaGreatDoor
/-
  Rows of texts that are filled one by one, and rows of six numbers, as plain lists: what the program's chains come to.
-/
namespace Go.Proofs.YtonleickhincgaaGreatDoor
open Go.RowKit Go.Lib
set_option linter.unusedVariables false

/-- A row of n texts of which the first k are there. -/
def fillTo (f : Nat → ByteArray) (n k : Nat) : List ByteArray := (List.range k).map f ++ List.replicate (n - k) ByteArray.empty
theorem fillTo_len (f : Nat → ByteArray) (n k : Nat) (h : k ≤ n) : (fillTo f n k).length = n := by simp [fillTo]; omega
theorem fillTo_zero (f : Nat → ByteArray) (n : Nat) : fillTo f n 0 = List.replicate n ByteArray.empty := by simp [fillTo]
theorem fillTo_all (f : Nat → ByteArray) (n : Nat) : fillTo f n n = (List.range n).map f := by simp [fillTo]
theorem fillTo_set (f : Nat → ByteArray) (n k : Nat) (h : k < n) : (fillTo f n k).set k (f k) = fillTo f n (k + 1) := by
  unfold fillTo
  obtain ⟨m, hm⟩ : ∃ m, n - k = m + 1 := ⟨n - k - 1, by omega⟩
  rw [hm, List.replicate_succ, List.range_succ, List.map_append, show n - (k + 1) = m by omega]
  rw [List.set_append_right _ _ (by simp)]
  simp
theorem range_get (f : Nat → ByteArray) (n k : Nat) (h : k < n) : ((List.range n).map f).getD k ByteArray.empty = f k := by simp [List.getD_eq_getElem?_getD, h]
theorem range_len (f : Nat → ByteArray) (n : Nat) : ((List.range n).map f).length = n := by simp
theorem range_wide (f : Nat → ByteArray) (n : Nat) (h : ∀ j, (f j).size = 32) : ∀ x ∈ (List.range n).map f, x.size = 32 := by
  intro x hx
  obtain ⟨i, _, rfl⟩ := List.mem_map.1 hx
  exact h i
theorem cat_map (f : Nat → ByteArray) : ∀ n, cat ((List.range n).map f) = catB f n
  | 0 => rfl
  | n + 1 => by
    rw [List.range_succ, List.map_append]
    show _ = catB f n ++ f n
    rw [← cat_map f n]
    apply ByteArray.ext
    simp [cat]
/-- Six numbers, as the cells of an array. -/
def numA (l : List Int) : Array Value := (l.map (Value.int .i64)).toArray
theorem numA_size (l : List Int) : (numA l).size = l.length := by simp [numA]
theorem numA_at (l : List Int) (k : Nat) (h : k < l.length) : (numA l)[k]? = some (.int .i64 (l.getD k 0)) := by
  simp [numA, List.getD_eq_getElem?_getD, h]
theorem numA_one (l : List Int) : (numA l).all (·.oneCell') = true := by
  unfold numA
  rw [List.all_toArray, List.all_eq_true]
  intro x hx
  obtain ⟨i, _, rfl⟩ := List.mem_map.1 hx
  rfl
theorem numA_set (l : List Int) (k : Nat) (v : Int) : (numA l).setIfInBounds k (.int .i64 v) = numA (l.set k v) := by
  simp [numA, List.map_set]
/-- Each chain, so many steps further. -/
def goneTo (chains : List ByteArray) (steps : List Int) (j : Nat) : ByteArray := stepsB (steps.getD j 0).toNat (chains.getD j ByteArray.empty)
end Go.Proofs.YtonleickhincgaaGreatDoor
/-
  What the program's digestOfAll answers: the digest of all texts, one behind the other.
  Conditions: the two tables of the digest lie as laid.
-/
namespace Go.Proofs.YtonleickhincgaaGreatDoor
open Go.RowKit Go.Lib
set_option linter.unusedVariables false

set_option maxHeartbeats 1000000 in
theorem digAll_any (g c : Nat) (ss : List ByteArray) (w : World) (hT : Tabs w) (hb : BlkS w g ss) (hn : ss.length ≤ 1024) (hc : ss.length ≤ c) (htot : (cat ss).size ≤ 1099511627776) :
    Calls Tryz.prog 129 #[.slice (some ⟨g, 0, none⟩) ss.length c] w fun e w' => e = .returned (.string (digB (cat ss))) ∧ Below w.heap.size w w' := by
  have hJ := joined_any g 0 ss.length c ss w rfl hb.lt (by omega) hc (fun i h => by rw [Nat.zero_add]; exact (hb.cell i h).1) (by rw [← cat_size]; omega)
  have HT : Hid (Tabs w) := hT
  clear hT hb
  generalize cat ss = C at *
  go_enter Tryz.func129, Tryz.ntmps129
  go_wp2_with fail
  refine hJ.mono ?_
  rintro e w1 ⟨rfl, b1⟩
  go_wp2_with fail
  refine (digI_any C w1 htot (HT.out.below b1 HT.out.1)).mono ?_
  rintro e w2 ⟨rfl, b2⟩
  have b2 := chainB b1 b2
  go_wp2_with fail
  go_ret
  exact ⟨rfl, b2⟩
end Go.Proofs.YtonleickhincgaaGreatDoor
/-
  What the program's seedRight, walked (with Digest as its step), allWalked and digestOfAll answer.
  Conditions: the chains' texts have 32 bytes; the two tables lie as the program's text lays them.
-/
namespace Go.Proofs.YtonleickhincgaaGreatDoor
open Go.RowKit Go.Lib
set_option linter.unusedVariables false
set_option maxRecDepth 20000

/-- Digest, handed on as a value. -/
def digF : Value := .func (.func 171) #[] #[]

set_option maxHeartbeats 1000000 in
theorem walked_any (t : ByteArray) (n : Nat) (w : World) (hT : Tabs w) (ht : t.size ≤ 8000) (hn : n ≤ 1000) :
    Calls Tryz.prog 170 #[.string t, .int .i64 (n : Int), .func (.func 171) #[] #[]] w fun e w' => e = .returned (.string (stepsB n t)) ∧ Below w.heap.size w w' := by
  obtain ⟨R, hR⟩ : ∃ R, R = stepsB n t := ⟨_, rfl⟩
  rw [← hR]
  have HR : Hid (R = stepsB n t) := hR
  have HT : Hid (Tabs w) := hT
  clear hR hT
  go_enter Tryz.func170, Tryz.ntmps170
  go_wp2_with fail
  go_loopw [0, 8] (fun s i wr => ∃ (k : Nat) (u : ByteArray), s = .string u ∧ i = .int .i64 k ∧ k ≤ n ∧ u.size ≤ 8000 ∧ Hid (R = stepsB (n - k) u) ∧ Hid (Below w.heap.size w wr)) (fun _ i _ => n - (Go.RowKit.intOf i).toNat)
  case atStart => exact ⟨0, t, rfl, rfl, by omega, ht, HR, Below.refl _ _⟩
  case round =>
    clear HR
    obtain ⟨k, u, rfl, rfl, hk, hu, HR, HB⟩ := hrel
    by_cases hlt : k < n
    · have d1 : decide ((k : Int) < n) = true := decide_eq_true (by omega)
      have HR2 : Hid (R = stepsB (n - (k + 1)) (digB u)) := by
        have h := HR.out
        rw [show n - k = (n - (k + 1)) + 1 by omega] at h
        exact h
      have hs := digB_size u
      have hD := implDigest_any u wr (by unfold maxLen; omega) (HT.out.below HB.out HT.out.1)
      rw [show digestB u = digB u from if_pos hu] at hD
      clear HR
      go_wp2_with fail
      refine hD.mono ?_
      rintro e w1 ⟨rfl, b1⟩
      generalize digB u = D at *
      have HB1 : Hid (Below w.heap.size w w1) := chainB HB.out b1
      clear b1 HB hD
      go_wp2_with fail
      go_roundw
      case rel => exact ⟨k + 1, D, rfl, by go_num, by omega, by omega, HR2, HB1⟩
      case measure => simp [Go.RowKit.intOf]; omega
    · obtain rfl : k = n := by omega
      have HR2 : Hid (R = u) := by
        have h := HR.out
        rw [show k - k = 0 by omega] at h
        exact h
      have d1 : decide ((k : Int) < k) = false := decide_eq_false (by omega)
      clear HR
      go_wp2_with fail
      go_ret
      exact ⟨ret_str HR2.out.symm, HB.out⟩

end Go.Proofs.YtonleickhincgaaGreatDoor
/-
  What the program's allWalked answers: a new row of six texts, each chain so many steps further.
  Conditions: the chains' texts have 32 bytes; each number of steps is from 0 to 15; the two tables lie as the program's text lays them.
-/
namespace Go.Proofs.YtonleickhincgaaGreatDoor
open Go.RowKit Go.Lib
set_option linter.unusedVariables false
set_option maxRecDepth 20000

theorem under6 : Tryz.prog.underlying 180 = some (.array (Tryz.prog.arrayLen 180) (Tryz.prog.elem 180)) := by kernel_rfl
theorem len6 : Tryz.prog.arrayLen 180 = 6 := by kernel_rfl
theorem info6 : (Tryz.prog.info? 180).map (·.size) = some 6 := by kernel_rfl
theorem numA_cell {w : World} {g : Nat} {l : List Int} {T : TypeId} (h : w.heap[g]? = some (.cells (numA l) T (0, 0))) (i : Nat) (hi : i < l.length) : w.cell? ⟨g, i, none⟩ = some (.int .i64 (l.getD i 0)) ∧ w.frozen? ⟨g, i, none⟩ = false := by
  constructor
  · simp [World.cell?, h, numA, List.getElem?_eq_getElem hi, List.getD_eq_getElem?_getD]
  · simp [World.frozen?, h]

set_option maxHeartbeats 4000000 in
theorem allWalked_any (q : Option Addr) (c : Nat) (chains : List ByteArray) (steps : List Int) (w : World) (hT : Tabs w) (hq : TxtAt w q chains) (hl : chains.length = 6) (hc : 6 ≤ c) (h32 : ∀ x ∈ chains, x.size = 32) (hs : steps.length = 6) (hb : ∀ j, j < 6 → 0 ≤ steps.getD j 0 ∧ steps.getD j 0 ≤ 15) :
    Calls Tryz.prog 130 #[.slice q 6 c, .agg (numA steps)] w fun e w' => ∃ g, e = .returned (.slice (some ⟨g, 0, none⟩) 6 6) ∧ w.heap.size ≤ g ∧ BlkS w' g ((List.range 6).map (goneTo chains steps)) ∧ Below w.heap.size w w' := by
  have HT : Hid (Tabs w) := hT
  have HQ : Hid (TxtAt w q chains) := hq
  have HL : Hid (chains.length = 6) := hl
  have H32 : Hid (∀ x ∈ chains, x.size = 32) := h32
  have HS : Hid (steps.length = 6) := hs
  have HBd : Hid (∀ j, j < 6 → 0 ≤ steps.getD j 0 ∧ steps.getD j 0 ≤ 15) := hb
  clear hT hq hl h32 hs hb
  obtain ⟨bq, oq, rfl, -, -⟩ := HQ.out 0 (by rw [HL.out]; omega)
  obtain ⟨f, hf⟩ : ∃ f, f = goneTo chains steps := ⟨_, rfl⟩
  have HF : Hid (f = goneTo chains steps) := hf
  rw [← hf]
  clear hf
  have HFA : Hid (fillTo f 6 6 = (List.range 6).map f) := fillTo_all f 6
  rw [← HFA.out]
  obtain ⟨W1, hW1⟩ : ∃ W1, W1 = w.alloc (.cells (numA steps) 180) := ⟨_, rfl⟩
  have HW1 : Hid (W1 = w.alloc (.cells (numA steps) 180)) := hW1
  have S1 : W1.heap.size = w.heap.size + 1 := by rw [hW1]; simp
  have R1 : W1.heap[w.heap.size]? = some (.cells (numA steps) 180 (0, 0)) := by rw [hW1]; exact (MapKept.heap_alloc w _).1
  have B1 : Below w.heap.size w W1 := by rw [hW1]; exact (Below.refl _ _).alloc (Nat.le_refl _) _
  clear hW1
  obtain ⟨W2, hW2⟩ : ∃ W2, W2 = W1.alloc (.cells (strRow (fillTo f 6 0)).toArray 9) := ⟨_, rfl⟩
  have hmk := run_make_str 6 (by omega) W1
  rw [← fillTo_zero f 6, ← hW2] at hmk
  rw [show ((6 : Nat) : Int) = (6 : Int) from rfl] at hmk
  have R2 : Hid (W2.heap[w.heap.size]? = some (.cells (numA steps) 180 (0, 0))) := by rw [hW2]; exact (Below.heap_alloc _ _ _ (by omega)).trans R1
  have K2 : Hid (BlkS W2 W1.heap.size (fillTo f 6 0)) := by rw [hW2]; exact alloc_str _ _
  have B2 : Hid (Below w.heap.size w W2) := by rw [hW2]; exact B1.alloc B1.size _
  rw [S1] at K2 hmk
  rw [HW1.out] at hmk
  clear hW2 R1 B1 S1
  go_enter Tryz.func130, Tryz.ntmps130
  go_wp2_with fail
  go_loopw [10] (fun i wr => ∃ (k : Nat), i = .int .i64 k ∧ k ≤ 6 ∧ Hid (wr.heap[w.heap.size]? = some (.cells (numA steps) 180 (0, 0))) ∧ Hid (BlkS wr (w.heap.size + 1) (fillTo f 6 k)) ∧ Hid (Below w.heap.size w wr)) (fun i _ => 6 - (Go.RowKit.intOf i).toNat)
  case atStart => exact ⟨0, rfl, by omega, R2, K2, B2⟩
  case round =>
    clear hmk R2 K2 B2 HW1
    obtain ⟨k, rfl, hk, HR, HK, HB⟩ := hrel
    by_cases hlt : k < 6
    · have d1 : decide ((k : Int) < 6) = true := decide_eq_true (by omega)
      have i1 : (k : Int) < 6 := by omega
      have hkc : k < chains.length := by rw [HL.out]; omega
      have x1 := (HQ.out.below HB.out).at k hkc
      obtain ⟨x2, -⟩ := numA_cell HR.out k (by rw [HS.out]; omega)
      obtain ⟨m0, m1⟩ := HBd.out k hlt
      have hE32 := H32.out _ (List.getElem_mem hkc)
      have HU : Hid (f k = stepsB (steps.getD k 0).toNat chains[k]) := by
        show _ = _
        rw [HF.out]
        unfold goneTo
        congr 1
        simp [List.getD_eq_getElem?_getD, hkc]
      obtain ⟨M, hM⟩ := Int.eq_ofNat_of_zero_le m0
      rw [hM] at x2 m1 HU
      rw [Int.toNat_natCast] at HU
      have hset := fillTo_set f 6 k hlt
      have hlen := fillTo_len f 6 k (by omega)
      have hlt2 := HK.out.lt
      have HX : Hid (∀ y, Below wr.heap.size wr y → y.frozen? ⟨w.heap.size + 1, k, none⟩ = false ∧ (∃ v, y.cell? ⟨w.heap.size + 1, k, none⟩ = some v) ∧ Hid ((y.setCell ⟨w.heap.size + 1, k, none⟩ (.string (f k))).heap[w.heap.size]? = some (.cells (numA steps) 180 (0, 0))) ∧ Hid (BlkS (y.setCell ⟨w.heap.size + 1, k, none⟩ (.string (f k))) (w.heap.size + 1) (fillTo f 6 (k + 1))) ∧ Hid (Below w.heap.size w (y.setCell ⟨w.heap.size + 1, k, none⟩ (.string (f k))))) := by
        intro y hb
        have hK := HK.out.below hb hlt2
        obtain ⟨c1, c2⟩ := hK.cell k (by rw [hlen]; omega)
        refine ⟨c2, ⟨_, c1⟩, ?_, ?_, ?_⟩
        · show _ = _
          rw [show (y.setCell ⟨w.heap.size + 1, k, none⟩ (.string (f k))).heap[w.heap.size]? = y.heap[w.heap.size]? by simp [World.setCell, Array.getElem?_modify]]
          exact (hb.block _ (by omega)).trans HR.out
        · show BlkS _ _ _
          rw [← hset]; exact hK.set k _
        · exact (HB.out.trans (hb.mono HB.out.size)).setCell (by show w.heap.size ≤ w.heap.size + 1; omega) _
      have QW : Hid (∀ y, Below wr.heap.size wr y → Calls Tryz.prog 170 #[.string chains[k], .int .i64 (M : Int), .func (.func 171) #[] #[]] y fun e x1 => e = .returned (.string (f k)) ∧ Below y.heap.size y x1) := fun y hb => by
        rw [HU.out]
        exact walked_any _ M y (HT.out.below (HB.out.trans (hb.mono HB.out.size)) HT.out.1) (by omega) (by omega)
      have i2 : (0 : Int) ≤ k := by omega
      generalize chains[k] = C at *
      generalize f k = E at *
      clear HU hM m0 hE32 hset hlen
      go_wp2_with fail
      go_region_with (first
        | (go_at_call 170; refine (QW.out _ (by first | exact Below.refl _ _ | exact (Below.refl _ _).drew)).mono ?_; rintro e y1 ⟨rfl, z1⟩; have z1 : Below wr.heap.size wr y1 := chainB (by first | exact Below.refl _ _ | exact (Below.refl _ _).drew) z1; obtain ⟨x3, ⟨v4, x4⟩, x5, x6, x7⟩ := HX.out _ z1))
      all_goals
        clear HR HK HB z1 x3 x4
        go_wp2_with fail
        go_roundw
        case rel => exact ⟨k + 1, by go_num, by omega, x5, x6, x7⟩
        case measure => simp [Go.RowKit.intOf]; omega
    · obtain rfl : k = 6 := by omega
      rw [show ((6 : Nat) : Int) = (6 : Int) from rfl]
      go_wp2_with fail
      go_ret
      exact ⟨_, rfl, by omega, HK.out, HB.out⟩
end Go.Proofs.YtonleickhincgaaGreatDoor
/-
  What the program's digitsOf answers: 'digsI', six numbers.
  Conditions: the text has at most 2^20 bytes; the two tables lie as the program's text lays them.
-/
namespace Go.Proofs.YtonleickhincgaaGreatDoor
open Go.RowKit Go.Lib
set_option linter.unusedVariables false
set_option maxRecDepth 20000

def digRow (a b : Int) : Nat → List Int
  | 0 => [0, 0, 0, 0, 0, 0]
  | 1 => [a / 16, a % 16, 0, 0, 0, 0]
  | _ => [a / 16, a % 16, b / 16, b % 16, 0, 0]
def digLack (a b : Int) : Nat → Int
  | 0 => 60
  | 1 => 60 - (a / 16 + a % 16)
  | _ => 60 - (a / 16 + a % 16) - (b / 16 + b % 16)
theorem digsI_eq (t : ByteArray) (a b : Int) (ha : a = byteAt (digB t) 0) (hb : b = byteAt (digB t) 1) : digsI t = [a / 16, a % 16, b / 16, b % 16, digLack a b 2 / 16, digLack a b 2 % 16] := by
  unfold digsI digLack
  rw [← ha, ← hb]
  have e : 60 - a / 16 - a % 16 - b / 16 - b % 16 = 60 - (a / 16 + a % 16) - (b / 16 + b % 16) := by omega
  simp only [e]

theorem ld6 {w : World} {g : Nat} {l : List Int} (hl : l.length = 6) (h : w.heap[g]? = some (.cells (numA l) 180 (0, 0))) : (loadVar 180 ⟨g, 0, none⟩).run Tryz.prog w = .ok (.agg (numA l)) w :=
  run_loadVar_row (P := Tryz.prog) w g 180 180 _ (0, 0) _ h under6 rfl (by rw [numA_size, hl]; exact info6)
theorem st6 {w : World} {g : Nat} {l : List Int} (l' : List Int) (hl : l.length = 6) (hl' : l'.length = 6) (h : w.heap[g]? = some (.cells (numA l) 180 (0, 0))) : (storeVar 180 ⟨g, 0, none⟩ (.agg (numA l'))).run Tryz.prog w = .ok () (w.setRow g (numA l')) :=
  run_storeVar_row (P := Tryz.prog) w g 180 180 _ (numA l') h (by rw [numA_size, hl']; exact info6) (by rw [numA_size, numA_size, hl, hl']) (numA_one _)

set_option maxHeartbeats 4000000 in
theorem digits_any (t : ByteArray) (w : World) (hT : Tabs w) (ht : t.size ≤ 1048576) :
    Calls Tryz.prog 128 #[.string t] w fun e w' => e = .returned (.agg (numA (digsI t))) ∧ Below w.heap.size w w' := by
  obtain ⟨D, hD⟩ : ∃ D, D = digB t := ⟨_, rfl⟩
  have hs : D.size = 32 := by rw [hD]; exact digB_size t
  have h0 : 0 < D.size := by omega
  have h1 : 1 < D.size := by omega
  have e0 : byteAt D 0 = ((D[0]'h0).toNat : Int) := by
    unfold byteAt; simp [List.getD_eq_getElem?_getD]; rw [Array.getElem?_eq_getElem h0]; rfl
  have e1 : byteAt D 1 = ((D[1]'h1).toNat : Int) := by
    unfold byteAt; simp [List.getD_eq_getElem?_getD]; rw [Array.getElem?_eq_getElem h1]; rfl
  have c0 : ((D[0]'h0).toNat : Int) ≤ 255 := by have := (D[0]'h0).toNat_lt; omega
  have c1 : ((D[1]'h1).toNat : Int) ≤ 255 := by have := (D[1]'h1).toNat_lt; omega
  have n0 : 0 ≤ ((D[0]'h0).toNat : Int) := by omega
  have n1 : 0 ≤ ((D[1]'h1).toNat : Int) := by omega
  have HG : Hid (∀ A B : Int, A = ((D[0]'h0).toNat : Int) → B = ((D[1]'h1).toNat : Int) → digsI t = [A / 16, A % 16, B / 16, B % 16, digLack A B 2 / 16, digLack A B 2 % 16]) := fun A B hA hB => digsI_eq t A B (by rw [hA, ← hD, e0]) (by rw [hB, ← hD, e1])
  have HT : Hid (Tabs w) := hT
  obtain ⟨RS, hRS⟩ : ∃ RS, RS = digsI t := ⟨_, rfl⟩
  rw [← hRS]
  rw [← hRS] at HG
  clear hT e0 e1 hRS
  have e48 : (w.alloc (.cells #[.int .i64 0, .int .i64 0, .int .i64 0, .int .i64 0, .int .i64 0, .int .i64 0] 180)).heap.size = w.heap.size + 1 := by simp
  obtain ⟨W2, hW2⟩ : ∃ W2, W2 = (w.alloc (.cells #[.int .i64 0, .int .i64 0, .int .i64 0, .int .i64 0, .int .i64 0, .int .i64 0] 180)).alloc (.cells #[.int .i64 0, .int .i64 0, .int .i64 0, .int .i64 0, .int .i64 0, .int .i64 0] 180) := ⟨_, rfl⟩
  have HW2 : Hid (W2 = (w.alloc (.cells #[.int .i64 0, .int .i64 0, .int .i64 0, .int .i64 0, .int .i64 0, .int .i64 0] 180)).alloc (.cells #[.int .i64 0, .int .i64 0, .int .i64 0, .int .i64 0, .int .i64 0, .int .i64 0] 180)) := hW2
  have R0 : Hid (W2.heap[w.heap.size]? = some (.cells (numA (digRow 0 0 0)) 180 (0, 0))) := by rw [hW2]; exact (Below.heap_alloc _ _ _ (by rw [e48]; omega)).trans (MapKept.heap_alloc w _).1
  have R1 : Hid (W2.heap[w.heap.size + 1]? = some (.cells (numA (digRow 0 0 0)) 180 (0, 0))) := by rw [hW2, ← e48]; exact (MapKept.heap_alloc _ _).1
  have B2 : Hid (Below w.heap.size w W2) := by rw [hW2]; exact ((Below.refl _ _).alloc (Nat.le_refl _) _).alloc (by rw [e48]; omega) _
  have S2 : Hid (w.heap.size + 2 ≤ W2.heap.size) := by rw [hW2]; show _ ≤ _; simp
  have hA := digI_any t W2 (by omega) (HT.out.below B2.out HT.out.1)
  rw [← hD] at hA
  clear hW2 hD e48
  go_enter Tryz.func128, Tryz.ntmps128
  go_wp2_with fail
  rw [← HW2.out]
  refine hA.mono ?_
  rintro e w3 ⟨rfl, b3⟩
  obtain ⟨A, hAe⟩ : ∃ A, A = ((D[0]'h0).toNat : Int) := ⟨_, rfl⟩
  obtain ⟨B, hBe⟩ : ∃ B, B = ((D[1]'h1).toNat : Int) := ⟨_, rfl⟩
  have HG2 : Hid (RS = [A / 16, A % 16, B / 16, B % 16, digLack A B 2 / 16, digLack A B 2 % 16]) := HG.out A B hAe hBe
  have Q0 : Hid (w3.heap[w.heap.size]? = some (.cells (numA (digRow 0 0 0)) 180 (0, 0))) := (b3.block _ (by have := S2.out; omega)).trans R0.out
  have Q1 : Hid (w3.heap[w.heap.size + 1]? = some (.cells (numA (digRow A B 0)) 180 (0, 0))) := (b3.block _ (by have := S2.out; omega)).trans R1.out
  have BB : Hid (Below w.heap.size w w3) := chainB B2.out b3
  rw [← hAe] at c0 n0
  rw [← hBe] at c1 n1
  have HAe : Hid (((D[0]'h0).toNat : Int) = A) := hAe.symm
  have HBe : Hid (((D[1]'h1).toNat : Int) = B) := hBe.symm
  have HA : 0 ≤ A / 16 ∧ A / 16 ≤ 15 ∧ 0 ≤ A % 16 ∧ A % 16 ≤ 15 := by omega
  have HB : 0 ≤ B / 16 ∧ B / 16 ≤ 15 ∧ 0 ≤ B % 16 ∧ B % 16 ≤ 15 := by omega
  have wA : wrap64 (A / 16) = A / 16 := by unfold wrap64; omega
  have wB : wrap64 (B / 16) = B / 16 := by unfold wrap64; omega
  obtain ⟨a0, a1, a2, a3⟩ := HA
  obtain ⟨a4, a5, a6, a7⟩ := HB
  clear hA b3 R0 R1 B2 HG hAe hBe HW2
  go_wp2_with fail
  go_loopw [5, 11] (fun l i wr => ∃ (k : Nat), i = .int .i64 k ∧ k ≤ 2 ∧ l = .int .i64 (digLack A B k) ∧ Hid (wr.heap[w.heap.size]? = some (.cells (numA (digRow 0 0 0)) 180 (0, 0))) ∧ Hid (wr.heap[w.heap.size + 1]? = some (.cells (numA (digRow A B k)) 180 (0, 0))) ∧ Hid (Below w.heap.size w wr)) (fun _ i _ => 2 - (Go.RowKit.intOf i).toNat)
  case atStart => exact ⟨0, rfl, by omega, rfl, Q0, Q1, BB⟩
  case round =>
    clear Q0 Q1 BB
    obtain ⟨k, rfl, hk, rfl, P0, P1, PB⟩ := hrel
    have hk3 : k = 0 ∨ k = 1 ∨ k = 2 := by omega
    rcases hk3 with rfl | rfl | rfl
    · rw [show ((0 : Nat) : Int) = (0 : Int) from rfl, show digLack A B 0 = 60 from rfl]
      have f0 := (numA_cell P1.out 0 (by show 0 < 6; omega)).2
      have f1 := (numA_cell P1.out 1 (by show 1 < 6; omega)).2
      have g0 := (numA_cell P1.out 0 (by show 0 < 6; omega)).1
      have g1 := (numA_cell P1.out 1 (by show 1 < 6; omega)).1
      have X1 : Hid (((wr.setCell ⟨w.heap.size + 1, 0, none⟩ (.int .i64 (A / 16))).setCell ⟨w.heap.size + 1, 1, none⟩ (.int .i64 (A % 16))).heap[w.heap.size + 1]? = some (.cells (numA (digRow A B 1)) 180 (0, 0))) := by
        show _ = _
        rw [blk_set (blk_set P1.out _), numA_set, numA_set]; rfl
      have X0 : Hid (((wr.setCell ⟨w.heap.size + 1, 0, none⟩ (.int .i64 (A / 16))).setCell ⟨w.heap.size + 1, 1, none⟩ (.int .i64 (A % 16))).heap[w.heap.size]? = some (.cells (numA (digRow 0 0 0)) 180 (0, 0))) := by
        show _ = _
        rw [← P0.out]; simp [World.setCell, Array.getElem?_modify]
      have XB : Hid (Below w.heap.size w ((wr.setCell ⟨w.heap.size + 1, 0, none⟩ (.int .i64 (A / 16))).setCell ⟨w.heap.size + 1, 1, none⟩ (.int .i64 (A % 16)))) := (PB.out.setCell (by show w.heap.size ≤ w.heap.size + 1; omega) _).setCell (by show w.heap.size ≤ w.heap.size + 1; omega) _
      have hlk : Hid (digLack A B 1 = 60 - (A / 16 + A % 16)) := rfl
      clear P0 P1 PB
      go_wp2_with fail
      go_region
      rw [HAe.out, wA]
      go_wp2_with fail
      go_roundw
      case rel => exact ⟨1, by go_num, by omega, by rw [hlk.out], X0, X1, XB.out.drew⟩
      case measure => simp [Go.RowKit.intOf]
    · rw [show ((1 : Nat) : Int) = (1 : Int) from rfl]
      have f0 := (numA_cell P1.out 2 (by show 2 < 6; omega)).2
      have f1 := (numA_cell P1.out 3 (by show 3 < 6; omega)).2
      have g0 := (numA_cell P1.out 2 (by show 2 < 6; omega)).1
      have g1 := (numA_cell P1.out 3 (by show 3 < 6; omega)).1
      have X1 : Hid (((wr.setCell ⟨w.heap.size + 1, 2, none⟩ (.int .i64 (B / 16))).setCell ⟨w.heap.size + 1, 3, none⟩ (.int .i64 (B % 16))).heap[w.heap.size + 1]? = some (.cells (numA (digRow A B 2)) 180 (0, 0))) := by
        show _ = _
        rw [blk_set (blk_set P1.out _), numA_set, numA_set]; rfl
      have X0 : Hid (((wr.setCell ⟨w.heap.size + 1, 2, none⟩ (.int .i64 (B / 16))).setCell ⟨w.heap.size + 1, 3, none⟩ (.int .i64 (B % 16))).heap[w.heap.size]? = some (.cells (numA (digRow 0 0 0)) 180 (0, 0))) := by
        show _ = _
        rw [← P0.out]; simp [World.setCell, Array.getElem?_modify]
      have XB : Hid (Below w.heap.size w ((wr.setCell ⟨w.heap.size + 1, 2, none⟩ (.int .i64 (B / 16))).setCell ⟨w.heap.size + 1, 3, none⟩ (.int .i64 (B % 16)))) := (PB.out.setCell (by show w.heap.size ≤ w.heap.size + 1; omega) _).setCell (by show w.heap.size ≤ w.heap.size + 1; omega) _
      have hlk : Hid (digLack A B 2 = digLack A B 1 - (B / 16 + B % 16)) := rfl
      have l0 : 0 ≤ digLack A B 1 ∧ digLack A B 1 ≤ 60 := by show 0 ≤ 60 - (A / 16 + A % 16) ∧ 60 - (A / 16 + A % 16) ≤ 60; omega
      obtain ⟨l0, l1⟩ := l0
      generalize digLack A B 1 = L at *
      clear P0 P1 PB
      go_wp2_with fail
      go_region
      rw [HBe.out, wB]
      go_wp2_with fail
      go_roundw
      case rel => exact ⟨2, by go_num, by omega, by rw [hlk.out], X0, X1, XB.out.drew⟩
      case measure => simp [Go.RowKit.intOf]
    · rw [show ((2 : Nat) : Int) = (2 : Int) from rfl]
      have f0 := (numA_cell P1.out 4 (by show 4 < 6; omega)).2
      have f1 := (numA_cell P1.out 5 (by show 5 < 6; omega)).2
      have g0 := (numA_cell P1.out 4 (by show 4 < 6; omega)).1
      have g1 := (numA_cell P1.out 5 (by show 5 < 6; omega)).1
      have l0 : 0 ≤ digLack A B 2 ∧ digLack A B 2 ≤ 60 := by show 0 ≤ 60 - (A / 16 + A % 16) - (B / 16 + B % 16) ∧ 60 - (A / 16 + A % 16) - (B / 16 + B % 16) ≤ 60; omega
      obtain ⟨l0, l1⟩ := l0
      have hr6 : RS.length = 6 := by rw [HG2.out]; rfl
      have X1 : ((wr.setCell ⟨w.heap.size + 1, 4, none⟩ (.int .i64 (digLack A B 2 / 16))).setCell ⟨w.heap.size + 1, 5, none⟩ (.int .i64 (digLack A B 2 % 16))).heap[w.heap.size + 1]? = some (.cells (numA RS) 180 (0, 0)) := by
        rw [blk_set (blk_set P1.out _), numA_set, numA_set, HG2.out]; rfl
      have X0 : ((wr.setCell ⟨w.heap.size + 1, 4, none⟩ (.int .i64 (digLack A B 2 / 16))).setCell ⟨w.heap.size + 1, 5, none⟩ (.int .i64 (digLack A B 2 % 16))).heap[w.heap.size]? = some (.cells (numA (digRow 0 0 0)) 180 (0, 0)) := by
        rw [← P0.out]; simp [World.setCell, Array.getElem?_modify]
      have XB : Below w.heap.size w ((wr.setCell ⟨w.heap.size + 1, 4, none⟩ (.int .i64 (digLack A B 2 / 16))).setCell ⟨w.heap.size + 1, 5, none⟩ (.int .i64 (digLack A B 2 % 16))) := (PB.out.setCell (by show w.heap.size ≤ w.heap.size + 1; omega) _).setCell (by show w.heap.size ≤ w.heap.size + 1; omega) _
      generalize digLack A B 2 = L at *
      have XL : Hid _ := ld6 hr6 X1
      have XS : Hid _ := st6 RS rfl hr6 X0
      have XR : Hid _ := ld6 hr6 (setRow_heap _ w.heap.size _ (numA RS) 180 _ X0)
      have XE := below_setRow XB (Nat.le_refl _) (numA RS)
      clear P0 P1 PB X0 X1 XB HG2
      generalize hRE : numA RS = row at *
      have HRE : Hid (numA RS = row) := hRE
      clear hRE
      go_wp2_with (first | refine wpList_load_row rfl 180 _ rfl ⟨w.heap.size + 1, 0, none⟩ _ rfl XL.out ?_ | refine wpList_store_row rfl 180 _ _ rfl rfl ⟨w.heap.size, 0, none⟩ _ _ rfl rfl XS.out ?_)
      refine bodyPost_cell rfl rfl rfl XR.out ⟨ret_agg HRE.out.symm, XE⟩
end Go.Proofs.YtonleickhincgaaGreatDoor
