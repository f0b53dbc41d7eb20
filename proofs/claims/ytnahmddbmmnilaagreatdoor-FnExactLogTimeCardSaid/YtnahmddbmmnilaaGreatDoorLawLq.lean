/-
  What the laws' own helpers markLog, markLogOut, heldLog, heldLogOut and eqLogOut answer, and leave, for a log of its own memory.
-/
import Derived.Test.YtnahmddbmmnilaaGreatDoorRows
import Derived.Test.YtnahmddbmmnilaaGreatDoorBytesDigMath
import Derived.Test.YtnahmddbmmnilaaGreatDoorSlASlBBxKOwnS
import Derived.Test.YtnahmddbmmnilaaGreatDoorLawMLawMG
import Derived.Test.YtnahmddbmmnilaaGreatDoorJoinedPutTextFldMathFldRiseScanMath
import Derived.Test.YtnahmddbmmnilaaGreatDoorLgMathLgAtKShwK
import Derived.Test.YtnahmddbmmnilaaGreatDoorOneKFldGFldBlkRwBlkTakes
import Derived.Test.YtnahmddbmmnilaaGreatDoorLawLhLawLz
import Derived.Test.YtnahmddbmmnilaaGreatDoorLawFMLawLm
import Derived.Test.YtnahmddbmmnilaaGreatDoorLawLo
import Derived.Test.YtnahmddbmmnilaaGreatDoorLawLkRowOpsLgO
import Derived.Handy
import Derived.WalkSpells
import Derived.OwnWalk
import Derived.Deep.Cut
namespace Go.Proofs.YtnahmddbmmnilaaGreatDoor
open Go.RowKit Go.Lib
set_option linter.unusedVariables false
set_option maxRecDepth 20000

theorem But.trans {S : Nat → Prop} {a b c : World} (h : But S a b) (k : But S b c) : But S a c :=
  ⟨k.os.trans h.os, k.tape.trans h.tape, k.output.trans h.output, Nat.le_trans h.size k.size, fun q hq hn => (k.block q (Nat.lt_of_lt_of_le hq h.size) hn).trans (h.block q hq hn)⟩
theorem But.wider {S T : Nat → Prop} {a b : World} (h : But S a b) (hs : ∀ k, S k → T k) : But T a b := ⟨h.os, h.tape, h.output, h.size, fun q hq hn => h.block q hq (fun e => hn (hs q e))⟩
theorem But.own {a b : World} {o : Option Nat} {S : Nat → Prop} (k : a.grownBy b o) (hs : ∀ q, o = some q → S q) : But S a b :=
  ⟨k.os, k.tape, k.output, k.size, fun q hq hn => k.block q hq (fun e => hn (hs q e.symm))⟩
theorem LgO.at {base : Nat} {xs : List (Rw × Value)} {rs : List Rw} {lv : List ByteArray} {v1 v2 : Value} {w : World} (h : LgO base xs lv v1 v2 w) (hx : xs.map (·.1) = rs) : ∃ q cq p cp, v1 = .slice q rs.length cq ∧ v2 = .slice p lv.length cp ∧ RwAt w q rs ∧ rs.length ≤ cq ∧ TxtAt w p lv ∧ lv.length ≤ cp := by
  obtain ⟨q, cq, e1, h1⟩ := h.rws.form
  obtain ⟨p, cp, e2, h2, h3⟩ := ownS_form h.lvs
  have hr := h.rws
  rw [e1] at hr
  have ha := hr.at
  subst hx
  rw [List.length_map]
  exact ⟨q, cq, p, cp, e1, e2, ha, h1, h3, h2⟩
/-- The blocks of a log of its own. -/
def lqS (xs : List (Rw × Value)) (v1 v2 : Value) (k : Nat) : Prop := rwS xs v1 k ∨ v2.ownBlock = some k
theorem lqS_from {base : Nat} {xs : List (Rw × Value)} {lv : List ByteArray} {v1 v2 : Value} {w : World} (h : LgO base xs lv v1 v2 w) {k : Nat} (hk : lqS xs v1 v2 k) : base ≤ k ∧ k < w.heap.size := by
  rcases hk with (h1 | ⟨x, hx, h1⟩) | h1
  · exact h.rws.own.lt k h1
  · exact (h.rws.fld x hx).lt k h1
  · exact h.lvs.lt k h1
def mkT (xs : List (Rw × Value)) : Nat := 1 + 2 * xs.length + 5 * fsN (xs.map (·.1))
/-- A log of its own that bears its marks. -/
def LgM (base : Nat) (xs : List (Rw × Value)) (m : Nat) (v1 v2 : Value) (w : World) : Prop := LgO base (mkV 1 xs xs.length) (marksN (mkT xs) m) v1 v2 w
theorem marksN_len (s n : Nat) : (marksN s n).length = n := by simp [marksN]
set_option maxHeartbeats 2000000 in
theorem markLogO_any (base : Nat) (xs : List (Rw × Value)) (lv : List ByteArray) (v1 v2 : Value) (now : Int) (w : World) (h : LgO base xs lv v1 v2 w) (hn : xs.length ≤ 1048576) (hb : mkT xs + lv.length ≤ 16777210) :
    Calls Tryz.prog 63 #[.agg #[v1, v2, .int .i64 now], .int .i64 1] w fun e w' => e = .returned (.int .i64 ((mkT xs + lv.length : Nat) : Int)) ∧ LgM base xs lv.length v1 v2 w' ∧ But (lqS xs v1 v2) w w' := by
  obtain ⟨W1, hW1⟩ : ∃ W1, W1 = w.alloc (.cells #[v1, v2, .int .i64 now] 26) := ⟨_, rfl⟩
  have HW1 : Hid (W1 = w.alloc (.cells #[v1, v2, .int .i64 now] 26)) := hW1
  have b1 : Below w.heap.size w W1 := by rw [hW1]; exact (Below.refl _ _).alloc (Nat.le_refl _) _
  have K1 : Hid (Bxs W1 w.heap.size 26 #[v1, v2, .int .i64 now]) := by rw [hW1]; exact Bxs.new _ _ _
  have h1 : LgO base xs lv v1 v2 W1 := h.below b1
  have hno : ¬ rwS xs v1 w.heap.size := fun hk => by have := (lqS_from h (.inl hk)).2; omega
  have hM : Calls Tryz.prog 141 #[v1, .int .i64 1] W1 fun e w' => e = .returned (.int .i64 ((mkT xs : Nat) : Int)) ∧ RwsO base (mkV 1 xs xs.length) v1 w' ∧ But (rwS xs v1) W1 w' := markRowO_any (rwS xs v1) base xs v1 1 W1 h1.rws (Nat.le_refl _) (fun k hk => hk) hn (by unfold mkT at hb; omega)
  have h2no : ∀ g, v2.ownBlock = some g → ¬ rwS xs v1 g := fun g hg hk => by
    rcases hk with h3 | ⟨x, hx, h3⟩
    · rcases own_apart h.lvs h.rws.own (by decide) with e | e
      · rw [e] at hg; cases hg
      · exact e (hg.trans h3.symm)
    · rcases own_apart h.lvs (h.rws.fld x hx) (by decide) with e | e
      · rw [e] at hg; cases hg
      · exact e (hg.trans h3.symm)
  have HG : Hid (∀ y, But (rwS xs v1) W1 y → RwsO base (mkV 1 xs xs.length) v1 y → Calls Tryz.prog 142 #[v2, .int .i64 ((mkT xs : Nat) : Int)] y fun e w' => e = .returned (.int .i64 ((mkT xs + lv.length : Nat) : Int)) ∧ LgM base xs lv.length v1 v2 w' ∧ But (lqS xs v1 v2) w w') := fun y hy hr => by
    have ho := ownS_but h1.lvs hy h2no
    refine (markG_any (mkT xs) (by unfold mkT; omega) base v2 lv y ho (by omega)).mono ?_
    rintro e z ⟨rfl, hz, hg⟩
    refine ⟨by rw [show ((lv.length : Int) + (mkT xs : Nat)) = ((mkT xs + lv.length : Nat) : Int) by omega], ⟨hr.kept hg (own_apart hr.own ho (by decide)) (fun x hx => own_apart (hr.fld x hx) ho (by decide)), by rw [marksN_len]; exact hz⟩, ?_⟩
    exact (((But.refl _ w).more b1).trans (hy.wider (fun k hk => .inl hk))).trans (But.own hg (fun q hq => .inr hq))
  have HKb : Hid (∀ y, But (rwS xs v1) W1 y → y.cell? ⟨w.heap.size, 1, none⟩ = some v2) := fun y hy => (K1.out.but hy hno).cell 1
  have c0 : W1.cell? ⟨w.heap.size, 0, none⟩ = some v1 := K1.out.cell 0
  obtain ⟨q, cq, p, cp, e1, e2, _⟩ := h.at rfl
  rw [List.length_map] at e1
  subst e1 e2
  clear hW1 b1 h h1 hno h2no hb hn
  generalize mkT xs = T at *
  go_enter Tryz.func63, Tryz.ntmps63
  go_upto_region 1 with fail
  rw [← HW1.out]
  go_wp2_with fail
  with_reducible refine hM.mono ?_
  rintro e y ⟨rfl, hr, hy⟩
  have hG := HG.out y hy hr
  have c1 := HKb.out y hy
  clear hM c0 hr hy
  go_wp2_with fail
  with_reducible refine hG.mono ?_
  rintro e z ⟨rfl, hl, hbz⟩
  have HL : Hid _ := hl
  have HB : Hid _ := hbz
  clear hl hbz hG c1
  go_wp2_with fail
  go_ret
  exact ⟨rfl, HL.out, HB.out⟩
set_option maxHeartbeats 2000000 in
theorem markLogOutO_any (base : Nat) (xs : List (Rw × Value)) (lv : List ByteArray) (v1 v2 : Value) (now C : Int) (w : World) (h : LgO base xs lv v1 v2 w) (hn : xs.length ≤ 1048576) (hb : mkT xs + lv.length ≤ 16777210) :
    Calls Tryz.prog 65 #[.agg #[v1, v2, .int .i64 now, .int .i64 C], .int .i64 1] w fun e w' => e = .returned (.int .i64 ((mkT xs + lv.length : Nat) : Int)) ∧ LgM base xs lv.length v1 v2 w' ∧ But (lqS xs v1 v2) w w' := by
  obtain ⟨W1, hW1⟩ : ∃ W1, W1 = w.alloc (.cells #[v1, v2, .int .i64 now, .int .i64 C] 33) := ⟨_, rfl⟩
  have HW1 : Hid (W1 = w.alloc (.cells #[v1, v2, .int .i64 now, .int .i64 C] 33)) := hW1
  have b1 : Below w.heap.size w W1 := by rw [hW1]; exact (Below.refl _ _).alloc (Nat.le_refl _) _
  have K1 : Bxs W1 w.heap.size 33 #[v1, v2, .int .i64 now, .int .i64 C] := by rw [hW1]; exact Bxs.new _ _ _
  have hM := markLogO_any base xs lv v1 v2 now W1 (h.below b1) hn hb
  have HB : Hid (∀ y, But (lqS xs v1 v2) W1 y → But (lqS xs v1 v2) w y) := fun y hy => ((But.refl _ w).more b1).trans hy
  obtain ⟨c0, c1, c2, c3⟩ := K1.four
  obtain ⟨q, cq, p, cp, e1, e2, _⟩ := h.at rfl
  rw [List.length_map] at e1
  subst e1 e2
  clear hW1 b1 h K1 hb hn
  generalize mkT xs = T at *
  go_enter Tryz.func65, Tryz.ntmps65
  go_upto_region 1 with fail
  rw [← HW1.out]
  go_wp2_with fail
  with_reducible refine hM.mono ?_
  rintro e z ⟨rfl, hl, hbz⟩
  have HL : Hid _ := hl
  have HBz : Hid _ := HB.out z hbz
  clear hl hbz hM c0 c1 c2 c3
  go_wp2_with fail
  go_ret
  exact ⟨rfl, HL.out, HBz.out⟩
theorem LgM.at {base : Nat} {xs : List (Rw × Value)} {m : Nat} {v1 v2 : Value} {w : World} (h : LgM base xs m v1 v2 w) : ∃ q cq p cp, v1 = .slice q xs.length cq ∧ v2 = .slice p m cp ∧ RwAt w q ((mkV 1 xs xs.length).map (·.1)) ∧ xs.length ≤ cq ∧ TxtAt w p (marksN (mkT xs) m) ∧ m ≤ cp := by
  obtain ⟨q, cq, p, cp, e1, e2, h1, h2, h3, h4⟩ := LgO.at h rfl
  rw [List.length_map, mkV_len] at e1 h2
  rw [marksN_len] at e2 h4
  exact ⟨q, cq, p, cp, e1, e2, h1, h2, h3, h4⟩
theorem LgM.below {base : Nat} {xs : List (Rw × Value)} {m : Nat} {v1 v2 : Value} {w w' : World} (h : LgM base xs m v1 v2 w) (hb : Below w.heap.size w w') : LgM base xs m v1 v2 w' := LgO.below h hb
set_option maxHeartbeats 2000000 in
theorem heldLogOutO_any (base : Nat) (xs : List (Rw × Value)) (m : Nat) (v1 v2 : Value) (now C : Int) (w : World) (h : LgM base xs m v1 v2 w) (hn : xs.length ≤ 1048576) (hb : mkT xs + m ≤ 16777210) :
    Calls Tryz.prog 66 #[.agg #[v1, v2, .int .i64 now, .int .i64 C], .int .i64 1] w fun e w' => e = .returned (.int .i64 ((mkT xs + m : Nat) : Int)) ∧ Below w.heap.size w w' := by
  have HLg : Hid (∀ x, Below w.heap.size w x → Calls Tryz.prog 144 #[.agg #[v1, v2, .int .i64 now], .int .i64 1] x fun e w' => e = .returned (.int .i64 ((mkT xs + m : Nat) : Int)) ∧ Below x.heap.size x w') := fun x hx => by
    have h' := h.below hx
    obtain ⟨q, cq, p, cp, rfl, rfl, h1, h2, h3, h4⟩ := h'.at
    obtain ⟨W1, hW1⟩ : ∃ W1, W1 = x.alloc (.cells #[.slice q xs.length cq, .slice p m cp, .int .i64 now] 26) := ⟨_, rfl⟩
    have HW1 : Hid (W1 = x.alloc (.cells #[.slice q xs.length cq, .slice p m cp, .int .i64 now] 26)) := hW1
    have b1 : Below x.heap.size x W1 := by rw [hW1]; exact (Below.refl _ _).alloc (Nat.le_refl _) _
    have B1 : Hid (Below x.heap.size x W1) := b1
    have K1 : Hid (Bxs W1 x.heap.size 26 #[.slice q xs.length cq, .slice p m cp, .int .i64 now]) := by rw [hW1]; exact Bxs.new _ _ _
    have hR : Calls Tryz.prog 203 #[.slice q xs.length cq, .int .i64 1] W1 fun e w' => e = .returned (.int .i64 ((mkT xs : Nat) : Int)) ∧ Below W1.heap.size W1 w' := heldRowO_any q cq xs 1 W1 (h1.below b1) h2 (Nat.le_refl _) hn (by unfold mkT at hb; omega)
    have HS : Hid (∀ y, Below W1.heap.size W1 y → Calls Tryz.prog 204 #[.slice p m cp, .int .i64 ((mkT xs : Nat) : Int)] y fun e w' => e = .returned (.int .i64 ((mkT xs + m : Nat) : Int)) ∧ Below y.heap.size y w') := fun y hy => by
      refine (heldG_any (mkT xs) (by unfold mkT; omega) p cp m y ((h3.below b1).below hy) (by omega) h4).mono ?_
      rintro e z ⟨rfl, hz⟩
      exact ⟨by rw [show ((m : Int) + (mkT xs : Nat)) = ((mkT xs + m : Nat) : Int) by omega], hz⟩
    have d1 : decide (((mkT xs : Nat) : Int) < 0) = false := decide_eq_false (by omega)
    have d2 : decide (((mkT xs + m : Nat) : Int) < 0) = false := decide_eq_false (by omega)
    have c0 : W1.cell? ⟨x.heap.size, 0, none⟩ = some (.slice q xs.length cq) := K1.out.cell 0
    clear hW1 b1 h h' h1 h2 h3 h4 hx hb hn
    generalize mkT xs = T at *
    go_enter Tryz.func144, Tryz.ntmps144
    go_upto_region 1 with fail
    rw [← HW1.out]
    go_wp2_with fail
    with_reducible refine hR.mono ?_
    rintro e y ⟨rfl, by1⟩
    have c1 : y.cell? ⟨x.heap.size, 1, none⟩ = some (.slice p m cp) := (K1.out.below by1).cell 1
    have hS := HS.out y by1
    have BY : Hid (Below x.heap.size x y) := chainB B1.out by1
    clear hR c0 by1
    go_wp2_with fail
    with_reducible refine hS.mono ?_
    rintro e z ⟨rfl, bz⟩
    go_wp2_with fail
    go_ret
    exact ⟨rfl, chainB BY.out bz⟩
  obtain ⟨W1, hW1⟩ : ∃ W1, W1 = w.alloc (.cells #[v1, v2, .int .i64 now, .int .i64 C] 33) := ⟨_, rfl⟩
  have HW1 : Hid (W1 = w.alloc (.cells #[v1, v2, .int .i64 now, .int .i64 C] 33)) := hW1
  have b1 : Below w.heap.size w W1 := by rw [hW1]; exact (Below.refl _ _).alloc (Nat.le_refl _) _
  have B1 : Hid (Below w.heap.size w W1) := b1
  have K1 : Bxs W1 w.heap.size 33 #[v1, v2, .int .i64 now, .int .i64 C] := by rw [hW1]; exact Bxs.new _ _ _
  obtain ⟨c0, c1, c2, c3⟩ := K1.four
  have hL := HLg.out W1 b1
  have d2 : decide (((mkT xs + m : Nat) : Int) < 0) = false := decide_eq_false (by omega)
  obtain ⟨q, cq, p, cp, e1, e2, _⟩ := h.at
  subst e1 e2
  clear hW1 b1 h K1 hb hn HLg
  generalize mkT xs + m = T at *
  go_enter Tryz.func66, Tryz.ntmps66
  go_upto_region 1 with fail
  rw [← HW1.out]
  go_wp2_with fail
  with_reducible refine hL.mono ?_
  rintro e z ⟨rfl, bz⟩
  clear c0 c1 c2 c3
  go_wp2_with fail
  go_ret
  exact ⟨rfl, chainB B1.out bz⟩
set_option maxHeartbeats 2000000 in
theorem eqLogOut_any (base base' : Nat) (xs xs' : List (Rw × Value)) (rs : List Rw) (lv : List ByteArray) (v1 v2 u1 u2 : Value) (now C : Int) (w : World) (h : LgO base xs lv v1 v2 w) (h' : LgO base' xs' lv u1 u2 w) (hx : xs.map (·.1) = rs) (hx' : xs'.map (·.1) = rs) (hn : rs.length ≤ 1048576) (hf : ∀ x ∈ rs, x.fs.length ≤ 1048576) (hl : lv.length ≤ 1048576) :
    Calls Tryz.prog 60 #[.agg #[v1, v2, .int .i64 now, .int .i64 C], .agg #[u1, u2, .int .i64 now, .int .i64 C]] w fun e w' => e = .returned (.bool true) ∧ Below w.heap.size w w' := by
  obtain ⟨q, cq, p, cp, rfl, rfl, a1, a2, a3, a4⟩ := h.at hx
  obtain ⟨q', cq', p', cp', rfl, rfl, b1, b2, b3, b4⟩ := h'.at hx'
  obtain ⟨W2, hW2⟩ : ∃ W2, W2 = (w.alloc (.cells #[.slice q rs.length cq, .slice p lv.length cp, .int .i64 now, .int .i64 C] 33)).alloc (.cells #[.slice q' rs.length cq', .slice p' lv.length cp', .int .i64 now, .int .i64 C] 33) := ⟨_, rfl⟩
  have HW2 : Hid (W2 = (w.alloc (.cells #[.slice q rs.length cq, .slice p lv.length cp, .int .i64 now, .int .i64 C] 33)).alloc (.cells #[.slice q' rs.length cq', .slice p' lv.length cp', .int .i64 now, .int .i64 C] 33)) := hW2
  have bb : Below w.heap.size w W2 := by rw [hW2]; exact alB ((Below.refl _ _).alloc (Nat.le_refl _) _) _
  have B2 : Hid (Below w.heap.size w W2) := bb
  have K1 : Hid (Bxs W2 w.heap.size 33 #[.slice q rs.length cq, .slice p lv.length cp, .int .i64 now, .int .i64 C]) := by rw [hW2]; exact (Bxs.new _ _ _).alloc _
  have K2 : Hid (Bxs W2 (w.heap.size + 1) 33 #[.slice q' rs.length cq', .slice p' lv.length cp', .int .i64 now, .int .i64 C]) := by
    rw [hW2]
    have h := Bxs.new (w.alloc (.cells #[.slice q rs.length cq, .slice p lv.length cp, .int .i64 now, .int .i64 C] 33)) 33 #[.slice q' rs.length cq', .slice p' lv.length cp', .int .i64 now, .int .i64 C]
    rwa [szA] at h
  have hE := eqLog_any q q' cq cq' rs p p' cp cp' lv now W2 (a1.below bb) (b1.below bb) hn a2 b2 hf (a3.below bb) (b3.below bb) hl a4 b4
  clear hW2 bb h h' hx hx' a1 a2 a3 a4 b1 b2 b3 b4 hf
  obtain ⟨x0, x1, x2, x3⟩ := K1.out.four
  obtain ⟨y0, y1, y2, y3⟩ := K2.out.four
  go_enter Tryz.func60, Tryz.ntmps60
  go_upto_region 1 with fail
  rw [← HW2.out]
  go_wp2_with fail
  with_reducible refine hE.mono ?_
  rintro e z ⟨rfl, bz⟩
  clear x0 x1 x2 x3 y0 y1 y2 y3
  obtain ⟨x0, x1, x2, x3⟩ := (K1.out.below bz).four
  obtain ⟨y0, y1, y2, y3⟩ := (K2.out.below bz).four
  go_wp2_with fail
  go_ret
  exact ⟨rfl, chainB B2.out bz⟩
end Go.Proofs.YtnahmddbmmnilaaGreatDoor
