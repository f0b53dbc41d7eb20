/-
  What HouseRight answers, of the specification and of the program; what the laws' helpers szHouse, toHouse, eqHouse answer.
  Conditions: the cells hold the rows, leaves, rules and numbers; for the program's: the tables and errors.errorType are laid.
-/
import Derived.Test.YtpijadhfdpihkaaGreatDoorRows
import Derived.Test.YtpijadhfdpihkaaGreatDoorBytesDigMath
import Derived.Test.YtpijadhfdpihkaaGreatDoorSlASlBBxKOwnS
import Derived.Test.YtpijadhfdpihkaaGreatDoorJoinedPutTextFldMath
import Derived.Test.YtpijadhfdpihkaaGreatDoorLgMath
import Derived.Test.YtpijadhfdpihkaaGreatDoorLgAtKShwKOneKFldGFldBlk
import Derived.Test.YtpijadhfdpihkaaGreatDoorRwBlkBlNotRulMathIntKPolMathTakes
import Derived.Test.YtpijadhfdpihkaaGreatDoorLogRITurn2
import Derived.Test.YtpijadhfdpihkaaGreatDoorSpecLr
import Derived.Test.YtpijadhfdpihkaaGreatDoorPolS
import Derived.Test.YtpijadhfdpihkaaGreatDoorPolI
import Derived.Test.YtpijadhfdpihkaaGreatDoorLawILawOGLawImLawPo
import Derived.Test.YtpijadhfdpihkaaGreatDoorAppSRulBlkLawRl
import Derived.Test.YtpijadhfdpihkaaGreatDoorLawLg
import Derived.Test.YtpijadhfdpihkaaGreatDoorLawLh
import Derived.Handy
import Derived.WalkSpells
import Derived.OwnWalk
import Derived.Deep.Cut
namespace Go.Proofs.YtpijadhfdpihkaaGreatDoor
open Go.RowKit Go.Lib
set_option linter.unusedVariables false
set_option maxRecDepth 20000

theorem Bxs.fives {w : World} {g : Nat} {T : TypeId} {a b c d e : Value} (h : Bxs w g T #[a, b, c, d, e]) : w.cell? ⟨g, 0, none⟩ = some a ∧ w.cell? ⟨g, 1, none⟩ = some b ∧ w.cell? ⟨g, 2, none⟩ = some c ∧ w.cell? ⟨g, 3, none⟩ = some d ∧ w.cell? ⟨g, 4, none⟩ = some e := ⟨h.cell 0, h.cell 1, h.cell 2, h.cell 3, h.cell 4⟩
/-- When a house is right. -/
def hseB (rs : List Rw) (lv : List ByteArray) (now : Int) (ru : List Rul) (hs : List Int) : Bool := lgB rs lv now && polB ru hs
set_option maxHeartbeats 2000000 in
theorem specHouse_any (q : Option Addr) (cq : Nat) (rs : List Rw) (p : Option Addr) (cp : Nat) (lv : List ByteArray) (now : Int) (p1 : Option Addr) (c1 : Nat) (ru : List Rul) (p2 : Option Addr) (c2 : Nat) (hs : List Int) (w : World) (hA : LgAt p lv cp q rs cq w) (hr : RulAt w p1 ru) (hh : IntAt w p2 hs) (k1 : ru.length ≤ 1048576) (k2 : hs.length ≤ 1048576) (e1 : ru.length ≤ c1) (e2 : hs.length ≤ c2) (hz : RulsLe ru) :
    Calls Tryz.prog 5 #[.agg #[.slice q rs.length cq, .slice p lv.length cp, .int .i64 now, .slice p1 ru.length c1, .slice p2 hs.length c2]] w fun e w' => e = .returned (.bool (hseB rs lv now ru hs)) ∧ Below w.heap.size w w' := by
  obtain ⟨W1, hW1⟩ : ∃ W1, W1 = w.alloc (.cells #[.slice q rs.length cq, .slice p lv.length cp, .int .i64 now, .slice p1 ru.length c1, .slice p2 hs.length c2] 41) := ⟨_, rfl⟩
  have HW1 : Hid (W1 = w.alloc (.cells #[.slice q rs.length cq, .slice p lv.length cp, .int .i64 now, .slice p1 ru.length c1, .slice p2 hs.length c2] 41)) := hW1
  have B1 : Hid (Below w.heap.size w W1) := by rw [hW1]; exact (Below.refl _ _).alloc (Nat.le_refl _) _
  have K1 : Hid (Bxs W1 w.heap.size 41 #[.slice q rs.length cq, .slice p lv.length cp, .int .i64 now, .slice p1 ru.length c1, .slice p2 hs.length c2]) := by rw [hW1]; exact Bxs.new _ _ _
  have HR : Hid (RulAt w p1 ru) := hr
  have HH : Hid (IntAt w p2 hs) := hh
  have hA1 : LgAt p lv cp q rs cq W1 := hA.below B1.out
  have hL : Calls Tryz.prog 11 #[.agg #[.slice q rs.length cq, .slice p lv.length cp, .int .i64 now]] W1 fun e w' => e = .returned (.bool (lgB rs lv now)) ∧ Below W1.heap.size W1 w' := specLogRight_any p lv cp q rs cq now W1 hA1
  have HP : Hid (∀ x, Below W1.heap.size W1 x → Calls Tryz.prog 12 #[.agg #[.slice p1 ru.length c1, .slice p2 hs.length c2]] x fun e w' => e = .returned (.bool (polB ru hs)) ∧ Below x.heap.size x w') := fun x hx => specPolicyRight_any p1 p2 c1 c2 ru hs x (HR.out.below (chainB B1.out hx)) (HH.out.below (chainB B1.out hx)) k1 k2 e1 e2 hz
  unfold hseB
  clear hW1 hr hh hA hA1
  generalize lgB rs lv now = A at *
  generalize polB ru hs = B at *
  obtain ⟨x0, x1, x2, x3, x4⟩ := K1.out.fives
  go_enter Tryz.func5, Tryz.ntmps5
  go_upto_region 1 with fail
  rw [← HW1.out]
  go_wp2_with fail
  with_reducible refine hL.mono ?_
  rintro e y ⟨rfl, z1⟩
  have B2 : Hid (Below w.heap.size w y) := chainB B1.out z1
  clear x0 x1 x2 x3 x4
  obtain ⟨x0, x1, x2, x3, x4⟩ := (K1.out.below z1).fives
  have hP := HP.out y z1
  cases A
  · go_wp2_with fail
    go_ret
    exact ⟨ret_bool (by simp), B2.out⟩
  go_wp2_with fail
  with_reducible refine hP.mono ?_
  rintro e y2 ⟨rfl, z2⟩
  go_wp2_with fail
  go_ret
  exact ⟨ret_bool (by simp), chainB B2.out z2⟩
set_option maxHeartbeats 2000000 in
theorem implHouse_any (q : Option Addr) (cq : Nat) (rs : List Rw) (p : Option Addr) (cp : Nat) (lv : List ByteArray) (now : Int) (p1 : Option Addr) (c1 : Nat) (ru : List Rul) (p2 : Option Addr) (c2 : Nat) (hs : List Int) (w : World) (hT : Tabs w) (hg : Laid w) (hA : LgAt p lv cp q rs cq w) (hr : RulAt w p1 ru) (hh : IntAt w p2 hs) (k1 : ru.length ≤ 1048576) (k2 : hs.length ≤ 1048576) (e1 : ru.length ≤ c1) (e2 : hs.length ≤ c2) (hz : RulsLe ru) :
    Calls Tryz.prog 7 #[.agg #[.slice q rs.length cq, .slice p lv.length cp, .int .i64 now, .slice p1 ru.length c1, .slice p2 hs.length c2]] w fun e w' => e = .returned (.bool (hseB rs lv now ru hs)) ∧ Below w.heap.size w w' := by
  obtain ⟨W1, hW1⟩ : ∃ W1, W1 = w.alloc (.cells #[.slice q rs.length cq, .slice p lv.length cp, .int .i64 now, .slice p1 ru.length c1, .slice p2 hs.length c2] 41) := ⟨_, rfl⟩
  have HW1 : Hid (W1 = w.alloc (.cells #[.slice q rs.length cq, .slice p lv.length cp, .int .i64 now, .slice p1 ru.length c1, .slice p2 hs.length c2] 41)) := hW1
  have B1 : Hid (Below w.heap.size w W1) := by rw [hW1]; exact (Below.refl _ _).alloc (Nat.le_refl _) _
  have K1 : Hid (Bxs W1 w.heap.size 41 #[.slice q rs.length cq, .slice p lv.length cp, .int .i64 now, .slice p1 ru.length c1, .slice p2 hs.length c2]) := by rw [hW1]; exact Bxs.new _ _ _
  have HR : Hid (RulAt w p1 ru) := hr
  have HH : Hid (IntAt w p2 hs) := hh
  have hA1 : LgAt p lv cp q rs cq W1 := hA.below B1.out
  have hL : Calls Tryz.prog 15 #[.agg #[.slice q rs.length cq, .slice p lv.length cp, .int .i64 now]] W1 fun e w' => e = .returned (.bool (lgB rs lv now)) ∧ Below W1.heap.size W1 w' := implLogRight_any p lv cp q rs cq now W1 (hT.to B1.out) (hg.below B1.out) hA1
  have HP : Hid (∀ x, Below W1.heap.size W1 x → Calls Tryz.prog 16 #[.agg #[.slice p1 ru.length c1, .slice p2 hs.length c2]] x fun e w' => e = .returned (.bool (polB ru hs)) ∧ Below x.heap.size x w') := fun x hx => implPolicyRight_any p1 p2 c1 c2 ru hs x (HR.out.below (chainB B1.out hx)) (HH.out.below (chainB B1.out hx)) k1 k2 e1 e2 hz
  unfold hseB
  clear hW1 hr hh hA hA1 hT hg
  generalize lgB rs lv now = A at *
  generalize polB ru hs = B at *
  obtain ⟨x0, x1, x2, x3, x4⟩ := K1.out.fives
  go_enter Tryz.func7, Tryz.ntmps7
  go_upto_region 1 with fail
  rw [← HW1.out]
  go_wp2_with fail
  with_reducible refine hL.mono ?_
  rintro e y ⟨rfl, z1⟩
  have B2 : Hid (Below w.heap.size w y) := chainB B1.out z1
  clear x0 x1 x2 x3 x4
  obtain ⟨x0, x1, x2, x3, x4⟩ := (K1.out.below z1).fives
  have hP := HP.out y z1
  cases A
  · go_wp2_with fail
    go_ret
    exact ⟨ret_bool (by simp), B2.out⟩
  go_wp2_with fail
  with_reducible refine hP.mono ?_
  rintro e y2 ⟨rfl, z2⟩
  go_wp2_with fail
  go_ret
  exact ⟨ret_bool (by simp), chainB B2.out z2⟩
set_option maxHeartbeats 2000000 in
theorem szHouse_any (q : Option Addr) (cq : Nat) (rs : List Rw) (p : Option Addr) (cp : Nat) (lv : List ByteArray) (now : Int) (p1 : Option Addr) (c1 : Nat) (ru : List Rul) (p2 : Option Addr) (c2 : Nat) (hs : List Int) (w : World) (hq : RwAt w q rs) (hn : rs.length ≤ 9223372036854775807) (hcq : rs.length ≤ cq) (hs' : RwsBig rs) (hp : TxtAt w p lv) (hl : lv.length ≤ 9223372036854775807) (hcp : lv.length ≤ cp) (hz : ∀ x ∈ lv, x.size ≤ 9223372036854775807) (hr : RulAt w p1 ru) (k1 : ru.length ≤ 9223372036854775807) (k2 : hs.length ≤ 9223372036854775807) (e1 : ru.length ≤ c1) (s1 : RulsBig ru) :
    Calls Tryz.prog 4 #[.agg #[.slice q rs.length cq, .slice p lv.length cp, .int .i64 now, .slice p1 ru.length c1, .slice p2 hs.length c2], .int .i64 1048576] w fun e w' => (∃ m : Int, e = .returned (.int .i64 m) ∧ (m = -1 ∨ (0 ≤ m ∧ (rs.length ≤ 1048576 ∧ ∀ x ∈ rs, x.fs.length ≤ 1048576) ∧ lv.length ≤ 1048576 ∧ ru.length ≤ 1048576 ∧ hs.length ≤ 1048576))) ∧ Below w.heap.size w w' := by
  obtain ⟨W1, hW1⟩ : ∃ W1, W1 = w.alloc (.cells #[.slice q rs.length cq, .slice p lv.length cp, .int .i64 now, .slice p1 ru.length c1, .slice p2 hs.length c2] 31) := ⟨_, rfl⟩
  have HW1 : Hid (W1 = w.alloc (.cells #[.slice q rs.length cq, .slice p lv.length cp, .int .i64 now, .slice p1 ru.length c1, .slice p2 hs.length c2] 31)) := hW1
  have B1 : Hid (Below w.heap.size w W1) := by rw [hW1]; exact (Below.refl _ _).alloc (Nat.le_refl _) _
  have K1 : Hid (Bxs W1 w.heap.size 31 #[.slice q rs.length cq, .slice p lv.length cp, .int .i64 now, .slice p1 ru.length c1, .slice p2 hs.length c2]) := by rw [hW1]; exact Bxs.new _ _ _
  have hL := szLog_any q cq rs p cp lv now W1 (hq.below B1.out) hn hcq hs' (hp.below B1.out) hl hcp hz
  have HP : Hid (∀ l0 x, 0 ≤ l0 → l0 ≤ 1048576 → Below W1.heap.size W1 x → Calls Tryz.prog 10 #[.agg #[.slice p1 ru.length c1, .slice p2 hs.length c2], .int .i64 l0] x fun e w' => (∃ r : Int, e = .returned (.int .i64 r) ∧ (r = -1 ∨ (0 ≤ r ∧ r ≤ l0 ∧ ru.length ≤ 1048576 ∧ hs.length ≤ 1048576))) ∧ Below x.heap.size x w') := fun l0 x a b hx => szPolicy_any l0 a b p1 p2 c1 c2 ru hs x (hr.below (chainB B1.out hx)) k1 k2 e1 s1
  clear hW1 hq hp hr hs' hz s1
  obtain ⟨x0, x1, x2, x3, x4⟩ := K1.out.fives
  go_enter Tryz.func4, Tryz.ntmps4
  go_upto_region 1 with fail
  rw [← HW1.out]
  go_wp2_with fail
  with_reducible refine hL.mono ?_
  rintro e y ⟨⟨m, rfl, hm⟩, z1⟩
  have B2 : Hid (Below w.heap.size w y) := chainB B1.out z1
  clear x0 x1 x2 x3 x4
  rcases hm with rfl | ⟨m0, m1, m2, m3⟩
  · go_wp2_with fail
    go_ret
    exact ⟨⟨-1, rfl, .inl rfl⟩, B2.out⟩
  have d1 : decide (m < 0) = false := decide_eq_false (by omega)
  have M2 : Hid _ := m2
  obtain ⟨x0, x1, x2, x3, x4⟩ := (K1.out.below z1).fives
  have hP := HP.out m y m0 (by omega) z1
  clear m2
  go_wp2_with fail
  with_reducible refine hP.mono ?_
  rintro e y2 ⟨⟨m', rfl, hm⟩, z2⟩
  clear d1
  rcases hm with rfl | ⟨n0, n1, n2, n3⟩
  · go_wp2_with fail
    go_ret
    exact ⟨⟨-1, rfl, .inl rfl⟩, chainB B2.out z2⟩
  have d1 : decide (m' < 0) = false := decide_eq_false (by omega)
  go_wp2_with fail
  go_ret
  exact ⟨⟨_, rfl, .inr ⟨n0, M2.out, m3, n2, n3⟩⟩, chainB B2.out z2⟩
/-- A house that the laws made. -/
def HsB (w : World) (g gl g1 g2 : Nat) (rs : List Rw) (lv : List ByteArray) (ru : List Rul) (hs : List Int) : Prop := (∃ xs, xs.map (·.1) = rs ∧ LgB w g xs gl lv) ∧ BlkU w g1 ru ∧ BlkI w g2 hs
theorem HsB.below {w w' : World} {g gl g1 g2 : Nat} {rs : List Rw} {lv : List ByteArray} {ru : List Rul} {hs : List Int} (h : HsB w g gl g1 g2 rs lv ru hs) (hb : Below w.heap.size w w') : HsB w' g gl g1 g2 rs lv ru hs := by
  obtain ⟨⟨xs, hx, h1⟩, h2, h3⟩ := h
  exact ⟨⟨xs, hx, h1.below hb⟩, Bxs.below h2 hb, Bxs.below h3 hb⟩
theorem LgB.low {w : World} {g gl b : Nat} {xs : List (Rw × Nat)} {lv : List ByteArray} (h : LgB w g xs gl lv) (hb : b < g) (i : Nat) (v : Value) : LgB (w.setCell ⟨b, i, none⟩ v) g xs gl lv :=
  ⟨⟨Bxs.other h.rw.blk _ _ (by omega) _, fun x hx => Bxs.other (h.rw.fld x hx) _ _ (by have := h.rw.up x hx; omega) _, h.rw.up, h.rw.apart⟩, Bxs.other h.lf.bxs _ _ (by have := h.gg; omega) _, h.gg, h.gx⟩
set_option maxHeartbeats 4000000 in
theorem toHouse_any (q : Option Addr) (cq : Nat) (rs : List Rw) (p : Option Addr) (cp : Nat) (lv : List ByteArray) (now : Int) (p1 : Option Addr) (c1 : Nat) (ru : List Rul) (p2 : Option Addr) (c2 : Nat) (hs : List Int) (w : World) (hq : RwAt w q rs) (hn : rs.length ≤ 1048576) (hcq : rs.length ≤ cq) (hf : ∀ x ∈ rs, x.fs.length ≤ 1048576) (hp : TxtAt w p lv) (hl : lv.length ≤ 1048576) (hcp : lv.length ≤ cp) (hr : RulAt w p1 ru) (hh : IntAt w p2 hs) (k1 : ru.length ≤ 1048576) (k2 : hs.length ≤ 1048576) (e1 : ru.length ≤ c1) (e2 : hs.length ≤ c2) :
    Calls Tryz.prog 6 #[.agg #[.slice q rs.length cq, .slice p lv.length cp, .int .i64 now, .slice p1 ru.length c1, .slice p2 hs.length c2]] w fun e w' => ∃ g gl g1 g2, e = .returned (.agg #[.slice (some ⟨g, 0, none⟩) rs.length rs.length, .slice (some ⟨gl, 0, none⟩) lv.length lv.length, .int .i64 now, .slice (some ⟨g1, 0, none⟩) ru.length ru.length, .slice (some ⟨g2, 0, none⟩) hs.length hs.length]) ∧ HsB w' g gl g1 g2 rs lv ru hs ∧ Below w.heap.size w w' := by
  obtain ⟨W3, hW3⟩ : ∃ W3, W3 = ((w.alloc (.cells #[.slice q rs.length cq, .slice p lv.length cp, .int .i64 now, .slice p1 ru.length c1, .slice p2 hs.length c2] 31)).alloc (.cells #[.slice none 0 0, .slice none 0 0, .int .i64 0, .slice none 0 0, .slice none 0 0] 41)).alloc (.cells #[.slice none 0 0, .slice none 0 0, .int .i64 0, .slice none 0 0, .slice none 0 0] 41) := ⟨_, rfl⟩
  have HW3 : Hid (W3 = ((w.alloc (.cells #[.slice q rs.length cq, .slice p lv.length cp, .int .i64 now, .slice p1 ru.length c1, .slice p2 hs.length c2] 31)).alloc (.cells #[.slice none 0 0, .slice none 0 0, .int .i64 0, .slice none 0 0, .slice none 0 0] 41)).alloc (.cells #[.slice none 0 0, .slice none 0 0, .int .i64 0, .slice none 0 0, .slice none 0 0] 41)) := hW3
  have B3 : Hid (Below w.heap.size w W3) := by rw [hW3]; exact alB (alB ((Below.refl _ _).alloc (Nat.le_refl _) _) _) _
  have KA : Hid (Bxs W3 w.heap.size 31 #[.slice q rs.length cq, .slice p lv.length cp, .int .i64 now, .slice p1 ru.length c1, .slice p2 hs.length c2]) := by rw [hW3]; exact ((Bxs.new _ _ _).alloc _).alloc _
  have KR : Hid (Bxs W3 (w.heap.size + 1) 41 #[.slice none 0 0, .slice none 0 0, .int .i64 0, .slice none 0 0, .slice none 0 0]) := by
    rw [hW3]
    have h := Bxs.new (w.alloc (.cells #[.slice q rs.length cq, .slice p lv.length cp, .int .i64 now, .slice p1 ru.length c1, .slice p2 hs.length c2] 31)) 41 #[.slice none 0 0, .slice none 0 0, .int .i64 0, .slice none 0 0, .slice none 0 0]
    rw [szA] at h
    exact h.alloc _
  have KO : Hid (Bxs W3 (w.heap.size + 2) 41 #[.slice none 0 0, .slice none 0 0, .int .i64 0, .slice none 0 0, .slice none 0 0]) := by
    rw [hW3]
    have h := Bxs.new ((w.alloc (.cells #[.slice q rs.length cq, .slice p lv.length cp, .int .i64 now, .slice p1 ru.length c1, .slice p2 hs.length c2] 31)).alloc (.cells #[.slice none 0 0, .slice none 0 0, .int .i64 0, .slice none 0 0, .slice none 0 0] 41)) 41 #[.slice none 0 0, .slice none 0 0, .int .i64 0, .slice none 0 0, .slice none 0 0]
    rwa [szA, szA] at h
  have hL := toLog_any q cq rs p cp lv now W3 (hq.below B3.out) hn hcq hf (hp.below B3.out) hl hcp
  have HP : Hid (∀ x, Below w.heap.size w x → Calls Tryz.prog 14 #[.agg #[.slice p1 ru.length c1, .slice p2 hs.length c2]] x fun e w' => ∃ g1 g2, x.heap.size ≤ g1 ∧ g1 < g2 ∧ e = .returned (.agg #[.slice (some ⟨g1, 0, none⟩) ru.length ru.length, .slice (some ⟨g2, 0, none⟩) hs.length hs.length]) ∧ BlkU w' g1 ru ∧ BlkI w' g2 hs ∧ Below x.heap.size x w') := fun x hx => toPolicy_any p1 p2 c1 c2 ru hs x (hr.below hx) (hh.below hx) k1 k2 e1 e2
  have S3 : Hid (w.heap.size + 3 = W3.heap.size) := by show _ = _; rw [hW3, szA, szA, szA]
  clear hW3 hq hp hr hh hf
  obtain ⟨x0, x1, x2, x3, x4⟩ := KA.out.fives
  go_enter Tryz.func6, Tryz.ntmps6
  go_upto_region 2 with fail
  rw [← HW3.out]
  go_wp2_with fail
  refine hL.mono ?_
  rintro e y ⟨g, gl, xs, hx, hgl, rfl, hB, z1⟩
  have hs3 := S3.out
  have hgg : w.heap.size + 3 ≤ g := by omega
  have ka := KA.out.below z1
  have kr := KR.out.below z1
  have ko := KO.out.below z1
  have HS2 : Hid (Bxs (((y.setCell ⟨w.heap.size + 2, 0, none⟩ (.slice (some ⟨g, 0, none⟩) rs.length rs.length)).setCell ⟨w.heap.size + 2, 1, none⟩ (.slice (some ⟨gl, 0, none⟩) lv.length lv.length)).setCell ⟨w.heap.size + 2, 2, none⟩ (.int .i64 now)) w.heap.size 31 #[.slice q rs.length cq, .slice p lv.length cp, .int .i64 now, .slice p1 ru.length c1, .slice p2 hs.length c2] ∧ Bxs (((y.setCell ⟨w.heap.size + 2, 0, none⟩ (.slice (some ⟨g, 0, none⟩) rs.length rs.length)).setCell ⟨w.heap.size + 2, 1, none⟩ (.slice (some ⟨gl, 0, none⟩) lv.length lv.length)).setCell ⟨w.heap.size + 2, 2, none⟩ (.int .i64 now)) (w.heap.size + 1) 41 #[.slice none 0 0, .slice none 0 0, .int .i64 0, .slice none 0 0, .slice none 0 0] ∧ Bxs (((y.setCell ⟨w.heap.size + 2, 0, none⟩ (.slice (some ⟨g, 0, none⟩) rs.length rs.length)).setCell ⟨w.heap.size + 2, 1, none⟩ (.slice (some ⟨gl, 0, none⟩) lv.length lv.length)).setCell ⟨w.heap.size + 2, 2, none⟩ (.int .i64 now)) (w.heap.size + 2) 41 #[.slice (some ⟨g, 0, none⟩) rs.length rs.length, .slice (some ⟨gl, 0, none⟩) lv.length lv.length, .int .i64 now, .slice none 0 0, .slice none 0 0] ∧ LgB (((y.setCell ⟨w.heap.size + 2, 0, none⟩ (.slice (some ⟨g, 0, none⟩) rs.length rs.length)).setCell ⟨w.heap.size + 2, 1, none⟩ (.slice (some ⟨gl, 0, none⟩) lv.length lv.length)).setCell ⟨w.heap.size + 2, 2, none⟩ (.int .i64 now)) g xs gl lv ∧ Below w.heap.size w (((y.setCell ⟨w.heap.size + 2, 0, none⟩ (.slice (some ⟨g, 0, none⟩) rs.length rs.length)).setCell ⟨w.heap.size + 2, 1, none⟩ (.slice (some ⟨gl, 0, none⟩) lv.length lv.length)).setCell ⟨w.heap.size + 2, 2, none⟩ (.int .i64 now))) := ⟨(((ka.other _ 0 (by omega) _).other _ 1 (by omega) _).other _ 2 (by omega) _), (((kr.other _ 0 (by omega) _).other _ 1 (by omega) _).other _ 2 (by omega) _), (((ko.set 0 _).set 1 _).set 2 _), (((hB.low (b := w.heap.size + 2) (by omega) 0 _).low (b := w.heap.size + 2) (by omega) 1 _).low (b := w.heap.size + 2) (by omega) 2 _), ((((chainB B3.out z1).setCell (p := ⟨w.heap.size + 2, 0, none⟩) (by show _ ≤ w.heap.size + 2; omega) _).setCell (p := ⟨w.heap.size + 2, 1, none⟩) (by show _ ≤ w.heap.size + 2; omega) _).setCell (p := ⟨w.heap.size + 2, 2, none⟩) (by show _ ≤ w.heap.size + 2; omega) _)⟩
  have HG : Hid (w.heap.size + 3 ≤ g) := hgg
  obtain ⟨o0, o1, o2⟩ : y.cell? ⟨w.heap.size + 2, 0, none⟩ = some (.slice none 0 0) ∧ y.cell? ⟨w.heap.size + 2, 1, none⟩ = some (.slice none 0 0) ∧ y.cell? ⟨w.heap.size + 2, 2, none⟩ = some (.int .i64 0) := ⟨ko.cell 0, ko.cell 1, ko.cell 2⟩
  have f0 := ko.fr 0
  have f1 := ko.fr 1
  have f2 := ko.fr 2
  have HXs : Hid (xs.map (·.1) = rs) := hx
  clear x0 x1 x2 x3 x4 ka kr ko hB z1 hs3 hgg hgl hx KA KR KO hL
  go_upto_region 3 with fail
  generalize (((y.setCell ⟨w.heap.size + 2, 0, none⟩ (.slice (some ⟨g, 0, none⟩) rs.length rs.length)).setCell ⟨w.heap.size + 2, 1, none⟩ (.slice (some ⟨gl, 0, none⟩) lv.length lv.length)).setCell ⟨w.heap.size + 2, 2, none⟩ (.int .i64 now)) = y2 at *
  clear o0 o1 o2 f0 f1 f2
  obtain ⟨ka, kr, ko, hB, b2⟩ := HS2.out
  obtain ⟨x0, x1, x2, x3, x4⟩ := ka.fives
  have hP := HP.out y2 b2
  clear ka kr ko hB b2
  go_wp2_with fail
  with_reducible refine hP.mono ?_
  rintro e y3 ⟨g1, g2, hg1, hg2, rfl, hU, hI, z2⟩
  obtain ⟨ka, kr, ko, hB, b2⟩ := HS2.out
  have hs2 : w.heap.size + 3 ≤ y2.heap.size := by
    have := ko.lt
    omega
  replace kr := kr.below z2
  replace ko := ko.below z2
  replace hB := hB.below z2
  have hgg := HG.out
  have hU' : Bxs y3 g1 67 (rulRow ru).toArray := hU
  have hI' : Bxs y3 g2 2 (intRow hs).toArray := hI
  have HS4 : Hid (Bxs ((y3.setCell ⟨w.heap.size + 2, 3, none⟩ (.slice (some ⟨g1, 0, none⟩) ru.length ru.length)).setCell ⟨w.heap.size + 2, 4, none⟩ (.slice (some ⟨g2, 0, none⟩) hs.length hs.length)) (w.heap.size + 1) 41 #[.slice none 0 0, .slice none 0 0, .int .i64 0, .slice none 0 0, .slice none 0 0] ∧ Bxs ((y3.setCell ⟨w.heap.size + 2, 3, none⟩ (.slice (some ⟨g1, 0, none⟩) ru.length ru.length)).setCell ⟨w.heap.size + 2, 4, none⟩ (.slice (some ⟨g2, 0, none⟩) hs.length hs.length)) (w.heap.size + 2) 41 #[.slice (some ⟨g, 0, none⟩) rs.length rs.length, .slice (some ⟨gl, 0, none⟩) lv.length lv.length, .int .i64 now, .slice (some ⟨g1, 0, none⟩) ru.length ru.length, .slice (some ⟨g2, 0, none⟩) hs.length hs.length] ∧ LgB ((y3.setCell ⟨w.heap.size + 2, 3, none⟩ (.slice (some ⟨g1, 0, none⟩) ru.length ru.length)).setCell ⟨w.heap.size + 2, 4, none⟩ (.slice (some ⟨g2, 0, none⟩) hs.length hs.length)) g xs gl lv ∧ Bxs ((y3.setCell ⟨w.heap.size + 2, 3, none⟩ (.slice (some ⟨g1, 0, none⟩) ru.length ru.length)).setCell ⟨w.heap.size + 2, 4, none⟩ (.slice (some ⟨g2, 0, none⟩) hs.length hs.length)) g1 67 (rulRow ru).toArray ∧ Bxs ((y3.setCell ⟨w.heap.size + 2, 3, none⟩ (.slice (some ⟨g1, 0, none⟩) ru.length ru.length)).setCell ⟨w.heap.size + 2, 4, none⟩ (.slice (some ⟨g2, 0, none⟩) hs.length hs.length)) g2 2 (intRow hs).toArray ∧ Below w.heap.size w ((y3.setCell ⟨w.heap.size + 2, 3, none⟩ (.slice (some ⟨g1, 0, none⟩) ru.length ru.length)).setCell ⟨w.heap.size + 2, 4, none⟩ (.slice (some ⟨g2, 0, none⟩) hs.length hs.length))) := ⟨((kr.other _ 3 (by omega) _).other _ 4 (by omega) _), ((ko.set 3 _).set 4 _), ((hB.low (b := w.heap.size + 2) (by omega) 3 _).low (b := w.heap.size + 2) (by omega) 4 _), ((hU'.other _ 3 (by omega) _).other _ 4 (by omega) _), ((hI'.other _ 3 (by omega) _).other _ 4 (by omega) _), (((chainB b2 z2).setCell (p := ⟨w.heap.size + 2, 3, none⟩) (by show _ ≤ w.heap.size + 2; omega) _).setCell (p := ⟨w.heap.size + 2, 4, none⟩) (by show _ ≤ w.heap.size + 2; omega) _)⟩
  have HG1 : Hid (w.heap.size + 3 ≤ g1 ∧ w.heap.size + 3 ≤ g2) := ⟨by omega, by omega⟩
  obtain ⟨o3, o4⟩ : y3.cell? ⟨w.heap.size + 2, 3, none⟩ = some (.slice none 0 0) ∧ y3.cell? ⟨w.heap.size + 2, 4, none⟩ = some (.slice none 0 0) := ⟨ko.cell 3, ko.cell 4⟩
  have f3 := ko.fr 3
  have f4 := ko.fr 4
  clear ka kr ko hB b2 hU hI hU' hI' hs2 hgg hg1 hg2 z2 x0 x1 x2 x3 x4 hP HS2
  go_upto_region 4 with fail
  generalize ((y3.setCell ⟨w.heap.size + 2, 3, none⟩ (.slice (some ⟨g1, 0, none⟩) ru.length ru.length)).setCell ⟨w.heap.size + 2, 4, none⟩ (.slice (some ⟨g2, 0, none⟩) hs.length hs.length)) = y4 at *
  clear o3 o4 f3 f4
  obtain ⟨kr, ko, hB, hU, hI, b4⟩ := HS4.out
  have hgg := HG.out
  obtain ⟨hg1, hg2⟩ := HG1.out
  obtain ⟨x0, x1, x2, x3, x4⟩ := ko.fives
  have KZ : Hid (HsB (((((y4.setCell ⟨w.heap.size + 1, 0, none⟩ (.slice (some ⟨g, 0, none⟩) rs.length rs.length)).setCell ⟨w.heap.size + 1, 1, none⟩ (.slice (some ⟨gl, 0, none⟩) lv.length lv.length)).setCell ⟨w.heap.size + 1, 2, none⟩ (.int .i64 now)).setCell ⟨w.heap.size + 1, 3, none⟩ (.slice (some ⟨g1, 0, none⟩) ru.length ru.length)).setCell ⟨w.heap.size + 1, 4, none⟩ (.slice (some ⟨g2, 0, none⟩) hs.length hs.length)) g gl g1 g2 rs lv ru hs ∧ Bxs (((((y4.setCell ⟨w.heap.size + 1, 0, none⟩ (.slice (some ⟨g, 0, none⟩) rs.length rs.length)).setCell ⟨w.heap.size + 1, 1, none⟩ (.slice (some ⟨gl, 0, none⟩) lv.length lv.length)).setCell ⟨w.heap.size + 1, 2, none⟩ (.int .i64 now)).setCell ⟨w.heap.size + 1, 3, none⟩ (.slice (some ⟨g1, 0, none⟩) ru.length ru.length)).setCell ⟨w.heap.size + 1, 4, none⟩ (.slice (some ⟨g2, 0, none⟩) hs.length hs.length)) (w.heap.size + 1) 41 #[.slice (some ⟨g, 0, none⟩) rs.length rs.length, .slice (some ⟨gl, 0, none⟩) lv.length lv.length, .int .i64 now, .slice (some ⟨g1, 0, none⟩) ru.length ru.length, .slice (some ⟨g2, 0, none⟩) hs.length hs.length] ∧ Below w.heap.size w (((((y4.setCell ⟨w.heap.size + 1, 0, none⟩ (.slice (some ⟨g, 0, none⟩) rs.length rs.length)).setCell ⟨w.heap.size + 1, 1, none⟩ (.slice (some ⟨gl, 0, none⟩) lv.length lv.length)).setCell ⟨w.heap.size + 1, 2, none⟩ (.int .i64 now)).setCell ⟨w.heap.size + 1, 3, none⟩ (.slice (some ⟨g1, 0, none⟩) ru.length ru.length)).setCell ⟨w.heap.size + 1, 4, none⟩ (.slice (some ⟨g2, 0, none⟩) hs.length hs.length))) := ⟨⟨⟨xs, HXs.out, (((((hB.low (b := w.heap.size + 1) (by omega) 0 _).low (b := w.heap.size + 1) (by omega) 1 _).low (b := w.heap.size + 1) (by omega) 2 _).low (b := w.heap.size + 1) (by omega) 3 _).low (b := w.heap.size + 1) (by omega) 4 _)⟩, (((((hU.other _ 0 (by omega) _).other _ 1 (by omega) _).other _ 2 (by omega) _).other _ 3 (by omega) _).other _ 4 (by omega) _), (((((hI.other _ 0 (by omega) _).other _ 1 (by omega) _).other _ 2 (by omega) _).other _ 3 (by omega) _).other _ 4 (by omega) _)⟩, (((((kr.set 0 _).set 1 _).set 2 _).set 3 _).set 4 _), (((((b4.setCell (p := ⟨w.heap.size + 1, 0, none⟩) (by show _ ≤ w.heap.size + 1; omega) _).setCell (p := ⟨w.heap.size + 1, 1, none⟩) (by show _ ≤ w.heap.size + 1; omega) _).setCell (p := ⟨w.heap.size + 1, 2, none⟩) (by show _ ≤ w.heap.size + 1; omega) _).setCell (p := ⟨w.heap.size + 1, 3, none⟩) (by show _ ≤ w.heap.size + 1; omega) _).setCell (p := ⟨w.heap.size + 1, 4, none⟩) (by show _ ≤ w.heap.size + 1; omega) _)⟩
  obtain ⟨r0, r1, r2, r3, r4⟩ := kr.fives
  have f0 := kr.fr 0
  have f1 := kr.fr 1
  have f2 := kr.fr 2
  have f3 := kr.fr 3
  have f4 := kr.fr 4
  clear kr ko hB hU hI b4 hgg hg1 hg2
  go_wp2_with fail
  generalize (((((y4.setCell ⟨w.heap.size + 1, 0, none⟩ (.slice (some ⟨g, 0, none⟩) rs.length rs.length)).setCell ⟨w.heap.size + 1, 1, none⟩ (.slice (some ⟨gl, 0, none⟩) lv.length lv.length)).setCell ⟨w.heap.size + 1, 2, none⟩ (.int .i64 now)).setCell ⟨w.heap.size + 1, 3, none⟩ (.slice (some ⟨g1, 0, none⟩) ru.length ru.length)).setCell ⟨w.heap.size + 1, 4, none⟩ (.slice (some ⟨g2, 0, none⟩) hs.length hs.length)) = zz at *
  clear x0 x1 x2 x3 x4 r0 r1 r2 r3 r4 f0 f1 f2 f3 f4
  obtain ⟨hH, kz, bz⟩ := KZ.out
  obtain ⟨k0, k1, k2, k3, k4⟩ := kz.fives
  refine bodyPost_ret (v := .agg #[.slice (some ⟨g, 0, none⟩) rs.length rs.length, .slice (some ⟨gl, 0, none⟩) lv.length lv.length, .int .i64 now, .slice (some ⟨g1, 0, none⟩) ru.length ru.length, .slice (some ⟨g2, 0, none⟩) hs.length hs.length]) (by simp [results, Tryz.results6, go_sem, k0, k1, k2, k3, k4]) rfl ?_
  exact ⟨g, gl, g1, g2, rfl, hH, bz⟩
set_option maxHeartbeats 2000000 in
theorem eqHouse_any (rs : List Rw) (lv : List ByteArray) (now : Int) (ru : List Rul) (hs : List Int) (g gl g1 g2 g' gl' g1' g2' : Nat) (w : World) (h : HsB w g gl g1 g2 rs lv ru hs) (h' : HsB w g' gl' g1' g2' rs lv ru hs) (hn : rs.length ≤ 1048576) (hf : ∀ x ∈ rs, x.fs.length ≤ 1048576) (hl : lv.length ≤ 1048576) (k1 : ru.length ≤ 1048576) (k2 : hs.length ≤ 1048576) :
    Calls Tryz.prog 8 #[.agg #[.slice (some ⟨g, 0, none⟩) rs.length rs.length, .slice (some ⟨gl, 0, none⟩) lv.length lv.length, .int .i64 now, .slice (some ⟨g1, 0, none⟩) ru.length ru.length, .slice (some ⟨g2, 0, none⟩) hs.length hs.length], .agg #[.slice (some ⟨g', 0, none⟩) rs.length rs.length, .slice (some ⟨gl', 0, none⟩) lv.length lv.length, .int .i64 now, .slice (some ⟨g1', 0, none⟩) ru.length ru.length, .slice (some ⟨g2', 0, none⟩) hs.length hs.length]] w fun e w' => e = .returned (.bool true) ∧ Below w.heap.size w w' := by
  obtain ⟨W2, hW2⟩ : ∃ W2, W2 = (w.alloc (.cells #[.slice (some ⟨g, 0, none⟩) rs.length rs.length, .slice (some ⟨gl, 0, none⟩) lv.length lv.length, .int .i64 now, .slice (some ⟨g1, 0, none⟩) ru.length ru.length, .slice (some ⟨g2, 0, none⟩) hs.length hs.length] 41)).alloc (.cells #[.slice (some ⟨g', 0, none⟩) rs.length rs.length, .slice (some ⟨gl', 0, none⟩) lv.length lv.length, .int .i64 now, .slice (some ⟨g1', 0, none⟩) ru.length ru.length, .slice (some ⟨g2', 0, none⟩) hs.length hs.length] 41) := ⟨_, rfl⟩
  have HW2 : Hid (W2 = (w.alloc (.cells #[.slice (some ⟨g, 0, none⟩) rs.length rs.length, .slice (some ⟨gl, 0, none⟩) lv.length lv.length, .int .i64 now, .slice (some ⟨g1, 0, none⟩) ru.length ru.length, .slice (some ⟨g2, 0, none⟩) hs.length hs.length] 41)).alloc (.cells #[.slice (some ⟨g', 0, none⟩) rs.length rs.length, .slice (some ⟨gl', 0, none⟩) lv.length lv.length, .int .i64 now, .slice (some ⟨g1', 0, none⟩) ru.length ru.length, .slice (some ⟨g2', 0, none⟩) hs.length hs.length] 41)) := hW2
  have B2 : Hid (Below w.heap.size w W2) := by rw [hW2]; exact alB ((Below.refl _ _).alloc (Nat.le_refl _) _) _
  have KA : Hid (Bxs W2 w.heap.size 41 #[.slice (some ⟨g, 0, none⟩) rs.length rs.length, .slice (some ⟨gl, 0, none⟩) lv.length lv.length, .int .i64 now, .slice (some ⟨g1, 0, none⟩) ru.length ru.length, .slice (some ⟨g2, 0, none⟩) hs.length hs.length]) := by rw [hW2]; exact (Bxs.new _ _ _).alloc _
  have KB : Hid (Bxs W2 (w.heap.size + 1) 41 #[.slice (some ⟨g', 0, none⟩) rs.length rs.length, .slice (some ⟨gl', 0, none⟩) lv.length lv.length, .int .i64 now, .slice (some ⟨g1', 0, none⟩) ru.length ru.length, .slice (some ⟨g2', 0, none⟩) hs.length hs.length]) := by
    rw [hW2]
    have h := Bxs.new (w.alloc (.cells #[.slice (some ⟨g, 0, none⟩) rs.length rs.length, .slice (some ⟨gl, 0, none⟩) lv.length lv.length, .int .i64 now, .slice (some ⟨g1, 0, none⟩) ru.length ru.length, .slice (some ⟨g2, 0, none⟩) hs.length hs.length] 41)) 41 #[.slice (some ⟨g', 0, none⟩) rs.length rs.length, .slice (some ⟨gl', 0, none⟩) lv.length lv.length, .int .i64 now, .slice (some ⟨g1', 0, none⟩) ru.length ru.length, .slice (some ⟨g2', 0, none⟩) hs.length hs.length]
    rwa [szA] at h
  obtain ⟨⟨xs, hx, hB⟩, hU, hI⟩ := h.below B2.out
  obtain ⟨⟨xs', hx', hB'⟩, hU', hI'⟩ := h'.below B2.out
  have hL := eqLog_any (some ⟨g, 0, none⟩) (some ⟨g', 0, none⟩) rs.length rs.length rs (some ⟨gl, 0, none⟩) (some ⟨gl', 0, none⟩) lv.length lv.length lv now W2 (by have := hB.rw.at; rwa [hx] at this) (by have := hB'.rw.at; rwa [hx'] at this) hn (Nat.le_refl _) (Nat.le_refl _) hf hB.lf.txt hB'.lf.txt hl (Nat.le_refl _) (Nat.le_refl _)
  have HP : Hid (∀ x, Below W2.heap.size W2 x → Calls Tryz.prog 18 #[.agg #[.slice (some ⟨g1, 0, none⟩) ru.length ru.length, .slice (some ⟨g2, 0, none⟩) hs.length hs.length], .agg #[.slice (some ⟨g1', 0, none⟩) ru.length ru.length, .slice (some ⟨g2', 0, none⟩) hs.length hs.length]] x fun e w' => e = .returned (.bool true) ∧ Below x.heap.size x w') := fun x hb => by
    have u := Bxs.below hU hb
    have u' := Bxs.below hU' hb
    have i := Bxs.below hI hb
    have i' := Bxs.below hI' hb
    exact eqPolicy_any _ _ _ _ ru.length hs.length ru.length hs.length ru hs x (BlkU.at u) (BlkI.int i) (BlkU.at u') (BlkI.int i') k1 k2 (Nat.le_refl _) (Nat.le_refl _) (Nat.le_refl _) (Nat.le_refl _)
  clear hW2 h h' hU hI hU' hI' hx hx' hB hB' hf
  obtain ⟨x0, x1, x2, x3, x4⟩ := KA.out.fives
  obtain ⟨y0, y1, y2, y3, y4⟩ := KB.out.fives
  go_enter Tryz.func8, Tryz.ntmps8
  go_upto_region 1 with fail
  rw [← HW2.out]
  go_wp2_with fail
  with_reducible refine hL.mono ?_
  rintro e z ⟨rfl, b⟩
  clear x0 x1 x2 x3 x4 y0 y1 y2 y3 y4
  obtain ⟨x0, x1, x2, x3, x4⟩ := (KA.out.below b).fives
  obtain ⟨y0, y1, y2, y3, y4⟩ := (KB.out.below b).fives
  have hP := HP.out z b
  go_wp2_with fail
  with_reducible refine hP.mono ?_
  rintro e z2 ⟨rfl, b2⟩
  go_wp2_with fail
  go_ret
  exact ⟨rfl, chainB B2.out (chainB b b2)⟩
end Go.Proofs.YtpijadhfdpihkaaGreatDoor
