/-
  What l07Shown draws: what shows a field, as a rule; its two rows of texts of its own, apart; no text of it great.
  Conditions: the source is one ('Src').
-/
import Derived.Test.YtnomkcbcjaagmabGreatDoorRows
import Derived.Test.YtnomkcbcjaagmabGreatDoorBytesDigMath
import Derived.Test.YtnomkcbcjaagmabGreatDoorSlASlBOwnS
import Derived.Test.YtnomkcbcjaagmabGreatDoorFldHStepAppTakesLOwnBTurn2
import Derived.Test.YtnomkcbcjaagmabGreatDoorBxKGrKTakesSrc
import Derived.Test.YtnomkcbcjaagmabGreatDoorSpecGTTillTwoFldRd
import Derived.Test.YtnomkcbcjaagmabGreatDoorDrawsDrawKit
import Derived.Test.YtnomkcbcjaagmabGreatDoorLwShwSomeDrawFld
import Derived.Test.YtnomkcbcjaagmabGreatDoorFldRiseFldGShwK
import Derived.Test.YtnomkcbcjaagmabGreatDoorJoinedPutTextFldMath
import Derived.Test.YtnomkcbcjaagmabGreatDoorFldS
import Derived.Test.YtnomkcbcjaagmabGreatDoorFldV
import Derived.Test.YtnomkcbcjaagmabGreatDoorOneKFldOM
import Derived.Test.YtnomkcbcjaagmabGreatDoorFldO
import Derived.Test.YtnomkcbcjaagmabGreatDoorDrawRow
import Derived.Test.YtnomkcbcjaagmabGreatDoorDrawSm
import Derived.Test.YtnomkcbcjaagmabGreatDoorDrawRwDrawPut
import Derived.Handy
import Derived.WalkSpells
import Derived.OwnWalk
import Derived.Deep.RegionHeld3
import Derived.Deep.Cut
import Derived.Deep.CutRange
namespace Go.Proofs.YtnomkcbcjaagmabGreatDoor
open Go.RowKit Go.Lib
set_option linter.unusedVariables false
set_option maxRecDepth 20000

/-- What is shown is not great. -/
def ShkOk (o : Shw) : Prop := o.k.size ≤ 100 ∧ (∀ x ∈ o.ns, x.size ≤ 100) ∧ (∀ x ∈ o.cs, x.size ≤ 100) ∧ o.s.size ≤ 100 ∧ o.v.size ≤ 100 ∧ o.ns.length ≤ 4 ∧ o.cs.length ≤ 5
theorem ShkOk.le {o : Shw} (h : ShkOk o) : ShwLe o := by
  obtain ⟨h1, h2, h3, h4, h5, -, -⟩ := h
  unfold ShwLe maxLen
  exact ⟨by omega, fun x hx => by have := h2 x hx; omega, fun x hx => by have := h3 x hx; omega, by omega, by omega⟩
theorem ShkOk.zero : ShkOk shwZ := ⟨Nat.zero_le _, (fun x hx => by cases hx), (fun x hx => by cases hx), Nat.zero_le _, Nat.zero_le _, Nat.zero_le _, Nat.zero_le _⟩
theorem show_ok {k : ByteArray} {at_ : Int} {fs : List Fld} {i : Int} (h : SmOk 4 k at_ fs) : ShkOk (shO k at_ fs i) ∧ (shO k at_ fs i).cs.length ≤ 4 := by
  unfold shO
  split
  · have hg : FldOk (fs.getD i.toNat fld0) := by
      by_cases hj : i.toNat < fs.length
      · rw [List.getD_eq_getElem?_getD, List.getElem?_eq_getElem hj]; exact h.2.2.2 _ (List.getElem_mem hj)
      · rw [List.getD_eq_getElem?_getD, List.getElem?_eq_none (by omega)]; exact ⟨Nat.zero_le _, Nat.zero_le _, Nat.zero_le _, Nat.zero_le _⟩
    have hl := h.2.2.1.2
    refine ⟨⟨h.1, fun x hx => ?_, fun x hx => ?_, hg.2.2.1, hg.2.2.2, by simpa using hl, by simp; omega⟩, by simpa using hl⟩
    · obtain ⟨f, hf, rfl⟩ := List.mem_map.1 hx; exact (h.2.2.2 f hf).1
    · obtain ⟨f, hf, rfl⟩ := List.mem_map.1 hx; exact (h.2.2.2 f hf).2.1
  · exact ⟨ShkOk.zero, Nat.zero_le _⟩
/-- A source; a result's box; a box of what is shown, its rows of its own. -/
structure ShS (w : World) (B p : Nat) (a : Option Addr) (len cap : Nat) (Z : Nat) (o : Shw) (v1 v2 : Value) (x : World) : Prop where
  src : Src 133 B p a len cap x
  gr : w.grownBy x (some p)
  res : Bxs x w.heap.size 48 #[.string ByteArray.empty, .int .i64 0, .slice none 0 0, .slice none 0 0, .int .i64 0, .string ByteArray.empty, .string ByteArray.empty]
  box : Bxs x Z 48 #[.string o.k, .int .i64 o.at_, v1, v2, .int .i64 o.ix, .string o.s, .string o.v]
  own : ShwO w.heap.size o v1 v2 x
  hp : p < w.heap.size
  hZ : w.heap.size + 1 ≤ Z
section
variable {w : World} {B p : Nat} {a : Option Addr} {len cap Z : Nat} {o o' : Shw} {v1 v2 : Value} {x y : World}
theorem ShS.draw (h : ShS w B p a len cap Z o v1 v2 x) (hs : Src 133 B p a len cap y) (g : x.grownBy y (some p)) : ShS w B p a len cap Z o v1 v2 y := by
  have hp := h.hp
  have hZ := h.hZ
  exact ⟨hs, touch_trans h.gr g, h.res.grown g (fun e => by cases e; omega), h.box.grown g (fun e => by cases e; omega), ⟨ownR_grown h.own.1 g (fun j hj e => by have := (h.own.1.lt j hj).1; cases e; omega), ownR_grown h.own.2.1 g (fun j hj e => by have := (h.own.2.1.lt j hj).1; cases e; omega), h.own.2.2⟩, hp, hZ⟩
/-- One cell of the box turned. -/
theorem ShS.put1 (h : ShS w B p a len cap Z o v1 v2 x) (i : Nat) (u : Value) (hn : o'.ns = o.ns) (hc : o'.cs = o.cs) (hb : (#[.string o.k, .int .i64 o.at_, v1, v2, .int .i64 o.ix, .string o.s, .string o.v] : Array Value).setIfInBounds i u = #[.string o'.k, .int .i64 o'.at_, v1, v2, .int .i64 o'.ix, .string o'.s, .string o'.v]) : ShS w B p a len cap Z o' v1 v2 (x.setCell ⟨Z, i, none⟩ u) := by
  have hp := h.hp
  have hZ := h.hZ
  have n1 : v1.ownBlock ≠ some Z := ownR_ne h.own.1 h.box (by decide)
  have n2 : v2.ownBlock ≠ some Z := ownR_ne h.own.2.1 h.box (by decide)
  have hr : ∀ j, some Z = some j → p < j := fun j hj => by cases hj; omega
  have hr2 : ∀ j, some Z = some j → w.heap.size ≤ j := fun j hj => by cases hj; omega
  refine ⟨h.src.other (set_grown x Z i u) hr, touch_own h.gr (set_grown x Z i u) hr2, h.res.other Z i (by omega) _, ?_, ⟨?_, ?_, h.own.2.2⟩, hp, hZ⟩
  · have := h.box.set i u
    rw [hb] at this
    exact this
  · rw [hn]; exact ownsRow_setCell_other h.own.1 n1 _
  · rw [hc]; exact ownsRow_setCell_other h.own.2.1 n2 _
/-- A commit more. -/
theorem ShS.app (h : ShS w B p a len cap Z o v1 v2 x) (s : ByteArray) (hl : o.cs.length + 1 ≤ 1048576) :
    ∃ g c y, (Builtin.append_ #[23, 23] 23 #[v2, .slice (some ⟨x.heap.size, 0, none⟩) 1 1]).run Tryz.prog (x.alloc (.cells #[.string s] 9)) = .ok (.slice (some ⟨g, 0, none⟩) (o.cs.length + 1) c) y ∧
      ShS w B p a len cap Z ⟨o.k, o.at_, o.ns, o.cs ++ [s], o.ix, o.s, o.v⟩ v1 (.slice (some ⟨g, 0, none⟩) (o.cs.length + 1) c) (y.setCell ⟨Z, 3, none⟩ (.slice (some ⟨g, 0, none⟩) (o.cs.length + 1) c)) ∧ y.cell? ⟨Z, 3, none⟩ = some v2 ∧ y.frozen? ⟨Z, 3, none⟩ = false := by
  have hsz := h.gr.size
  have hp := h.hp
  have hZ := h.hZ
  obtain ⟨g, c, y, h1, h2, h3, h4⟩ := app_str x w.heap.size v2 o.cs h.own.2.1 s hl hsz
  have ba : Below x.heap.size x (x.alloc (.cells #[.string s] 9)) := (Below.refl _ _).alloc (Nat.le_refl _) _
  have hrow : ∀ j, v2.ownBlock = some j → w.heap.size ≤ j := fun j hj => (h.own.2.1.lt j hj).1
  have n1 := ownR_ne (h.own.2.1.alloc (.cells #[.string s] 9)) (h.box.alloc (.cells #[.string s] 9)) (by decide)
  have n2 := ownR_ne (h.own.2.1.alloc (.cells #[.string s] 9)) (h.res.alloc (.cells #[.string s] 9)) (by decide)
  have kb := (h.box.alloc (.cells #[.string s] 9)).grown h3 (Ne.symm n1)
  have kr := (h.res.alloc (.cells #[.string s] 9)).grown h3 (Ne.symm n2)
  have sy := (h.src.below ba).other h3 (fun j hj => by have := hrow j hj; omega)
  have gy := touch_own (touch_below h.gr ba) h3 hrow
  have o1 : y.ownsRow w.heap.size 9 1 v1 o.ns.length (strRow o.ns) := ownR_grown (h.own.1.alloc _) h3 (fun j hj he => h.own.2.2 j hj he)
  have hr : ∀ j, some Z = some j → p < j := fun j hj => by cases hj; omega
  have hr2 : ∀ j, some Z = some j → w.heap.size ≤ j := fun j hj => by cases hj; omega
  have hob : ∀ j, (Value.slice (some ⟨g, 0, none⟩) (o.cs.length + 1) c).ownBlock = some j → g = j := fun j hj => by simpa [Value.ownBlock] using hj
  refine ⟨g, c, y, h1, ⟨sy.other (set_grown y Z 3 _) hr, touch_own gy (set_grown y Z 3 _) hr2, kr.other Z 3 (by omega) _, kb.set 3 _, ⟨ownsRow_setCell_other o1 (ownR_ne o1 kb (by decide)) _, ownsRow_setCell_other h2 (ownR_ne h2 kb (by decide)) _, ?_⟩, hp, hZ⟩, kb.cell 3, kb.fr 3⟩
  intro j hj he
  obtain rfl := hob j he
  rcases h4 with h4 | h4
  · exact h.own.2.2 _ hj h4
  · have := (h.own.1.lt _ hj).2; omega
theorem ShS.done (h : ShS w B p a len cap Z o v1 v2 x) (x0 x1 x2 x3 x4 x5 x6 : Value) : ShwO w.heap.size o v1 v2 (((((((x.setCell ⟨w.heap.size, 0, none⟩ x0).setCell ⟨w.heap.size, 1, none⟩ x1).setCell ⟨w.heap.size, 2, none⟩ x2).setCell ⟨w.heap.size, 3, none⟩ x3).setCell ⟨w.heap.size, 4, none⟩ x4).setCell ⟨w.heap.size, 5, none⟩ x5).setCell ⟨w.heap.size, 6, none⟩ x6) ∧ Src 133 B p a len cap (((((((x.setCell ⟨w.heap.size, 0, none⟩ x0).setCell ⟨w.heap.size, 1, none⟩ x1).setCell ⟨w.heap.size, 2, none⟩ x2).setCell ⟨w.heap.size, 3, none⟩ x3).setCell ⟨w.heap.size, 4, none⟩ x4).setCell ⟨w.heap.size, 5, none⟩ x5).setCell ⟨w.heap.size, 6, none⟩ x6) ∧ w.grownBy (((((((x.setCell ⟨w.heap.size, 0, none⟩ x0).setCell ⟨w.heap.size, 1, none⟩ x1).setCell ⟨w.heap.size, 2, none⟩ x2).setCell ⟨w.heap.size, 3, none⟩ x3).setCell ⟨w.heap.size, 4, none⟩ x4).setCell ⟨w.heap.size, 5, none⟩ x5).setCell ⟨w.heap.size, 6, none⟩ x6) (some p) := by
  have hp := h.hp
  have n1 : v1.ownBlock ≠ some w.heap.size := ownR_ne h.own.1 h.res (by decide)
  have n2 : v2.ownBlock ≠ some w.heap.size := ownR_ne h.own.2.1 h.res (by decide)
  have hr : ∀ j, some w.heap.size = some j → p < j := fun j hj => by cases hj; omega
  have hr2 : ∀ j, some w.heap.size = some j → w.heap.size ≤ j := fun j hj => by cases hj; omega
  refine ⟨⟨?_, ?_, h.own.2.2⟩, ?_, ?_⟩
  · exact ownsRow_setCell_other (ownsRow_setCell_other (ownsRow_setCell_other (ownsRow_setCell_other (ownsRow_setCell_other (ownsRow_setCell_other (ownsRow_setCell_other h.own.1 n1 _) n1 _) n1 _) n1 _) n1 _) n1 _) n1 _
  · exact ownsRow_setCell_other (ownsRow_setCell_other (ownsRow_setCell_other (ownsRow_setCell_other (ownsRow_setCell_other (ownsRow_setCell_other (ownsRow_setCell_other h.own.2.1 n2 _) n2 _) n2 _) n2 _) n2 _) n2 _) n2 _
  · exact ((((((h.src.other (set_grown _ _ 0 _) hr).other (set_grown _ _ 1 _) hr).other (set_grown _ _ 2 _) hr).other (set_grown _ _ 3 _) hr).other (set_grown _ _ 4 _) hr).other (set_grown _ _ 5 _) hr).other (set_grown _ _ 6 _) hr
  · exact touch_own (touch_own (touch_own (touch_own (touch_own (touch_own (touch_own h.gr (set_grown _ _ 0 _) hr2) (set_grown _ _ 1 _) hr2) (set_grown _ _ 2 _) hr2) (set_grown _ _ 3 _) hr2) (set_grown _ _ 4 _) hr2) (set_grown _ _ 5 _) hr2) (set_grown _ _ 6 _) hr2
/-- What is shown, put into a box. -/
theorem ShS.first (hs : Src 133 B p a len cap x) (hg : w.grownBy x (some p)) (hr0 : Bxs x w.heap.size 48 #[.string ByteArray.empty, .int .i64 0, .slice none 0 0, .slice none 0 0, .int .i64 0, .string ByteArray.empty, .string ByteArray.empty]) (hb : Bxs x Z 48 #[.string ByteArray.empty, .int .i64 0, .slice none 0 0, .slice none 0 0, .int .i64 0, .string ByteArray.empty, .string ByteArray.empty]) (own : ShwO w.heap.size o v1 v2 x) (hp : p < w.heap.size) (hZ : w.heap.size + 1 ≤ Z) : ShS w B p a len cap Z o v1 v2 (((((((x.setCell ⟨Z, 0, none⟩ (.string o.k)).setCell ⟨Z, 1, none⟩ (.int .i64 o.at_)).setCell ⟨Z, 2, none⟩ v1).setCell ⟨Z, 3, none⟩ v2).setCell ⟨Z, 4, none⟩ (.int .i64 o.ix)).setCell ⟨Z, 5, none⟩ (.string o.s)).setCell ⟨Z, 6, none⟩ (.string o.v)) := by
  have n1 : v1.ownBlock ≠ some Z := ownR_ne own.1 hb (by decide)
  have n2 : v2.ownBlock ≠ some Z := ownR_ne own.2.1 hb (by decide)
  have hr : ∀ j, some Z = some j → p < j := fun j hj => by cases hj; omega
  have hr2 : ∀ j, some Z = some j → w.heap.size ≤ j := fun j hj => by cases hj; omega
  have hne : Z ≠ w.heap.size := by omega
  refine ⟨?_, ?_, ?_, ?_, ⟨?_, ?_, own.2.2⟩, hp, hZ⟩
  · exact ((((((hs.other (set_grown _ _ 0 _) hr).other (set_grown _ _ 1 _) hr).other (set_grown _ _ 2 _) hr).other (set_grown _ _ 3 _) hr).other (set_grown _ _ 4 _) hr).other (set_grown _ _ 5 _) hr).other (set_grown _ _ 6 _) hr
  · exact touch_own (touch_own (touch_own (touch_own (touch_own (touch_own (touch_own hg (set_grown _ _ 0 _) hr2) (set_grown _ _ 1 _) hr2) (set_grown _ _ 2 _) hr2) (set_grown _ _ 3 _) hr2) (set_grown _ _ 4 _) hr2) (set_grown _ _ 5 _) hr2) (set_grown _ _ 6 _) hr2
  · exact ((((((hr0.other Z 0 hne _).other Z 1 hne _).other Z 2 hne _).other Z 3 hne _).other Z 4 hne _).other Z 5 hne _).other Z 6 hne _
  · exact ((((((hb.set 0 _).set 1 _).set 2 _).set 3 _).set 4 _).set 5 _).set 6 _
  · exact ownsRow_setCell_other (ownsRow_setCell_other (ownsRow_setCell_other (ownsRow_setCell_other (ownsRow_setCell_other (ownsRow_setCell_other (ownsRow_setCell_other own.1 n1 _) n1 _) n1 _) n1 _) n1 _) n1 _) n1 _
  · exact ownsRow_setCell_other (ownsRow_setCell_other (ownsRow_setCell_other (ownsRow_setCell_other (ownsRow_setCell_other (ownsRow_setCell_other (ownsRow_setCell_other own.2.1 n2 _) n2 _) n2 _) n2 _) n2 _) n2 _) n2 _
end
theorem field_shown (k : ByteArray) (t : Int) (q1 : Option Addr) (n1 c1 : Nat) (q2 : Option Addr) (n2 c2 : Nat) (i : Int) (s v : ByteArray) (e : Int) (x : World) : (Instr.field 50 (.agg #[.string k, .int .i64 t, .slice q1 n1 c1, .slice q2 n2 c2, .int .i64 i, .string s, .string v, .int .i64 e]) 0).run Tryz.prog x = .ok (.agg #[.string k, .int .i64 t, .slice q1 n1 c1, .slice q2 n2 c2, .int .i64 i, .string s, .string v]) x := by kernel_rfl
def shS5 (w : World) (B p : Nat) (a : Option Addr) (len cap : Nat) (Z m : Nat) (x : World) : Prop := ∃ (o : Shw) (q1 : Option Addr) (c1 : Nat) (q2 : Option Addr) (c2 : Nat), ShS w B p a len cap Z o (.slice q1 o.ns.length c1) (.slice q2 o.cs.length c2) x ∧ ShkOk o ∧ o.cs.length ≤ m
set_option maxHeartbeats 8000000 in
theorem l07Shown_any (B p : Nat) (a : Option Addr) (len cap : Nat) (w : World) (hs : Src 133 B p a len cap w) :
    Calls Tryz.prog 68 #[.pointer (some ⟨p, 0, none⟩)] w fun e w' =>
      (∃ (o : Shw) (q1 : Option Addr) (c1 : Nat) (q2 : Option Addr) (c2 : Nat), e = .returned (.agg #[.string o.k, .int .i64 o.at_, .slice q1 o.ns.length c1, .slice q2 o.cs.length c2, .int .i64 o.ix, .string o.s, .string o.v]) ∧ ShwO w.heap.size o (.slice q1 o.ns.length c1) (.slice q2 o.cs.length c2) w' ∧ ShkOk o) ∧ Src 133 B p a len cap w' ∧ w.grownBy w' (some p) := by
  have hp := hs.lt
  obtain ⟨W1, hW1⟩ : ∃ W1, W1 = w.alloc (.cells #[.string ⟨#[]⟩, .int .i64 0, .slice none 0 0, .slice none 0 0, .int .i64 0, .string ⟨#[]⟩, .string ⟨#[]⟩] 48) := ⟨_, rfl⟩
  have HW : Hid (W1 = w.alloc (.cells #[.string ⟨#[]⟩, .int .i64 0, .slice none 0 0, .slice none 0 0, .int .i64 0, .string ⟨#[]⟩, .string ⟨#[]⟩] 48)) := hW1
  have b1 : Below w.heap.size w W1 := by rw [hW1]; exact (Below.refl _ _).alloc (Nat.le_refl _) _
  have R1 : Hid (Bxs W1 w.heap.size 48 #[.string ByteArray.empty, .int .i64 0, .slice none 0 0, .slice none 0 0, .int .i64 0, .string ByteArray.empty, .string ByteArray.empty]) := by rw [hW1]; exact Bxs.new _ _ _
  have S1 : Hid (Src 133 B p a len cap W1) := hs.below b1
  have HB1 : Hid (Below w.heap.size w W1) := b1
  have HZ1 : Hid (W1.heap.size = w.heap.size + 1) := by rw [hW1]; exact szA _ _
  clear hW1 b1 hs
  go_enter Tryz.func68, Tryz.ntmps68
  go_wp2_with fail
  rw [← HW.out]
  clear HW
  refine (l07Some_any B p a len cap W1 S1.out).mono ?_
  rintro e y2 ⟨⟨k, at_, fs, v, rfl, own, ok⟩, s2, g2⟩
  obtain ⟨bq, cq, rfl, hcq⟩ := ownF_one own ok.2.2.1.1
  go_upto_region 2 with fail
  obtain ⟨y3, hy3⟩ : ∃ y3, y3 = y2.alloc (.cells #[.string k, .int .i64 at_, .slice (some ⟨bq, 0, none⟩) fs.length cq] 44) := ⟨_, rfl⟩
  rw [← hy3]
  obtain ⟨Zr, hZr⟩ : ∃ Zr, Zr = y2.heap.size := ⟨_, rfl⟩
  rw [← hZr]
  have S3 : Hid (DfS W1 B p a len cap Zr k at_ (.slice (some ⟨bq, 0, none⟩) fs.length cq) fs y3) := by rw [hy3, hZr]; exact DfS.new s2 g2 S1.out.lt own
  have HOk : Hid (SmOk 4 k at_ fs) := ok
  have hl1 : 1 ≤ fs.length := ok.2.2.1.1
  have hl4 : fs.length ≤ 4 := ok.2.2.1.2
  have HGW : Hid (∀ x, W1.grownBy x (some p) → w.grownBy x (some p) ∧ Bxs x w.heap.size 48 #[.string ByteArray.empty, .int .i64 0, .slice none 0 0, .slice none 0 0, .int .i64 0, .string ByteArray.empty, .string ByteArray.empty]) := fun x hx => ⟨touch_trans (grown_below HB1.out) hx, R1.out.grown hx (fun e => by cases e; omega)⟩
  clear hy3 hZr own ok s2 g2
  have QN : Hid (∀ x, DfS W1 B p a len cap Zr k at_ (.slice (some ⟨bq, 0, none⟩) fs.length cq) fs x → Calls Tryz.prog 39 #[.pointer (some ⟨p, 0, none⟩), .int .i64 (fs.length : Int)] x fun e x1 => ∃ Q : Int, e = .returned (.int .i64 Q) ∧ DfS W1 B p a len cap Zr k at_ (.slice (some ⟨bq, 0, none⟩) fs.length cq) fs x1 ∧ x.grownBy x1 (some p)) := fun x hx => by
    refine (n_any B p a len cap (fs.length : Int) x hx.src (by omega)).mono ?_
    rintro e x1 ⟨⟨q, rfl, -⟩, s1, g1⟩
    exact ⟨q, rfl, hx.draw s1 g1, g1⟩
  have QS : Hid (∀ (Q : Int) x, DfS W1 B p a len cap Zr k at_ (.slice (some ⟨bq, 0, none⟩) fs.length cq) fs x → Calls Tryz.prog 29 #[.agg #[.string k, .int .i64 at_, .slice (some ⟨bq, 0, none⟩) fs.length cq], .int .i64 Q] x fun e x1 => ∃ (o : Shw) (q1 : Option Addr) (c1 : Nat) (q2 : Option Addr) (c2 : Nat) (C : Int), e = .returned (.agg #[.string o.k, .int .i64 o.at_, .slice q1 o.ns.length c1, .slice q2 o.cs.length c2, .int .i64 o.ix, .string o.s, .string o.v, .int .i64 C]) ∧ ShwO w.heap.size o (.slice q1 o.ns.length c1) (.slice q2 o.cs.length c2) x1 ∧ (ShkOk o ∧ o.cs.length ≤ 4) ∧ DfS W1 B p a len cap Zr k at_ (.slice (some ⟨bq, 0, none⟩) fs.length cq) fs x1 ∧ Below x.heap.size x x1) := fun Q x hx => by
    obtain ⟨pp, c9, e9, hc9, hf9⟩ := ownF_form hx.own
    have epp : pp = some ⟨bq, 0, none⟩ ∧ c9 = cq := by injection e9 with h1 h2 h3; exact ⟨h1.symm, h3.symm⟩
    obtain ⟨rfl, rfl⟩ := epp
    refine (specShow_any k at_ (some ⟨bq, 0, none⟩) c9 fs Q x hf9 (by omega) hc9 (by have := HOk.out.1; unfold maxLen; omega) HOk.out.le).mono ?_
    rintro e x1 ⟨v1, v2, rfl, ow, b2⟩
    obtain ⟨q1, c1, rfl, -, -⟩ := ownS_form ow.1
    obtain ⟨q2, c2, rfl, -, -⟩ := ownS_form ow.2.1
    have hz : w.heap.size ≤ x.heap.size := (HGW.out x hx.gr).1.size
    exact ⟨_, q1, c1, q2, c2, _, rfl, ⟨ownS_mono ow.1 hz, ownS_mono ow.2.1 hz, ow.2.2⟩, show_ok HOk.out, hx.below b2, b2⟩
  have BR : Hid (Below y3.heap.size y3 y3.drew) := (Below.refl _ _).drew
  have S4 : Hid (DfS W1 B p a len cap Zr k at_ (.slice (some ⟨bq, 0, none⟩) fs.length cq) fs y3.drew) := S3.out.below BR.out
  have hfs := field_shown
  have HX : Hid (∀ x, DfS W1 B p a len cap Zr k at_ (.slice (some ⟨bq, 0, none⟩) fs.length cq) fs x → x.cell? ⟨Zr, 0, none⟩ = some (.string k) ∧ x.cell? ⟨Zr, 1, none⟩ = some (.int .i64 at_) ∧ x.cell? ⟨Zr, 2, none⟩ = some (.slice (some ⟨bq, 0, none⟩) fs.length cq)) := fun x hx => ⟨hx.box.cell 0, hx.box.cell 1, hx.box.cell 2⟩
  have HFin : Hid (∀ (x : World) (X : Nat) (o : Shw) (q1 : Option Addr) (c1 : Nat) (q2 : Option Addr) (c2 : Nat), DfS W1 B p a len cap Zr k at_ (.slice (some ⟨bq, 0, none⟩) fs.length cq) fs x → Bxs x X 48 #[.string ByteArray.empty, .int .i64 0, .slice none 0 0, .slice none 0 0, .int .i64 0, .string ByteArray.empty, .string ByteArray.empty] → W1.heap.size ≤ X → ShwO w.heap.size o (.slice q1 o.ns.length c1) (.slice q2 o.cs.length c2) x → (ShkOk o ∧ o.cs.length ≤ 4) → shS5 w B p a len cap X 4 (((((((x.setCell ⟨X, 0, none⟩ (.string o.k)).setCell ⟨X, 1, none⟩ (.int .i64 o.at_)).setCell ⟨X, 2, none⟩ (.slice q1 o.ns.length c1)).setCell ⟨X, 3, none⟩ (.slice q2 o.cs.length c2)).setCell ⟨X, 4, none⟩ (.int .i64 o.ix)).setCell ⟨X, 5, none⟩ (.string o.s)).setCell ⟨X, 6, none⟩ (.string o.v))) := fun x X o q1 c1 q2 c2 hx hb hX ow hk => ⟨o, q1, c1, q2, c2, ShS.first hx.src (HGW.out x hx.gr).1 (HGW.out x hx.gr).2 hb ow hp (by have := HZ1.out; omega), hk.1, hk.2⟩
  clear S3
  go_cut [4] from 7 to 14 (fun s4 wx => ∃ Z : Nat, s4 = .pointer (some ⟨Z, 0, none⟩) ∧ Hid (shS5 w B p a len cap Z 4 wx))
  case first =>
    refine region_till (fun w' => w'.cell? ⟨Zr, 0, none⟩ = some (.string k) ∧ w'.cell? ⟨Zr, 1, none⟩ = some (.int .i64 at_) ∧ w'.cell? ⟨Zr, 2, none⟩ = some (.slice (some ⟨bq, 0, none⟩) fs.length cq)) 9 (by kernel_rfl) (HX.out _ S4.out) (fun hHeld => ?_)
    refine till_take 0 (v := ?_) rfl (by kernel_rfl) (by kernel_rfl) (by kernel_rfl) (by kernel_rfl) (fun _ _ _ h => h) hHeld (Or.inl ⟨by rfl, ?_⟩) ?_
    rotate_left
    · (intro w hSw; (try dsimp only at hSw); go_simp; try with_reducible rfl)
    simp only [Act.put, List.setIfInBounds_toArray, List.set_cons_zero, List.set_cons_succ]
    refine till_take 1 (v := ?_) rfl (by kernel_rfl) (by kernel_rfl) (by kernel_rfl) (by kernel_rfl) (fun _ _ _ h => h) hHeld (Or.inl ⟨by rfl, ?_⟩) ?_
    rotate_left
    · (intro w hSw; (try dsimp only at hSw); go_simp; try with_reducible rfl)
    simp only [Act.put, List.setIfInBounds_toArray, List.set_cons_zero, List.set_cons_succ]
    refine till_take 2 (v := ?_) rfl (by kernel_rfl) (by kernel_rfl) (by kernel_rfl) (by kernel_rfl) (fun _ _ _ h => h) hHeld (Or.inl ⟨by rfl, ?_⟩) ?_
    rotate_left
    · (intro w hSw; (try dsimp only at hSw); go_simp; try with_reducible rfl)
    simp only [Act.put, List.setIfInBounds_toArray, List.set_cons_zero, List.set_cons_succ]
    refine till_take 3 (v := ?_) rfl (by kernel_rfl) (by kernel_rfl) (by kernel_rfl) (by kernel_rfl) (fun _ _ _ h => h) hHeld (Or.inl ⟨by rfl, ?_⟩) ?_
    rotate_left
    · (intro w hSw; (try dsimp only at hSw); go_simp; try with_reducible rfl)
    simp only [Act.put, List.setIfInBounds_toArray, List.set_cons_zero, List.set_cons_succ]
    refine till_take 4 (v := ?_) rfl (by kernel_rfl) (by kernel_rfl) (by kernel_rfl) (by kernel_rfl) (fun _ _ _ h => h) hHeld (Or.inl ⟨by rfl, ?_⟩) ?_
    rotate_left
    · (intro w hSw; (try dsimp only at hSw); go_simp; try with_reducible rfl)
    simp only [Act.put, List.setIfInBounds_toArray, List.set_cons_zero, List.set_cons_succ]
    refine till_ready2 5 8 rfl rfl (by kernel_rfl) (fun K hK => ?_) (fun K hK => ?_)
    · go_simp
      (go_at_call 39; with_reducible refine (QN.out _ S4.out).mono ?_; rintro e z ⟨Q, rfl, T1, gz⟩)
      refine hK.out _ _ (HX.out _ T1) (fun hHeld => ?_)
      clear hK K
      try simp only [Act.put, List.setIfInBounds_toArray, List.set_cons_zero, List.set_cons_succ]
      refine till_ready2 6 8 rfl rfl (by kernel_rfl) (fun K hK => ?_) (fun K hK => ?_)
      · go_simp
        (go_at_call 29; with_reducible refine (QS.out Q _ T1).mono ?_; rintro e u ⟨o, q1, c1, q2, c2, C, rfl, ow, hk, T2, bu⟩)
        refine hK.out _ _ (HX.out _ T2) (fun hHeld => ?_)
        clear hK K
        try simp only [Act.put, List.setIfInBounds_toArray, List.set_cons_zero, List.set_cons_succ]
        refine till_take 7 (v := ?_) rfl (by kernel_rfl) (by kernel_rfl) (by kernel_rfl) (by kernel_rfl) (fun _ _ _ h => h) hHeld (Or.inl ⟨by rfl, ?_⟩) ?_
        rotate_left
        · (intro w hSw; (try dsimp only at hSw); go_simp; try with_reducible rfl)
        simp only [Act.put, List.setIfInBounds_toArray, List.set_cons_zero, List.set_cons_succ]
        refine till_ready 8 rfl (by kernel_rfl) (fun K hK => ?_)
        go_simp
        have T3 := T2.below ((Below.refl _ _).alloc (Nat.le_refl _) (.cells #[.string ⟨#[]⟩, .int .i64 0, .slice none 0 0, .slice none 0 0, .int .i64 0, .string ⟨#[]⟩, .string ⟨#[]⟩] 48))
        have X3 : Bxs (u.alloc (.cells #[.string ⟨#[]⟩, .int .i64 0, .slice none 0 0, .slice none 0 0, .int .i64 0, .string ⟨#[]⟩, .string ⟨#[]⟩] 48)) u.heap.size 48 #[.string ByteArray.empty, .int .i64 0, .slice none 0 0, .slice none 0 0, .int .i64 0, .string ByteArray.empty, .string ByteArray.empty] := Bxs.new _ _ _
        have hX3 : W1.heap.size ≤ u.heap.size := T2.gr.size
        have ow3 : ShwO w.heap.size o (.slice q1 o.ns.length c1) (.slice q2 o.cs.length c2) (u.alloc (.cells #[.string ⟨#[]⟩, .int .i64 0, .slice none 0 0, .slice none 0 0, .int .i64 0, .string ⟨#[]⟩, .string ⟨#[]⟩] 48)) := ⟨ow.1.alloc _, ow.2.1.alloc _, ow.2.2⟩
        refine hK.out _ _ (HX.out _ T3) (fun hHeld => ?_)
        clear hK K
        try simp only [Act.put, List.setIfInBounds_toArray, List.set_cons_zero, List.set_cons_succ]
        generalize u.alloc (.cells #[.string ⟨#[]⟩, .int .i64 0, .slice none 0 0, .slice none 0 0, .int .i64 0, .string ⟨#[]⟩, .string ⟨#[]⟩] 48) = u' at *
        generalize u.heap.size = X at *
        have HE : Hid _ := HFin.out _ X o q1 c1 q2 c2 T3 X3 hX3 ow3 hk
        obtain ⟨k, at_, ns, cs, ix, s, v⟩ := o
        dsimp only at *
        have m0 := X3.cell 0
        have m1 := X3.cell 1
        have m2 := X3.cell 2
        have m3 := X3.cell 3
        have m4 := X3.cell 4
        have m5 := X3.cell 5
        have m6 := X3.cell 6
        have n0 := X3.fr 0
        have n1 := X3.fr 1
        have n2 := X3.fr 2
        have n3 := X3.fr 3
        have n4 := X3.fr 4
        have n5 := X3.fr 5
        have n6 := X3.fr 6
        simp only [List.getElem?_toArray, List.getElem?_cons_zero, List.getElem?_cons_succ] at m0 m1 m2 m3 m4 m5 m6
        refine till_last rfl (by kernel_rfl) (by kernel_rfl) (fun K hK => ?_)
        go_simp
        refine hK.out _ _ ?_
        clear hK K
        clear m0 m1 m2 m3 m4 m5 m6 n0 n1 n2 n3 n4 n5 n6 X3 T3 ow3 hHeld
        go_wp2_with fail
        go_meet
        exact ⟨_, rfl, HE⟩
      · go_simp
        have T1' := T1.below ((Below.refl _ _).alloc (Nat.le_refl _) (.cells #[.string ⟨#[]⟩, .int .i64 0, .slice none 0 0, .slice none 0 0, .int .i64 0, .string ⟨#[]⟩, .string ⟨#[]⟩] 48))
        have X1' : Bxs (z.alloc (.cells #[.string ⟨#[]⟩, .int .i64 0, .slice none 0 0, .slice none 0 0, .int .i64 0, .string ⟨#[]⟩, .string ⟨#[]⟩] 48)) z.heap.size 48 #[.string ByteArray.empty, .int .i64 0, .slice none 0 0, .slice none 0 0, .int .i64 0, .string ByteArray.empty, .string ByteArray.empty] := Bxs.new _ _ _
        have hX3 : W1.heap.size ≤ z.heap.size := T1.gr.size
        refine hK.out _ _ (HX.out _ T1') (fun hHeld => ?_)
        clear hK K
        try simp only [Act.put, List.setIfInBounds_toArray, List.set_cons_zero, List.set_cons_succ]
        generalize z.alloc (.cells #[.string ⟨#[]⟩, .int .i64 0, .slice none 0 0, .slice none 0 0, .int .i64 0, .string ⟨#[]⟩, .string ⟨#[]⟩] 48) = z' at *
        generalize z.heap.size = X at *
        refine till_ready 6 rfl (by kernel_rfl) (fun K hK => ?_)
        go_simp
        (go_at_call 29; with_reducible refine (QS.out Q _ T1').mono ?_; rintro e u ⟨o, q1, c1, q2, c2, C, rfl, ow, hk, T2, bu⟩)
        have X3 := X1'.below bu
        have T3 := T2
        have ow3 := ow
        refine hK.out _ _ (HX.out _ T2) (fun hHeld => ?_)
        clear hK K
        try simp only [Act.put, List.setIfInBounds_toArray, List.set_cons_zero, List.set_cons_succ]
        refine till_take 7 (v := ?_) rfl (by kernel_rfl) (by kernel_rfl) (by kernel_rfl) (by kernel_rfl) (fun _ _ _ h => h) hHeld (Or.inl ⟨by rfl, ?_⟩) ?_
        rotate_left
        · (intro w hSw; (try dsimp only at hSw); go_simp; try with_reducible rfl)
        simp only [Act.put, List.setIfInBounds_toArray, List.set_cons_zero, List.set_cons_succ]
        have HE : Hid _ := HFin.out _ X o q1 c1 q2 c2 T3 X3 hX3 ow3 hk
        obtain ⟨k, at_, ns, cs, ix, s, v⟩ := o
        dsimp only at *
        have m0 := X3.cell 0
        have m1 := X3.cell 1
        have m2 := X3.cell 2
        have m3 := X3.cell 3
        have m4 := X3.cell 4
        have m5 := X3.cell 5
        have m6 := X3.cell 6
        have n0 := X3.fr 0
        have n1 := X3.fr 1
        have n2 := X3.fr 2
        have n3 := X3.fr 3
        have n4 := X3.fr 4
        have n5 := X3.fr 5
        have n6 := X3.fr 6
        simp only [List.getElem?_toArray, List.getElem?_cons_zero, List.getElem?_cons_succ] at m0 m1 m2 m3 m4 m5 m6
        refine till_last rfl (by kernel_rfl) (by kernel_rfl) (fun K hK => ?_)
        go_simp
        refine hK.out _ _ ?_
        clear hK K
        clear m0 m1 m2 m3 m4 m5 m6 n0 n1 n2 n3 n4 n5 n6 X3 T3 ow3 hHeld
        go_wp2_with fail
        go_meet
        exact ⟨_, rfl, HE⟩
    · go_simp
      have T0 : DfS W1 B p a len cap Zr k at_ (.slice (some ⟨bq, 0, none⟩) fs.length cq) fs ((y3.alloc (.cells #[.string ⟨#[]⟩, .int .i64 0, .slice none 0 0, .slice none 0 0, .int .i64 0, .string ⟨#[]⟩, .string ⟨#[]⟩] 48)).drew) := S4.out.below ((Below.refl y3.drew.heap.size y3.drew).alloc (Nat.le_refl _) (.cells #[.string ⟨#[]⟩, .int .i64 0, .slice none 0 0, .slice none 0 0, .int .i64 0, .string ⟨#[]⟩, .string ⟨#[]⟩] 48))
      have X0 : Bxs ((y3.alloc (.cells #[.string ⟨#[]⟩, .int .i64 0, .slice none 0 0, .slice none 0 0, .int .i64 0, .string ⟨#[]⟩, .string ⟨#[]⟩] 48)).drew) y3.heap.size 48 #[.string ByteArray.empty, .int .i64 0, .slice none 0 0, .slice none 0 0, .int .i64 0, .string ByteArray.empty, .string ByteArray.empty] := (Bxs.new y3 _ _ : Bxs (y3.alloc (.cells #[.string ⟨#[]⟩, .int .i64 0, .slice none 0 0, .slice none 0 0, .int .i64 0, .string ⟨#[]⟩, .string ⟨#[]⟩] 48)) _ _ _)
      have hX3 : W1.heap.size ≤ y3.heap.size := S4.out.gr.size
      have hPy : p < y3.heap.size := S4.out.src.lt
      refine hK.out _ _ (HX.out _ T0) (fun hHeld => ?_)
      clear hK K
      try simp only [Act.put, List.setIfInBounds_toArray, List.set_cons_zero, List.set_cons_succ]
      refine till_ready 5 rfl (by kernel_rfl) (fun K hK => ?_)
      go_simp
      (go_at_call 39; with_reducible refine (QN.out _ T0).mono ?_; rintro e z ⟨Q, rfl, T1, gz⟩)
      have X1' := X0.grown gz (fun e => by cases e; omega)
      refine hK.out _ _ (HX.out _ T1) (fun hHeld => ?_)
      clear hK K
      try simp only [Act.put, List.setIfInBounds_toArray, List.set_cons_zero, List.set_cons_succ]
      clear X0 T0
      generalize y3.heap.size = X at *
      refine till_ready 6 rfl (by kernel_rfl) (fun K hK => ?_)
      go_simp
      (go_at_call 29; with_reducible refine (QS.out Q _ T1).mono ?_; rintro e u ⟨o, q1, c1, q2, c2, C, rfl, ow, hk, T2, bu⟩)
      have X3 := X1'.below bu
      have T3 := T2
      have ow3 := ow
      refine hK.out _ _ (HX.out _ T2) (fun hHeld => ?_)
      clear hK K
      try simp only [Act.put, List.setIfInBounds_toArray, List.set_cons_zero, List.set_cons_succ]
      refine till_take 7 (v := ?_) rfl (by kernel_rfl) (by kernel_rfl) (by kernel_rfl) (by kernel_rfl) (fun _ _ _ h => h) hHeld (Or.inl ⟨by rfl, ?_⟩) ?_
      rotate_left
      · (intro w hSw; (try dsimp only at hSw); go_simp; try with_reducible rfl)
      simp only [Act.put, List.setIfInBounds_toArray, List.set_cons_zero, List.set_cons_succ]
      have HE : Hid _ := HFin.out _ X o q1 c1 q2 c2 T3 X3 hX3 ow3 hk
      obtain ⟨k, at_, ns, cs, ix, s, v⟩ := o
      dsimp only at *
      have m0 := X3.cell 0
      have m1 := X3.cell 1
      have m2 := X3.cell 2
      have m3 := X3.cell 3
      have m4 := X3.cell 4
      have m5 := X3.cell 5
      have m6 := X3.cell 6
      have n0 := X3.fr 0
      have n1 := X3.fr 1
      have n2 := X3.fr 2
      have n3 := X3.fr 3
      have n4 := X3.fr 4
      have n5 := X3.fr 5
      have n6 := X3.fr 6
      simp only [List.getElem?_toArray, List.getElem?_cons_zero, List.getElem?_cons_succ] at m0 m1 m2 m3 m4 m5 m6
      refine till_last rfl (by kernel_rfl) (by kernel_rfl) (fun K hK => ?_)
      go_simp
      refine hK.out _ _ ?_
      clear hK K
      clear m0 m1 m2 m3 m4 m5 m6 n0 n1 n2 n3 n4 n5 n6 X3 T3 ow3 hHeld
      go_wp2_with fail
      go_meet
      exact ⟨_, rfl, HE⟩
  case rest =>
    obtain ⟨Z, rfl, HC⟩ := hcut
    obtain ⟨w7, rfl⟩ : ∃ w7 : World, w7 = wc := ⟨_, rfl⟩
    clear S4 BR QN QS HX HFin HGW HOk R1 HB1 HZ1 S1
    obtain ⟨o, q1, c1, q2, c2, S7, ok7, hl7⟩ := HC.out
    have HS7 : Hid (ShS w B p a len cap Z o (.slice q1 o.ns.length c1) (.slice q2 o.cs.length c2) w7) := S7
    have HOk : Hid (ShkOk o) := ok7
    have HL4 : Hid (o.cs.length ≤ 4) := hl7
    clear HC S7 ok7 hl7
    go_wp2_with fail
    refine (one_any B p a len cap 5 w7 HS7.out.src (by omega)).mono ?_
    rintro e y8 ⟨⟨bo, rfl⟩, hs8, hg8⟩
    have S8 : Hid (ShS w B p a len cap Z o (.slice q1 o.ns.length c1) (.slice q2 o.cs.length c2) y8) := HS7.out.draw hs8 hg8
    clear HS7 hs8 hg8
    go_upto_if 16 with fail
    go_cut [4] from 17 to 44 (fun s4 wx => s4 = .pointer (some ⟨Z, 0, none⟩) ∧ Hid (shS5 w B p a len cap Z 5 wx))
    case first =>
      cases bo
      · have HF : Hid (shS5 w B p a len cap Z 5 y8) := ⟨o, q1, c1, q2, c2, S8.out, HOk.out, by have := HL4.out; omega⟩
        go_wp2_with fail
        go_meet
        exact ⟨rfl, HF⟩
      · go_wp2_with fail
        refine (n_any B p a len cap 5 y8 S8.out.src (by omega)).mono ?_
        rintro e y9 ⟨⟨q, rfl, q0, q5, -⟩, hs9, hg9⟩
        have q6 := q5 (by omega)
        have S9 : Hid (ShS w B p a len cap Z o (.slice q1 o.ns.length c1) (.slice q2 o.cs.length c2) y9) := S8.out.draw hs9 hg9
        clear S8 hs9 hg9 q5
        obtain ⟨k1, k2, k3, k4, k5, k6, k7⟩ := HOk.out
        have k8 := HL4.out
        by_cases e0 : q = 0
        · subst e0
          go_wp2_with fail
          refine (l07Salt_any B p a len cap y9 S9.out.src).mono ?_
          rintro e z1 ⟨⟨t, rfl, ht⟩, sz, gz⟩
          have S10 := S9.out.draw sz gz
          have T : Hid (shS5 w B p a len cap Z 5 (z1.setCell ⟨Z, 5, none⟩ (.string t))) := ⟨⟨o.k, o.at_, o.ns, o.cs, o.ix, t, o.v⟩, q1, c1, q2, c2, S10.put1 5 (.string t) rfl rfl rfl, ⟨k1, k2, k3, by show t.size ≤ 100; omega, k5, k6, k7⟩, by show o.cs.length ≤ 5; omega⟩
          have d0 : z1.cell? ⟨Z, 5, none⟩ = some (.string o.s) := S10.box.cell 5
          have f0 := S10.box.fr 5
          clear S9 S10 sz gz
          go_wp2_with fail
          go_meet
          exact ⟨rfl, T⟩
        by_cases e1 : q = 1
        · subst e1
          go_wp2_with fail
          refine (n_any B p a len cap 5 y9 S9.out.src (by omega)).mono ?_
          rintro e z1 ⟨⟨t, rfl, t0, t5, -⟩, sz, gz⟩
          have t6 := t5 (by omega)
          have hw : IntKind.i64.wrap (t - 1) = t - 1 := by rw [IntKind.wrap_i64]; omega
          have S10 := S9.out.draw sz gz
          have T : Hid (shS5 w B p a len cap Z 5 (z1.setCell ⟨Z, 4, none⟩ (.int .i64 (t - 1)))) := ⟨⟨o.k, o.at_, o.ns, o.cs, t - 1, o.s, o.v⟩, q1, c1, q2, c2, S10.put1 4 (.int .i64 (t - 1)) rfl rfl rfl, ⟨k1, k2, k3, k4, k5, k6, k7⟩, by show o.cs.length ≤ 5; omega⟩
          have d0 : z1.cell? ⟨Z, 4, none⟩ = some (.int .i64 o.ix) := S10.box.cell 4
          have f0 := S10.box.fr 4
          clear S9 S10 sz gz t5
          go_wp2_with fail
          go_meet
          exact ⟨rfl, T⟩
        by_cases e2 : q = 2
        · subst e2
          obtain ⟨g, c, y, hrun, S10, d0, f0⟩ := S9.out.app ⟨#[99]⟩ (by omega)
          have T : Hid (shS5 w B p a len cap Z 5 (y.setCell ⟨Z, 3, none⟩ (.slice (some ⟨g, 0, none⟩) (o.cs.length + 1) c))) := by
            have ql : (o.cs ++ [(⟨#[99]⟩ : ByteArray)]).length = o.cs.length + 1 := by simp
            refine ⟨⟨o.k, o.at_, o.ns, o.cs ++ [⟨#[99]⟩], o.ix, o.s, o.v⟩, q1, c1, some ⟨g, 0, none⟩, c, ?_, ⟨k1, k2, fun x hx => ?_, k4, k5, k6, by show (o.cs ++ [_]).length ≤ 5; rw [ql]; omega⟩, by show (o.cs ++ [_]).length ≤ 5; rw [ql]; omega⟩
            · show ShS w B p a len cap Z _ _ (.slice (some ⟨g, 0, none⟩) (o.cs ++ [(⟨#[99]⟩ : ByteArray)]).length c) _
              rw [ql]; exact S10
            · rcases List.mem_append.1 hx with h | h
              · exact k3 x h
              · obtain rfl := List.mem_singleton.1 h; show 1 ≤ 100; omega
          have d3 : y9.cell? ⟨Z, 3, none⟩ = some (.slice q2 o.cs.length c2) := S9.out.box.cell 3
          clear S9 S10
          go_wp2_with (at_builtin; refine wpList_append_run rfl _ _ _ rfl (.slice q2 o.cs.length c2) (.slice (some ⟨y9.heap.size, 0, none⟩) 1 1) _ _ rfl rfl hrun ?_)
          go_meet
          exact ⟨rfl, T⟩
        by_cases e3 : q = 3
        · subst e3
          go_wp2_with fail
          refine (l07Value_any B p a len cap y9 S9.out.src).mono ?_
          rintro e z1 ⟨⟨t, rfl, ht⟩, sz, gz⟩
          have S10 := S9.out.draw sz gz
          have T : Hid (shS5 w B p a len cap Z 5 (z1.setCell ⟨Z, 6, none⟩ (.string t))) := ⟨⟨o.k, o.at_, o.ns, o.cs, o.ix, o.s, t⟩, q1, c1, q2, c2, S10.put1 6 (.string t) rfl rfl rfl, ⟨k1, k2, k3, k4, by show t.size ≤ 100; omega, k6, k7⟩, by show o.cs.length ≤ 5; omega⟩
          have d0 : z1.cell? ⟨Z, 6, none⟩ = some (.string o.v) := S10.box.cell 6
          have f0 := S10.box.fr 6
          clear S9 S10 sz gz
          go_wp2_with fail
          go_meet
          exact ⟨rfl, T⟩
        · have b0 : (q == 0) = false := beq_eq_false_iff_ne.2 e0
          have b1 : (q == 1) = false := beq_eq_false_iff_ne.2 e1
          have b2 : (q == 2) = false := beq_eq_false_iff_ne.2 e2
          have b3 : (q == 3) = false := beq_eq_false_iff_ne.2 e3
          go_wp2_with fail
          refine (edge_any B p a len cap y9 S9.out.src).mono ?_
          rintro e z1 ⟨⟨t, rfl, -⟩, sz, gz⟩
          have S10 := S9.out.draw sz gz
          have T : Hid (shS5 w B p a len cap Z 5 (z1.setCell ⟨Z, 1, none⟩ (.int .i64 t))) := ⟨⟨o.k, t, o.ns, o.cs, o.ix, o.s, o.v⟩, q1, c1, q2, c2, S10.put1 1 (.int .i64 t) rfl rfl rfl, ⟨k1, k2, k3, k4, k5, k6, k7⟩, by show o.cs.length ≤ 5; omega⟩
          have d0 : z1.cell? ⟨Z, 1, none⟩ = some (.int .i64 o.at_) := S10.box.cell 1
          have f0 := S10.box.fr 1
          clear S9 S10 sz gz
          go_wp2_with fail
          go_meet
          exact ⟨rfl, T⟩
    case rest =>
      obtain ⟨rfl, HC⟩ := hcut
      obtain ⟨w9, rfl⟩ : ∃ w9 : World, w9 = wc := ⟨_, rfl⟩
      clear S8 HOk HL4
      obtain ⟨o, q1, c1, q2, c2, S9, ok9, -⟩ := HC.out
      have HD : Hid (∀ x0 x1 x2 x3 x4 x5 x6 : Value, _) := S9.done
      have HOk : Hid (ShkOk o) := ok9
      have a0 : w9.cell? ⟨Z, 0, none⟩ = some (.string o.k) := S9.box.cell 0
      have a1 : w9.cell? ⟨Z, 1, none⟩ = some (.int .i64 o.at_) := S9.box.cell 1
      have a2 : w9.cell? ⟨Z, 2, none⟩ = some (.slice q1 o.ns.length c1) := S9.box.cell 2
      have a3 : w9.cell? ⟨Z, 3, none⟩ = some (.slice q2 o.cs.length c2) := S9.box.cell 3
      have a4 : w9.cell? ⟨Z, 4, none⟩ = some (.int .i64 o.ix) := S9.box.cell 4
      have a5 : w9.cell? ⟨Z, 5, none⟩ = some (.string o.s) := S9.box.cell 5
      have a6 : w9.cell? ⟨Z, 6, none⟩ = some (.string o.v) := S9.box.cell 6
      have d0 : w9.cell? ⟨w.heap.size, 0, none⟩ = some (.string ByteArray.empty) := S9.res.cell 0
      have d1 : w9.cell? ⟨w.heap.size, 1, none⟩ = some (.int .i64 0) := S9.res.cell 1
      have d2 : w9.cell? ⟨w.heap.size, 2, none⟩ = some (.slice none 0 0) := S9.res.cell 2
      have d3 : w9.cell? ⟨w.heap.size, 3, none⟩ = some (.slice none 0 0) := S9.res.cell 3
      have d4 : w9.cell? ⟨w.heap.size, 4, none⟩ = some (.int .i64 0) := S9.res.cell 4
      have d5 : w9.cell? ⟨w.heap.size, 5, none⟩ = some (.string ByteArray.empty) := S9.res.cell 5
      have d6 : w9.cell? ⟨w.heap.size, 6, none⟩ = some (.string ByteArray.empty) := S9.res.cell 6
      have f0 := S9.res.fr 0
      have f1 := S9.res.fr 1
      have f2 := S9.res.fr 2
      have f3 := S9.res.fr 3
      have f4 := S9.res.fr 4
      have f5 := S9.res.fr 5
      have f6 := S9.res.fr 6
      clear HC S9 ok9
      go_wp2_with fail
      refine bodyPost_ret (v := .agg #[.string o.k, .int .i64 o.at_, .slice q1 o.ns.length c1, .slice q2 o.cs.length c2, .int .i64 o.ix, .string o.s, .string o.v]) (by simp [results, Tryz.results68, go_sem, d0, d1, d2, d3, d4, d5, d6]) rfl ?_
      obtain ⟨o1, o2, o3⟩ := HD.out (.string o.k) (.int .i64 o.at_) (.slice q1 o.ns.length c1) (.slice q2 o.cs.length c2) (.int .i64 o.ix) (.string o.s) (.string o.v)
      exact ⟨⟨o, q1, c1, q2, c2, rfl, o1, HOk.out⟩, o2, o3⟩
end Go.Proofs.YtnomkcbcjaagmabGreatDoor
