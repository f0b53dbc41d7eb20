/-
  Parts of one proof, laid as one text: DrawSm, DrawTb; what each says stands at its head.
-/
import Derived.Test.YtonleickhincgaaGreatDoorRows
import Derived.Test.YtonleickhincgaaGreatDoorBytesDigMath
import Derived.Test.YtonleickhincgaaGreatDoorTreeMathSlABxKSlBOwnS
import Derived.Test.YtonleickhincgaaGreatDoorShwKOwnBPadIMacMathSgnBDigITurn2
import Derived.Test.YtonleickhincgaaGreatDoorFldIsTimeIGrKSpecGNSpecGTTillTwoFldN
import Derived.Test.YtonleickhincgaaGreatDoorMac2AppSSrcDrawsDrawKitSomeIsInSignSSignDWide2StepAppPath2DigestDrawTreeSpoil
import Derived.Test.YtonleickhincgaaGreatDoorLgLawTakesTakesLPutterPathI
import Derived.Test.YtonleickhincgaaGreatDoorTakesNDrawFldFldOMFldO
import Derived.Test.YtonleickhincgaaGreatDoorNameRight
import Derived.Test.YtonleickhincgaaGreatDoorTimeBPutMathPutNumJoinedPutTextFldMath
import Derived.Test.YtonleickhincgaaGreatDoorImplVerInc2SignRSignWFldRiseScanMath
import Derived.Test.YtonleickhincgaaGreatDoorLgAtKLgAnsLgRtAudMathHdMathClaMathHearMathFldGOneKFldBlkRwBlkRowOps
import Derived.Test.YtonleickhincgaaGreatDoorDrawRowFldF
import Derived.Handy
import Derived.WalkSpells
import Derived.OwnWalk
import Derived.Deep.RegionHeld3
import Derived.Deep.Cut
import Derived.Deep.CutRange
import Derived.Test.YtonleickhincgaaGreatDoorLfSDrawLoDrawLoMSpoilT
import Derived.Test.YtonleickhincgaaGreatDoorGetValGetTxtNumMathFldRdNumFromTmbMathLgMath
import Derived.Test.YtonleickhincgaaGreatDoorFldTbFldTrImplFCBlNot
import Derived.Test.YtonleickhincgaaGreatDoorFldRSpecTgFldL
/-
  What l07Some draws: a row with at least one field, in memory of its own, no text of it greater than 100 bytes.
  Conditions: the source is one ('Src').
-/
namespace Go.Proofs.YtonleickhincgaaGreatDoor
open Go.RowKit Go.Lib
set_option linter.unusedVariables false
set_option maxRecDepth 20000

def FldOk (f : Fld) : Prop := f.n.size ≤ 100 ∧ f.c.size ≤ 100 ∧ f.s.size ≤ 100 ∧ f.v.size ≤ 100
/-- A row of one to m fields, its texts not great. -/
def SmOk (m : Nat) (k : ByteArray) (at_ : Int) (fs : List Fld) : Prop := k.size ≤ 100 ∧ (-9223372036854775808 ≤ at_ ∧ at_ ≤ 9223372036854775807) ∧ (1 ≤ fs.length ∧ fs.length ≤ m) ∧ ∀ f ∈ fs, FldOk f
theorem RwR.ok {k : ByteArray} {at_ : Int} {fs : List Fld} (h : RwR k at_ fs) : SmOk 3 k at_ fs := by
  obtain ⟨h1, h2, h3, h4, -⟩ := rwB_parts h.1
  refine ⟨by have := (nrB_le h1).2; omega, by omega, h3, fun f hf => ?_⟩
  obtain ⟨p1, p2, -, p4⟩ := fdB_parts (h4 f hf)
  obtain ⟨-, p5⟩ := p4 (h.2 f hf)
  have p6 := (nrB_le p1).2
  unfold cmOk at p5
  rw [Bool.and_eq_true, Bool.and_eq_true, decide_eq_true_iff, decide_eq_true_iff] at p5
  exact ⟨by omega, by omega, by omega, by omega⟩
theorem SmOk.more {m m' : Nat} {k : ByteArray} {at_ : Int} {fs : List Fld} (h : SmOk m k at_ fs) (hm : m ≤ m') : SmOk m' k at_ fs := ⟨h.1, h.2.1, ⟨h.2.2.1.1, by have := h.2.2.1.2; omega⟩, h.2.2.2⟩
theorem SmOk.le {m : Nat} {k : ByteArray} {at_ : Int} {fs : List Fld} (h : SmOk m k at_ fs) : FldsLe fs := fun f hf => by
  obtain ⟨h1, h2, h3, h4⟩ := h.2.2.2 f hf
  unfold maxLen
  exact ⟨by omega, by omega, by omega, by omega⟩
theorem forget_ok {k : ByteArray} {at_ : Int} {fs : List Fld} {i : Int} (h : RwR k at_ fs) (h0 : 0 ≤ i) (h1 : i < fs.length) : fgK k at_ fs i = k ∧ fgA k at_ fs i = at_ ∧ SmOk 3 k at_ (fgF k at_ fs i) := by
  have hlt : i.toNat < fs.length := by omega
  have hg : fs.getD i.toNat fldD = fs[i.toNat] := by rw [List.getD_eq_getElem?_getD, List.getElem?_eq_getElem hlt]; rfl
  have hm : fs[i.toNat] ∈ fs := List.getElem_mem hlt
  have hC : fgC k at_ fs i = 0 := by
    unfold fgC
    rw [if_pos h.1, if_pos ⟨h0, by omega⟩, hg, h.2 _ hm]
    rfl
  have e : fgF k at_ fs i = fs.set i.toNat (goneF fs[i.toNat]) := by unfold fgF; rw [if_pos hC, hg]
  obtain ⟨o1, o2, o3, o4⟩ := h.ok
  refine ⟨if_pos hC, if_pos hC, o1, o2, by rw [e, List.length_set]; exact o3, ?_⟩
  rw [e]
  intro f hf
  rcases List.mem_or_eq_of_mem_set hf with h | rfl
  · exact o4 f h
  · have := o4 _ hm
    exact ⟨this.1, this.2.1, Nat.zero_le _, Nat.zero_le _⟩
/-- A source; a result's box; a row's box, its fields of its own. -/
structure SmS (w : World) (B p : Nat) (a : Option Addr) (len cap : Nat) (Z : Nat) (k : ByteArray) (at_ : Int) (v : Value) (fs : List Fld) (x : World) : Prop where
  src : Src 126 B p a len cap x
  gr : w.grownBy x (some p)
  res : Bxs x w.heap.size 100 #[.string ByteArray.empty, .int .i64 0, .slice none 0 0]
  box : Bxs x Z 100 #[.string k, .int .i64 at_, v]
  own : x.ownsRow w.heap.size 122 5 v fs.length (fldRow fs)
  hp : p < w.heap.size
  hZ : w.heap.size + 1 ≤ Z
section
variable {w : World} {B p : Nat} {a : Option Addr} {len cap Z : Nat} {k k' : ByteArray} {at_ at' : Int} {v v' : Value} {fs gs : List Fld} {x y : World}
theorem SmS.draw (h : SmS w B p a len cap Z k at_ v fs x) (hs : Src 126 B p a len cap y) (g : x.grownBy y (some p)) : SmS w B p a len cap Z k at_ v fs y := by
  have hp := h.hp
  have hZ := h.hZ
  exact ⟨hs, touch_trans h.gr g, h.res.grown g (fun e => by cases e; omega), h.box.grown g (fun e => by cases e; omega), ownR_grown h.own g (fun j hj e => by have := (h.own.lt j hj).1; cases e; omega), hp, hZ⟩
theorem SmS.below (h : SmS w B p a len cap Z k at_ v fs x) (b : Below x.heap.size x y) : SmS w B p a len cap Z k at_ v fs y :=
  ⟨h.src.below b, touch_below h.gr b, h.res.below b, h.box.below b, ownS_below h.own b, h.hp, h.hZ⟩
/-- Another row into the box. -/
theorem SmS.put3 (h : SmS w B p a len cap Z k at_ v fs x) (own : x.ownsRow w.heap.size 122 5 v' gs.length (fldRow gs)) : SmS w B p a len cap Z k' at' v' gs (((x.setCell ⟨Z, 0, none⟩ (.string k')).setCell ⟨Z, 1, none⟩ (.int .i64 at')).setCell ⟨Z, 2, none⟩ v') := by
  have hp := h.hp
  have hZ := h.hZ
  have hn : v'.ownBlock ≠ some Z := ownF_ne own h.box (by decide)
  obtain ⟨o1, o2, o3⟩ := Go.Proofs.YtonleickhincgaaGreatDoor.put3 h.gr h.src own hp (show w.heap.size ≤ Z by omega) hn (.string k') (.int .i64 at') v'
  exact ⟨o2, o3, ((h.res.other Z 0 (by omega) _).other Z 1 (by omega) _).other Z 2 (by omega) _, ((h.box.set 0 _).set 1 _).set 2 _, o1, hp, hZ⟩
theorem SmS.put1 (h : SmS w B p a len cap Z k at_ v fs x) (i : Nat) (u : Value) (cs : Array Value) (hc : (#[.string k, .int .i64 at_, v] : Array Value).setIfInBounds i u = cs) (hcs : cs = #[.string k', .int .i64 at', v]) : SmS w B p a len cap Z k' at' v fs (x.setCell ⟨Z, i, none⟩ u) := by
  have hp := h.hp
  have hZ := h.hZ
  have hn : v.ownBlock ≠ some Z := ownF_ne h.own h.box (by decide)
  have hr : ∀ j, some Z = some j → p < j := fun j hj => by cases hj; omega
  have hr2 : ∀ j, some Z = some j → w.heap.size ≤ j := fun j hj => by cases hj; omega
  refine ⟨h.src.other (set_grown x Z i u) hr, touch_own h.gr (set_grown x Z i u) hr2, h.res.other Z i (by omega) _, ?_, ownsRow_setCell_other h.own hn _, hp, hZ⟩
  have := h.box.set i u
  rw [hc, hcs] at this
  exact this
theorem SmS.done (h : SmS w B p a len cap Z k at_ v fs x) (x0 x1 x2 : Value) :
    (((x.setCell ⟨w.heap.size, 0, none⟩ x0).setCell ⟨w.heap.size, 1, none⟩ x1).setCell ⟨w.heap.size, 2, none⟩ x2).ownsRow w.heap.size 122 5 v fs.length (fldRow fs) ∧ Src 126 B p a len cap (((x.setCell ⟨w.heap.size, 0, none⟩ x0).setCell ⟨w.heap.size, 1, none⟩ x1).setCell ⟨w.heap.size, 2, none⟩ x2) ∧ w.grownBy (((x.setCell ⟨w.heap.size, 0, none⟩ x0).setCell ⟨w.heap.size, 1, none⟩ x1).setCell ⟨w.heap.size, 2, none⟩ x2) (some p) :=
  Go.Proofs.YtonleickhincgaaGreatDoor.put3 h.gr h.src h.own h.hp (Nat.le_refl _) (ownF_ne h.own h.res (by decide)) x0 x1 x2
theorem SmS.app (h : SmS w B p a len cap Z k at_ v fs x) (f : Fld) (hl : fs.length + 1 ≤ 1048576) :
    ∃ g c y, (Builtin.append_ #[98, 98] 98 #[v, .slice (some ⟨x.heap.size, 0, none⟩) 1 1]).run Tryz.prog (x.alloc (.cells #[.string f.n, .string f.c, .string f.s, .string f.v, .bool f.g] 122)) = .ok (.slice (some ⟨g, 0, none⟩) (fs.length + 1) c) y ∧
      SmS w B p a len cap Z k at_ (.slice (some ⟨g, 0, none⟩) (fs.length + 1) c) (fs ++ [f]) (y.setCell ⟨Z, 2, none⟩ (.slice (some ⟨g, 0, none⟩) (fs.length + 1) c)) ∧ y.cell? ⟨Z, 2, none⟩ = some v ∧ y.frozen? ⟨Z, 2, none⟩ = false := by
  have hsz := h.gr.size
  have hp := h.hp
  have hZ := h.hZ
  obtain ⟨g, c, y, h1, h2, h3, h4⟩ := app_fld x w.heap.size v fs h.own f.n f.c f.s f.v f.g hl hsz
  have H := h.below ((Below.refl _ _).alloc (Nat.le_refl _) (.cells #[.string f.n, .string f.c, .string f.s, .string f.v, .bool f.g] 122))
  have hrow : ∀ j, v.ownBlock = some j → w.heap.size ≤ j := fun j hj => (h.own.lt j hj).1
  have n1 := ownF_ne H.own H.box (by decide)
  have n2 := ownF_ne H.own H.res (by decide)
  have kb : Bxs y Z 100 #[.string k, .int .i64 at_, v] := H.box.grown h3 (Ne.symm n1)
  have kr : Bxs y w.heap.size 100 #[.string ByteArray.empty, .int .i64 0, .slice none 0 0] := H.res.grown h3 (Ne.symm n2)
  have sy : Src 126 B p a len cap y := H.src.other h3 (fun j hj => by have := hrow j hj; omega)
  have gy : w.grownBy y (some p) := touch_own H.gr h3 hrow
  have hr : ∀ j, some Z = some j → p < j := fun j hj => by cases hj; omega
  have hr2 : ∀ j, some Z = some j → w.heap.size ≤ j := fun j hj => by cases hj; omega
  refine ⟨g, c, y, h1, ⟨sy.other (set_grown y Z 2 _) hr, touch_own gy (set_grown y Z 2 _) hr2, kr.other Z 2 (by omega) _, kb.set 2 _, ownsRow_setCell_other h2 (ownF_ne h2 kb (by decide)) _, hp, hZ⟩, kb.cell 2, kb.fr 2⟩
/-- Another salt into the first field. -/
theorem SmS.salt {bb cc : Nat} {f : Fld} (h : SmS w B p a len cap Z k at_ (.slice (some ⟨bb, 0, none⟩) (f :: fs).length cc) (f :: fs) x) (s : ByteArray) : SmS w B p a len cap Z k at_ (.slice (some ⟨bb, 0, none⟩) (f :: fs).length cc) ((⟨f.n, f.c, s, f.v, f.g⟩ : Fld) :: fs) (x.setCell ⟨bb, 2, none⟩ (.string s)) := by
  have hp := h.hp
  have hZ := h.hZ
  have n1 := ownF_ne h.own h.box (by decide)
  have n2 := ownF_ne h.own h.res (by decide)
  have m1 : bb ≠ Z := by simpa [Value.ownBlock] using n1
  have m2 : bb ≠ w.heap.size := by simpa [Value.ownBlock] using n2
  have hb : w.heap.size ≤ bb := (h.own.lt bb rfl).1
  have hr : ∀ j, some bb = some j → p < j := fun j hj => by cases hj; omega
  have hr2 : ∀ j, some bb = some j → w.heap.size ≤ j := fun j hj => by cases hj; omega
  exact ⟨h.src.other (set_grown x bb 2 _) hr, touch_own h.gr (set_grown x bb 2 _) hr2, h.res.other bb 2 m2 _, h.box.other bb 2 m1 _, (h.own.stored 2 (.string s)).1, hp, hZ⟩
end
theorem ownF_one {w : World} {base : Nat} {v : Value} {l : List Fld} (h : w.ownsRow base 122 5 v l.length (fldRow l)) (h0 : 1 ≤ l.length) : ∃ b cap, v = .slice (some ⟨b, 0, none⟩) l.length cap ∧ l.length ≤ cap := by
  rcases h.2 with ⟨rfl, h1⟩ | ⟨g, cap, cur, rfl, h2, h3, h4, -⟩
  · omega
  · exact ⟨g, cap, rfl, h4⟩
def smS4 (w : World) (B p : Nat) (a : Option Addr) (len cap : Nat) (Z m : Nat) (x : World) : Prop := ∃ (k : ByteArray) (at_ : Int) (v : Value) (fs : List Fld), SmS w B p a len cap Z k at_ v fs x ∧ SmOk m k at_ fs
set_option maxHeartbeats 8000000 in
theorem l07Some_any (B p : Nat) (a : Option Addr) (len cap : Nat) (w : World) (hs : Src 126 B p a len cap w) :
    Calls Tryz.prog 93 #[.pointer (some ⟨p, 0, none⟩)] w fun e w' =>
      (∃ (k : ByteArray) (at_ : Int) (fs : List Fld) (v : Value), e = .returned (.agg #[.string k, .int .i64 at_, v]) ∧ w'.ownsRow w.heap.size 122 5 v fs.length (fldRow fs) ∧ SmOk 4 k at_ fs) ∧ Src 126 B p a len cap w' ∧ w.grownBy w' (some p) := by
  have hp := hs.lt
  obtain ⟨W1, hW1⟩ : ∃ W1, W1 = w.alloc (.cells #[.string ⟨#[]⟩, .int .i64 0, .slice none 0 0] 100) := ⟨_, rfl⟩
  have HW : Hid (W1 = w.alloc (.cells #[.string ⟨#[]⟩, .int .i64 0, .slice none 0 0] 100)) := hW1
  have b1 : Below w.heap.size w W1 := by rw [hW1]; exact (Below.refl _ _).alloc (Nat.le_refl _) _
  have hz1 : W1.heap.size = w.heap.size + 1 := by rw [hW1]; simp
  have R1 : Hid (Bxs W1 w.heap.size 100 #[.string ByteArray.empty, .int .i64 0, .slice none 0 0]) := by rw [hW1]; exact Bxs.new _ _ _
  have S1 : Hid (Src 126 B p a len cap W1) := hs.below b1
  have G1 : Hid (w.grownBy W1 (some p)) := grown_below b1
  have HZ1 : Hid (W1.heap.size = w.heap.size + 1) := hz1
  clear hW1 b1 hs hz1
  go_enter Tryz.func93, Tryz.ntmps93
  go_wp2_with fail
  rw [← HW.out]
  clear HW
  refine (n_any B p a len cap 20 W1 S1.out (by omega)).mono ?_
  rintro e y1 ⟨⟨r, rfl, r0, r1, -⟩, hs1, hg1⟩
  have r2 := r1 (by omega)
  go_wp2_with fail
  refine (l07Row_any B p a len cap r y1 hs1 r0 (by omega)).mono ?_
  rintro e y2 ⟨⟨k, fs, v, rfl, own, hrr⟩, hs2, hg2⟩
  obtain ⟨bb, cc, rfl, hcc⟩ := ownF_one own (rwB_parts hrr.1).2.2.1.1
  go_upto_region 2 with fail
  obtain ⟨y3, hy3⟩ : ∃ y3, y3 = y2.alloc (.cells #[.string k, .int .i64 r, .slice (some ⟨bb, 0, none⟩) fs.length cc] 100) := ⟨_, rfl⟩
  rw [← hy3]
  obtain ⟨Z, hZ⟩ : ∃ Z, Z = y2.heap.size := ⟨_, rfl⟩
  rw [← hZ]
  have S3 : Hid (SmS w B p a len cap Z k r (.slice (some ⟨bb, 0, none⟩) fs.length cc) fs y3) := by
    have e1 := G1.out.size
    have e2 := hg1.size
    have e3 := hg2.size
    have e4 := HZ1.out
    have ba : Below y2.heap.size y2 y3 := by rw [hy3]; exact (Below.refl _ _).alloc (Nat.le_refl _) _
    exact ⟨hs2.below ba, touch_below (touch_trans (touch_trans G1.out hg1) hg2) ba, ((R1.out.grown hg1 (fun e => by cases e; omega)).grown hg2 (fun e => by cases e; omega)).below ba, by rw [hy3, hZ]; exact Bxs.new _ _ _, ownS_mono (ownS_below own ba) (by omega), hp, by omega⟩
  have HRr : Hid (RwR k r fs) := hrr
  clear hy3 hZ own hs2 hg2 hs1 hg1 R1 S1 G1 hrr r0 r1 r2 HZ1 hcc
  go_wp2_with fail
  refine (one_any B p a len cap 2 y3 S3.out.src (by omega)).mono ?_
  rintro e y4 ⟨⟨bo, rfl⟩, hs4, hg4⟩
  have S4 : Hid (SmS w B p a len cap Z k r (.slice (some ⟨bb, 0, none⟩) fs.length cc) fs y4) := S3.out.draw hs4 hg4
  clear S3 hs4 hg4
  go_upto_if 9 with fail
  go_cut [3] from 10 to 17 (fun s3 wx => s3 = .pointer (some ⟨Z, 0, none⟩) ∧ Hid (smS4 w B p a len cap Z 3 wx))
  case first =>
    cases bo
    · have HF : Hid (smS4 w B p a len cap Z 3 y4) := ⟨k, r, _, fs, S4.out, HRr.out.ok⟩
      go_wp2_with fail
      go_meet
      exact ⟨rfl, HF⟩
    · have BR : Hid (Below y4.heap.size y4 y4.drew) := (Below.refl _ _).drew
      have S5 : Hid (SmS w B p a len cap Z k r (.slice (some ⟨bb, 0, none⟩) fs.length cc) fs y4.drew) := S4.out.below BR.out
      have QN : Hid (∀ x, SmS w B p a len cap Z k r (.slice (some ⟨bb, 0, none⟩) fs.length cc) fs x → Calls Tryz.prog 32 #[.pointer (some ⟨p, 0, none⟩), .int .i64 (fs.length : Int)] x fun e x1 => ∃ q : Int, e = .returned (.int .i64 q) ∧ 0 ≤ q ∧ q < fs.length ∧ SmS w B p a len cap Z k r (.slice (some ⟨bb, 0, none⟩) fs.length cc) fs x1) := fun x hx => by
        have hl := HRr.out.ok.2.2.1
        refine (n_any B p a len cap (fs.length : Int) x hx.src (by omega)).mono ?_
        rintro e x1 ⟨⟨q, rfl, q0, q1, q2⟩, s1, g1⟩
        refine ⟨q, rfl, q0, ?_, hx.draw s1 g1⟩
        by_cases h2 : 1 < (fs.length : Int)
        · exact q1 h2
        · have := q2 (by omega); omega
      have QF : Hid (∀ (q : Int) x, 0 ≤ q → q < fs.length → SmS w B p a len cap Z k r (.slice (some ⟨bb, 0, none⟩) fs.length cc) fs x → Calls Tryz.prog 146 #[.agg #[.string k, .int .i64 r, .slice (some ⟨bb, 0, none⟩) fs.length cc], .int .i64 q] x fun e x1 => ∃ b2 c2, e = .returned (.agg #[.string k, .int .i64 r, .slice (some ⟨b2, 0, none⟩) (fgF k r fs q).length c2, .int .i64 (fgC k r fs q)]) ∧ SmS w B p a len cap Z k r (.slice (some ⟨bb, 0, none⟩) fs.length cc) fs x1 ∧ x1.ownsRow w.heap.size 122 5 (.slice (some ⟨b2, 0, none⟩) (fgF k r fs q).length c2) (fgF k r fs q).length (fldRow (fgF k r fs q)) ∧ SmOk 3 k r (fgF k r fs q)) := fun q x q0 q1 hx => by
        obtain ⟨o1, o2, o3, o4⟩ := HRr.out.ok
        obtain ⟨f1, f2, f3⟩ := forget_ok HRr.out q0 q1
        obtain ⟨pp, c9, e9, hc9, hf9⟩ := ownF_form hx.own
        have epp : pp = some ⟨bb, 0, none⟩ ∧ c9 = cc := by injection e9 with h1 h2 h3; exact ⟨h1.symm, h3.symm⟩
        obtain ⟨rfl, rfl⟩ := epp
        refine (specForget_any k r (some ⟨bb, 0, none⟩) c9 fs q x hf9 (by omega) hc9 (by unfold maxLen; omega) HRr.out.ok.le).mono ?_
        rintro e x1 ⟨v2, rfl, own2, b2⟩
        obtain ⟨g2, c2, rfl, -⟩ := ownF_one own2 f3.2.2.1.1
        rw [f1, f2]
        exact ⟨g2, c2, rfl, hx.below b2, ownS_mono own2 hx.gr.size, f3⟩
      have HX : Hid (∀ x, SmS w B p a len cap Z k r (.slice (some ⟨bb, 0, none⟩) fs.length cc) fs x → x.cell? ⟨Z, 0, none⟩ = some (.string k) ∧ x.cell? ⟨Z, 1, none⟩ = some (.int .i64 r) ∧ x.cell? ⟨Z, 2, none⟩ = some (.slice (some ⟨bb, 0, none⟩) fs.length cc)) := fun x hx => ⟨hx.box.cell 0, hx.box.cell 1, hx.box.cell 2⟩
      have hfr := field_rowD
      clear S4
      go_upto_region 3 with fail
      refine region_till (fun w' => w'.cell? ⟨Z, 0, none⟩ = some (.string k) ∧ w'.cell? ⟨Z, 1, none⟩ = some (.int .i64 r) ∧ w'.cell? ⟨Z, 2, none⟩ = some (.slice (some ⟨bb, 0, none⟩) fs.length cc)) 8 (by kernel_rfl) (HX.out _ S5.out) (fun hHeld => ?_)
      refine till_take 0 (v := ?_) rfl (by kernel_rfl) (by kernel_rfl) (by kernel_rfl) (by kernel_rfl) (fun _ _ _ h => h) hHeld (Or.inl ⟨by rfl, ?_⟩) ?_
      rotate_left
      · (intro w hSw; (try dsimp only at hSw); go_simp; try with_reducible rfl)
      simp only [Act.put, List.setIfInBounds_toArray, List.set_cons_zero, List.set_cons_succ]
      refine till_take 1 (v := ?_) rfl (by kernel_rfl) (by kernel_rfl) (by kernel_rfl) (by kernel_rfl) (fun _ _ _ h => h) hHeld (Or.inl ⟨by rfl, ?_⟩) ?_
      rotate_left
      · (intro w hSw; (try dsimp only at hSw); go_simp; try with_reducible rfl)
      simp only [Act.put, List.setIfInBounds_toArray, List.set_cons_zero, List.set_cons_succ]
      refine till_take 2 (v := ?_) rfl (by kernel_rfl) (by kernel_rfl) (by kernel_rfl) (by kernel_rfl) (fun _ _ _ h => h) hHeld (Or.inl ⟨by rfl, ?_⟩) ?_
      rotate_left
      · (intro w hSw; (try dsimp only at hSw); go_simp; try with_reducible rfl)
      simp only [Act.put, List.setIfInBounds_toArray, List.set_cons_zero, List.set_cons_succ]
      refine till_take 3 (v := ?_) rfl (by kernel_rfl) (by kernel_rfl) (by kernel_rfl) (by kernel_rfl) (fun _ _ _ h => h) hHeld (Or.inl ⟨by rfl, ?_⟩) ?_
      rotate_left
      · (intro w hSw; (try dsimp only at hSw); go_simp; try with_reducible rfl)
      simp only [Act.put, List.setIfInBounds_toArray, List.set_cons_zero, List.set_cons_succ]
      refine till_take 4 (v := ?_) rfl (by kernel_rfl) (by kernel_rfl) (by kernel_rfl) (by kernel_rfl) (fun _ _ _ h => h) hHeld (Or.inl ⟨by rfl, ?_⟩) ?_
      rotate_left
      · (intro w hSw; (try dsimp only at hSw); go_simp; try with_reducible rfl)
      simp only [Act.put, List.setIfInBounds_toArray, List.set_cons_zero, List.set_cons_succ]
      refine till_ready 5 rfl (by kernel_rfl) (fun K hK => ?_)
      go_simp; (go_at_call 32; with_reducible refine (QN.out _ S5.out).mono ?_; rintro e z1 ⟨q, rfl, q0, q1, T1⟩)
      refine hK.out _ _ (HX.out _ T1) (fun hHeld => ?_)
      clear hK K
      try simp only [Act.put, List.setIfInBounds_toArray, List.set_cons_zero, List.set_cons_succ]
      refine till_ready 6 rfl (by kernel_rfl) (fun K hK => ?_)
      go_simp; (go_at_call 146; with_reducible refine (QF.out _ _ q0 q1 T1).mono ?_; rintro e z2 ⟨b2, c2, rfl, T2, own2, ok2⟩)
      refine hK.out _ _ (HX.out _ T2) (fun hHeld => ?_)
      clear hK K
      try simp only [Act.put, List.setIfInBounds_toArray, List.set_cons_zero, List.set_cons_succ]
      refine till_take 7 (v := ?_) rfl (by kernel_rfl) (by kernel_rfl) (by kernel_rfl) (by kernel_rfl) (fun _ _ _ h => h) hHeld (Or.inl ⟨by rfl, ?_⟩) ?_
      rotate_left
      · (intro w hSw; (try dsimp only at hSw); go_simp; try with_reducible rfl)
      simp only [Act.put, List.setIfInBounds_toArray, List.set_cons_zero, List.set_cons_succ]
      refine till_last rfl (by kernel_rfl) (by kernel_rfl) (fun K hK => ?_)
      obtain ⟨d0, d1, d2⟩ := HX.out _ T2; have f0 := T2.box.fr 0; have f1 := T2.box.fr 1; have f2 := T2.box.fr 2; have T3 : Hid (smS4 w B p a len cap Z 3 (((z2.setCell ⟨Z, 0, none⟩ (.string k)).setCell ⟨Z, 1, none⟩ (.int .i64 r)).setCell ⟨Z, 2, none⟩ (.slice (some ⟨b2, 0, none⟩) (fgF k r fs q).length c2))) := ⟨k, r, _, _, T2.put3 own2, ok2⟩; clear T1 T2 own2 ok2; go_simp
      refine hK.out _ _ ?_
      clear hK K
      go_wp2_with fail
      go_meet
      exact ⟨rfl, T3⟩
  case rest =>
    obtain ⟨rfl, HC⟩ := hcut
    obtain ⟨w7, rfl⟩ : ∃ w7 : World, w7 = wc := ⟨_, rfl⟩
    clear S4 HRr
    obtain ⟨k, r, v, fs, S7, ok7⟩ := HC.out
    obtain ⟨bb, cc, rfl, hcc⟩ := ownF_one S7.own ok7.2.2.1.1
    have HS7 : Hid (SmS w B p a len cap Z k r (.slice (some ⟨bb, 0, none⟩) fs.length cc) fs w7) := S7
    have HOk : Hid (SmOk 3 k r fs) := ok7
    clear HC S7 ok7
    go_wp2_with fail
    refine (one_any B p a len cap 12 w7 HS7.out.src (by omega)).mono ?_
    rintro e y8 ⟨⟨bo, rfl⟩, hs8, hg8⟩
    have S8 : Hid (SmS w B p a len cap Z k r (.slice (some ⟨bb, 0, none⟩) fs.length cc) fs y8) := HS7.out.draw hs8 hg8
    clear HS7 hs8 hg8
    go_upto_if 19 with fail
    go_cut [3] from 20 to 46 (fun s3 wx => s3 = .pointer (some ⟨Z, 0, none⟩) ∧ Hid (smS4 w B p a len cap Z 4 wx))
    case first =>
      cases bo
      · have HF : Hid (smS4 w B p a len cap Z 4 y8) := ⟨k, r, _, fs, S8.out, HOk.out.more (by omega)⟩
        go_wp2_with fail
        go_meet
        exact ⟨rfl, HF⟩
      · go_wp2_with fail
        refine (n_any B p a len cap 4 y8 S8.out.src (by omega)).mono ?_
        rintro e y9 ⟨⟨q, rfl, q0, q1, -⟩, hs9, hg9⟩
        have q2 := q1 (by omega)
        have S9 : Hid (SmS w B p a len cap Z k r (.slice (some ⟨bb, 0, none⟩) fs.length cc) fs y9) := S8.out.draw hs9 hg9
        clear S8 hs9 hg9 q1
        have c2 : y9.cell? ⟨Z, 2, none⟩ = some (.slice (some ⟨bb, 0, none⟩) fs.length cc) := S9.out.box.cell 2
        by_cases e0 : q = 0
        · subst e0
          obtain ⟨f, gs, rfl⟩ : ∃ f gs, fs = f :: gs := by
            cases fs with
            | nil => exact absurd HOk.out.2.2.1.1 (by simp)
            | cons f gs => exact ⟨f, gs, rfl⟩
          have T : Hid (smS4 w B p a len cap Z 4 (y9.setCell ⟨bb, 2, none⟩ (.string ⟨#[116]⟩))) := ⟨k, r, _, _, S9.out.salt ⟨#[116]⟩, (by
            obtain ⟨o1, o2, o3, o4⟩ := HOk.out.more (show 3 ≤ 4 by omega)
            refine ⟨o1, o2, o3, fun h hh => ?_⟩
            rcases List.mem_cons.1 hh with rfl | hh
            · have := o4 f (by simp)
              exact ⟨this.1, this.2.1, (show (1 : Nat) ≤ 100 by omega), this.2.2.2⟩
            · exact o4 h (by simp [hh]))⟩
          have k2 : y9.cell? ⟨bb, 2, none⟩ = some (.string f.s) := by
            rw [S9.out.own.cellAt 2 (by simp <;> omega)]; rfl
          have g2 : y9.frozen? ⟨bb, 2, none⟩ = false := S9.out.own.frozenAt 2
          have l1 : (0 : Int) < (f :: gs).length := by simp
          clear S9 HOk
          go_wp2_with fail
          go_meet
          exact ⟨rfl, T⟩
        by_cases e1 : q = 1
        · subst e1
          go_wp2_with fail
          refine (l07Name_any B p a len cap y9 S9.out.src).mono ?_
          rintro e z1 ⟨⟨t, rfl, ht⟩, sz, gz⟩
          have S10 := S9.out.draw sz gz
          have T : Hid (smS4 w B p a len cap Z 4 (z1.setCell ⟨Z, 0, none⟩ (.string t))) := ⟨t, r, _, fs, S10.put1 0 (.string t) _ rfl rfl, ⟨by omega, (HOk.out.more (show 3 ≤ 4 by omega)).2⟩⟩
          have d0 : z1.cell? ⟨Z, 0, none⟩ = some (.string k) := S10.box.cell 0
          have f0 := S10.box.fr 0
          clear S9 S10 sz gz HOk
          go_wp2_with fail
          go_meet
          exact ⟨rfl, T⟩
        by_cases e2 : q = 2
        · subst e2
          go_wp2_with fail
          refine (edge_any B p a len cap y9 S9.out.src).mono ?_
          rintro e z1 ⟨⟨t, rfl, ht⟩, sz, gz⟩
          have S10 := S9.out.draw sz gz
          have T : Hid (smS4 w B p a len cap Z 4 (z1.setCell ⟨Z, 1, none⟩ (.int .i64 t))) := ⟨k, t, _, fs, S10.put1 1 (.int .i64 t) _ rfl rfl, ⟨HOk.out.1, ht, (HOk.out.more (show 3 ≤ 4 by omega)).2.2⟩⟩
          have d0 : z1.cell? ⟨Z, 1, none⟩ = some (.int .i64 r) := S10.box.cell 1
          have f0 := S10.box.fr 1
          clear S9 S10 sz gz HOk
          go_wp2_with fail
          go_meet
          exact ⟨rfl, T⟩
        · have b0 : (q == 0) = false := beq_eq_false_iff_ne.2 e0
          have b1 : (q == 1) = false := beq_eq_false_iff_ne.2 e1
          have b2 : (q == 2) = false := beq_eq_false_iff_ne.2 e2
          obtain ⟨f, gs, rfl⟩ : ∃ f gs, fs = f :: gs := by
            cases fs with
            | nil => exact absurd HOk.out.2.2.1.1 (by simp)
            | cons f gs => exact ⟨f, gs, rfl⟩
          have hln : (f :: gs).length ≤ 3 := HOk.out.2.2.1.2
          have BR : Hid (Below y9.heap.size y9 y9.drew) := (Below.refl _ _).drew
          have S10 : Hid (SmS w B p a len cap Z k r (.slice (some ⟨bb, 0, none⟩) (f :: gs).length cc) (f :: gs) y9.drew) := S9.out.below BR.out
          have HX : Hid (∀ x, SmS w B p a len cap Z k r (.slice (some ⟨bb, 0, none⟩) (f :: gs).length cc) (f :: gs) x → x.cell? ⟨Z, 2, none⟩ = some (.slice (some ⟨bb, 0, none⟩) (f :: gs).length cc) ∧ x.cell? ⟨bb, 0, none⟩ = some (.string f.n) ∧ x.cell? ⟨bb, 1, none⟩ = some (.string f.c) ∧ x.cell? ⟨bb, 2, none⟩ = some (.string f.s) ∧ x.cell? ⟨bb, 3, none⟩ = some (.string f.v) ∧ x.cell? ⟨bb, 4, none⟩ = some (.bool f.g)) := fun x hx => ⟨hx.box.cell 2, by rw [hx.own.cellAt 0 (by simp <;> omega)]; rfl, by rw [hx.own.cellAt 1 (by simp <;> omega)]; rfl, by rw [hx.own.cellAt 2 (by simp <;> omega)]; rfl, by rw [hx.own.cellAt 3 (by simp <;> omega)]; rfl, by rw [hx.own.cellAt 4 (by simp <;> omega)]; rfl⟩
          obtain ⟨g3, c3, y3, hrun, T3, d3, f3⟩ := S10.out.app f (by omega)
          have T : Hid (smS4 w B p a len cap Z 4 (y3.setCell ⟨Z, 2, none⟩ (.slice (some ⟨g3, 0, none⟩) ((f :: gs).length + 1) c3))) := ⟨k, r, _, _, T3, (by
            obtain ⟨o1, o2, o3, o4⟩ := HOk.out
            refine ⟨o1, o2, ⟨by simp, by rw [List.length_append]; simp; simp at o3; omega⟩, fun h hh => ?_⟩
            rcases List.mem_append.1 hh with hh | hh
            · exact o4 h hh
            · obtain rfl := List.mem_singleton.1 hh
              exact o4 _ (by simp))⟩
          have l1 : (0 : Int) < (f :: gs).length := by simp
          have l2 : 0 < (f :: gs).length := by simp
          have HBa : Hid (SmS w B p a len cap Z k r (.slice (some ⟨bb, 0, none⟩) (f :: gs).length cc) (f :: gs) (y9.drew.alloc (.cells #[.string f.n, .string f.c, .string f.s, .string f.v, .bool f.g] 122))) := S10.out.below ((Below.refl _ _).alloc (Nat.le_refl _) _)
          obtain ⟨-, k0, k1, k2, k3, k4⟩ := HX.out _ S9.out
          clear S9 T3 HOk c2
          generalize (f :: gs).length = N at *
          go_upto_region 6 with fail
          refine region_till (fun w' => w'.cell? ⟨Z, 2, none⟩ = some (.slice (some ⟨bb, 0, none⟩) N cc)) 9 (by kernel_rfl) (S10.out.box.cell 2) (fun hHeld => ?_)
          refine till_take 0 (v := ?_) rfl (by kernel_rfl) (by kernel_rfl) (by kernel_rfl) (by kernel_rfl) (fun _ _ _ h => h) hHeld (Or.inl ⟨by rfl, ?_⟩) ?_
          rotate_left
          · (intro w hSw; (try dsimp only at hSw); go_simp; try with_reducible rfl)
          simp only [Act.put, List.setIfInBounds_toArray, List.set_cons_zero, List.set_cons_succ]
          refine till_take 1 (v := ?_) rfl (by kernel_rfl) (by kernel_rfl) (by kernel_rfl) (by kernel_rfl) (fun _ _ _ h => h) hHeld (Or.inl ⟨by rfl, ?_⟩) ?_
          rotate_left
          · (intro w hSw; (try dsimp only at hSw); go_simp; try with_reducible rfl)
          simp only [Act.put, List.setIfInBounds_toArray, List.set_cons_zero, List.set_cons_succ]
          refine till_take 2 (v := ?_) rfl (by kernel_rfl) (by kernel_rfl) (by kernel_rfl) (by kernel_rfl) (fun _ _ _ h => h) hHeld (Or.inl ⟨by rfl, ?_⟩) ?_
          rotate_left
          · (intro w hSw; (try dsimp only at hSw); go_simp; try with_reducible rfl)
          simp only [Act.put, List.setIfInBounds_toArray, List.set_cons_zero, List.set_cons_succ]
          refine till_take 3 (v := ?_) rfl (by kernel_rfl) (by kernel_rfl) (by kernel_rfl) (by kernel_rfl) (fun _ _ _ h => h) hHeld (Or.inl ⟨by rfl, ?_⟩) ?_
          rotate_left
          · (intro w hSw; (try dsimp only at hSw); go_simp; try with_reducible rfl)
          simp only [Act.put, List.setIfInBounds_toArray, List.set_cons_zero, List.set_cons_succ]
          refine till_take 4 (v := ?_) rfl (by kernel_rfl) (by kernel_rfl) (by kernel_rfl) (by kernel_rfl) (fun _ _ _ h => h) hHeld (Or.inl ⟨by rfl, ?_⟩) ?_
          rotate_left
          · (intro w hSw; (try dsimp only at hSw); go_simp; try with_reducible rfl)
          simp only [Act.put, List.setIfInBounds_toArray, List.set_cons_zero, List.set_cons_succ]
          refine till_ready 5 rfl (by kernel_rfl) (fun K hK => ?_)
          go_simp
          refine hK.out _ _ (S10.out.box.cell 2) (fun hHeld => ?_)
          clear hK K
          try simp only [Act.put, List.setIfInBounds_toArray, List.set_cons_zero, List.set_cons_succ]
          refine till_ready 6 rfl (by kernel_rfl) (fun K hK => ?_)
          go_simp
          refine hK.out _ _ (HBa.out.box.cell 2) (fun hHeld => ?_)
          clear hK K
          try simp only [Act.put, List.setIfInBounds_toArray, List.set_cons_zero, List.set_cons_succ]
          refine till_ready 7 rfl (by kernel_rfl) (fun K hK => ?_)
          refine step_append_run rfl _ _ 98 rfl (.slice (some ⟨bb, 0, none⟩) N cc) (.slice (some ⟨y9.drew.heap.size, 0, none⟩) 1 1) _ _ rfl rfl hrun ?_
          refine hK.out _ _ (d3) (fun hHeld => ?_)
          clear hK K
          try simp only [Act.put, List.setIfInBounds_toArray, List.set_cons_zero, List.set_cons_succ]
          refine till_take 8 (v := ?_) rfl (by kernel_rfl) (by kernel_rfl) (by kernel_rfl) (by kernel_rfl) (fun _ _ _ h => h) hHeld (Or.inl ⟨by rfl, ?_⟩) ?_
          rotate_left
          · (intro w hSw; (try dsimp only at hSw); go_simp; try with_reducible rfl)
          simp only [Act.put, List.setIfInBounds_toArray, List.set_cons_zero, List.set_cons_succ]
          refine till_last rfl (by kernel_rfl) (by kernel_rfl) (fun K hK => ?_)
          go_simp
          refine hK.out _ _ ?_
          clear hK K
          go_wp2_with fail
          go_meet
          exact ⟨rfl, T⟩
    case rest =>
      obtain ⟨rfl, HC⟩ := hcut
      obtain ⟨w9, rfl⟩ : ∃ w9 : World, w9 = wc := ⟨_, rfl⟩
      clear S8 HOk
      obtain ⟨k, r, v, fs, S9, ok9⟩ := HC.out
      obtain ⟨bb, cc, rfl, hcc⟩ := ownF_one S9.own ok9.2.2.1.1
      have HD : Hid (∀ x0 x1 x2 : Value, _) := S9.done
      have HOk : Hid (SmOk 4 k r fs) := ok9
      obtain ⟨c0, c1, c2⟩ : w9.cell? ⟨Z, 0, none⟩ = some (.string k) ∧ w9.cell? ⟨Z, 1, none⟩ = some (.int .i64 r) ∧ w9.cell? ⟨Z, 2, none⟩ = some (.slice (some ⟨bb, 0, none⟩) fs.length cc) := ⟨S9.box.cell 0, S9.box.cell 1, S9.box.cell 2⟩
      obtain ⟨d0, d1, d2⟩ : w9.cell? ⟨w.heap.size, 0, none⟩ = some (.string ByteArray.empty) ∧ w9.cell? ⟨w.heap.size, 1, none⟩ = some (.int .i64 0) ∧ w9.cell? ⟨w.heap.size, 2, none⟩ = some (.slice none 0 0) := ⟨S9.res.cell 0, S9.res.cell 1, S9.res.cell 2⟩
      have f0 := S9.res.fr 0
      have f1 := S9.res.fr 1
      have f2 := S9.res.fr 2
      clear HC S9 ok9 hcc
      go_wp2_with fail
      refine bodyPost_ret (v := .agg #[.string k, .int .i64 r, .slice (some ⟨bb, 0, none⟩) fs.length cc]) (by simp [results, Tryz.results93, go_sem, d0, d1, d2]) rfl ?_
      obtain ⟨o1, o2, o3⟩ := HD.out (.string k) (.int .i64 r) (.slice (some ⟨bb, 0, none⟩) fs.length cc)
      exact ⟨⟨k, r, fs, _, rfl, o1, HOk.out⟩, o2, o3⟩
end Go.Proofs.YtonleickhincgaaGreatDoor
/-
  What l08Tomb, DrawTombText, DrawTombRead, DrawRowLeaf and DrawLeafKind draw.
  Conditions: the source is one ('Src'), or the code's bytes lie there.
-/
namespace Go.Proofs.YtonleickhincgaaGreatDoor
open Go.RowKit Go.Lib
set_option linter.unusedVariables false
set_option maxRecDepth 20000

/-- A source, a result's box, a Tomb's box. -/
structure TbS (w : World) (B p : Nat) (a : Option Addr) (len cap : Nat) (Z : Nat) (r f y t : Int) (x : World) : Prop where
  src : Src 126 B p a len cap x
  gr : w.grownBy x (some p)
  res : Bxs x w.heap.size 114 #[.int .i64 0, .int .i64 0, .int .i64 0, .int .i64 0]
  box : Bxs x Z 114 #[.int .i64 r, .int .i64 f, .int .i64 y, .int .i64 t]
  hp : p < w.heap.size
  hZ : w.heap.size + 1 ≤ Z
section
variable {w : World} {B p : Nat} {a : Option Addr} {len cap Z : Nat} {r f y t r' f' y' t' : Int} {x z : World}
theorem TbS.draw (h : TbS w B p a len cap Z r f y t x) (hs : Src 126 B p a len cap z) (g : x.grownBy z (some p)) : TbS w B p a len cap Z r f y t z := by
  have hp := h.hp
  have hZ := h.hZ
  exact ⟨hs, touch_trans h.gr g, h.res.grown g (fun e => by cases e; omega), h.box.grown g (fun e => by cases e; omega), hp, hZ⟩
theorem TbS.below (h : TbS w B p a len cap Z r f y t x) (b : Below x.heap.size x z) : TbS w B p a len cap Z r f y t z :=
  ⟨h.src.below b, touch_below h.gr b, h.res.below b, h.box.below b, h.hp, h.hZ⟩
theorem TbS.put (h : TbS w B p a len cap Z r f y t x) (i : Nat) (u : Value) (hc : (#[.int .i64 r, .int .i64 f, .int .i64 y, .int .i64 t] : Array Value).setIfInBounds i u = #[.int .i64 r', .int .i64 f', .int .i64 y', .int .i64 t']) : TbS w B p a len cap Z r' f' y' t' (x.setCell ⟨Z, i, none⟩ u) := by
  have hp := h.hp
  have hZ := h.hZ
  have hr : ∀ j, some Z = some j → p < j := fun j hj => by cases hj; omega
  have hr2 : ∀ j, some Z = some j → w.heap.size ≤ j := fun j hj => by cases hj; omega
  refine ⟨h.src.other (set_grown x Z i u) hr, touch_own h.gr (set_grown x Z i u) hr2, h.res.other Z i (by omega) _, ?_, hp, hZ⟩
  have := h.box.set i u
  rw [hc] at this
  exact this
theorem TbS.done (h : TbS w B p a len cap Z r f y t x) (x0 x1 x2 x3 : Value) : Src 126 B p a len cap ((((x.setCell ⟨w.heap.size, 0, none⟩ x0).setCell ⟨w.heap.size, 1, none⟩ x1).setCell ⟨w.heap.size, 2, none⟩ x2).setCell ⟨w.heap.size, 3, none⟩ x3) ∧ w.grownBy ((((x.setCell ⟨w.heap.size, 0, none⟩ x0).setCell ⟨w.heap.size, 1, none⟩ x1).setCell ⟨w.heap.size, 2, none⟩ x2).setCell ⟨w.heap.size, 3, none⟩ x3) (some p) := by
  have hp := h.hp
  have hr : ∀ j, some w.heap.size = some j → p < j := fun j hj => by cases hj; omega
  have hr2 : ∀ j, some w.heap.size = some j → w.heap.size ≤ j := fun j hj => by cases hj; omega
  exact ⟨(((h.src.other (set_grown _ _ 0 _) hr).other (set_grown _ _ 1 _) hr).other (set_grown _ _ 2 _) hr).other (set_grown _ _ 3 _) hr, touch_own (touch_own (touch_own (touch_own h.gr (set_grown _ _ 0 _) hr2) (set_grown _ _ 1 _) hr2) (set_grown _ _ 2 _) hr2) (set_grown _ _ 3 _) hr2⟩
end
def tbS4 (w : World) (B p : Nat) (a : Option Addr) (len cap : Nat) (Z : Nat) (x : World) : Prop := ∃ r f y t : Int, TbS w B p a len cap Z r f y t x
theorem ints_at {c : Array Value} {n : Nat} (h : ∀ k : Nat, k < n → ∃ v : Int, c[k]? = some (.int .i64 v)) {w x : World} {p : Nat} (hx : (w.alloc (.cells c 2)).grownBy x (some p)) (hp : p < w.heap.size) (k : Nat) (hk : k < n) : ∃ v : Int, x.cell? ⟨w.heap.size, k, none⟩ = some (.int .i64 v) := by
  obtain ⟨v, hv⟩ := h k hk
  have b : Bxs (w.alloc (.cells c 2)) w.heap.size 2 c := Bxs.new _ _ _
  have := (b.grown hx (fun e => by cases e; omega)).cell k
  exact ⟨v, this.trans hv⟩
theorem three_at : ∀ k : Nat, k < 3 → ∃ v : Int, (#[.int .i64 (-1), .int .i64 63, .int .i64 64] : Array Value)[k]? = some (.int .i64 v)
  | 0, _ => ⟨_, rfl⟩
  | 1, _ => ⟨_, rfl⟩
  | 2, _ => ⟨_, rfl⟩
  | k + 3, h => by omega
theorem two_at (u v : Int) : ∀ k : Nat, k < 2 → ∃ z : Int, (#[.int .i64 u, .int .i64 v] : Array Value)[k]? = some (.int .i64 z)
  | 0, _ => ⟨_, rfl⟩
  | 1, _ => ⟨_, rfl⟩
  | k + 2, h => by omega
set_option maxHeartbeats 8000000 in
theorem l08Tomb_any (B p : Nat) (a : Option Addr) (len cap : Nat) (w : World) (hs : Src 126 B p a len cap w) :
    Calls Tryz.prog 92 #[.pointer (some ⟨p, 0, none⟩)] w fun e w' =>
      (∃ r f y t : Int, e = .returned (.agg #[.int .i64 r, .int .i64 f, .int .i64 y, .int .i64 t])) ∧ Src 126 B p a len cap w' ∧ w.grownBy w' (some p) := by
  have hp := hs.lt
  obtain ⟨W1, hW1⟩ : ∃ W1, W1 = w.alloc (.cells #[.int .i64 0, .int .i64 0, .int .i64 0, .int .i64 0] 114) := ⟨_, rfl⟩
  have HW : Hid (W1 = w.alloc (.cells #[.int .i64 0, .int .i64 0, .int .i64 0, .int .i64 0] 114)) := hW1
  have b1 : Below w.heap.size w W1 := by rw [hW1]; exact (Below.refl _ _).alloc (Nat.le_refl _) _
  have R1 : Hid (Bxs W1 w.heap.size 114 #[.int .i64 0, .int .i64 0, .int .i64 0, .int .i64 0]) := by rw [hW1]; exact Bxs.new _ _ _
  have S1 : Hid (Src 126 B p a len cap W1) := hs.below b1
  have G1 : Hid (w.grownBy W1 (some p)) := grown_below b1
  have HZ1 : Hid (W1.heap.size = w.heap.size + 1) := by rw [hW1]; exact szA _ _
  clear hW1 b1 hs
  go_enter Tryz.func92, Tryz.ntmps92
  go_wp2_with fail
  rw [← HW.out]
  clear HW
  refine (n_any B p a len cap 6 W1 S1.out (by omega)).mono ?_
  rintro e y1 ⟨⟨n1, rfl, -⟩, s1, g1⟩
  go_wp2_with fail
  refine (n_any B p a len cap 3 y1 s1 (by omega)).mono ?_
  rintro e y2 ⟨⟨n2, rfl, -⟩, s2, g2⟩
  go_wp2_with fail
  refine (n_any B p a len cap 2 y2 s2 (by omega)).mono ?_
  rintro e y3 ⟨⟨n3, rfl, n30, n31, -⟩, s3, g3⟩
  have n32 := n31 (by omega)
  have hw3 : IntKind.i64.wrap (1 + n3) = 1 + n3 := by rw [IntKind.wrap_i64]; omega
  go_wp2_with fail
  refine (n_any B p a len cap 90 y3 s3 (by omega)).mono ?_
  rintro e y4 ⟨⟨n4, rfl, -⟩, s4, g4⟩
  go_upto_region 2 with fail
  obtain ⟨y5, hy5⟩ : ∃ y5, y5 = y4.alloc (.cells #[.int .i64 n1, .int .i64 n2, .int .i64 (1 + n3), .int .i64 n4] 114) := ⟨_, rfl⟩
  rw [← hy5]
  obtain ⟨Z, hZ⟩ : ∃ Z, Z = y4.heap.size := ⟨_, rfl⟩
  rw [← hZ]
  have S5 : Hid (TbS w B p a len cap Z n1 n2 (1 + n3) n4 y5) := by
    have gg := touch_trans (touch_trans (touch_trans (touch_trans G1.out g1) g2) g3) g4
    have e4 := HZ1.out
    have e5 := g1.size
    have e6 := g2.size
    have e7 := g3.size
    have e8 := g4.size
    have ba : Below y4.heap.size y4 y5 := by rw [hy5]; exact (Below.refl _ _).alloc (Nat.le_refl _) _
    have ne : some w.heap.size ≠ some p := fun e => by cases e; omega
    exact ⟨s4.below ba, touch_below gg ba, ((((R1.out.grown g1 ne).grown g2 ne).grown g3 ne).grown g4 ne).below ba, by rw [hy5, hZ]; exact Bxs.new _ _ _, hp, by omega⟩
  clear hy5 hZ s1 s2 s3 s4 g1 g2 g3 g4 R1 S1 G1 HZ1 n30 n31 n32 hw3
  go_wp2_with fail
  refine (one_any B p a len cap 10 y5 S5.out.src (by omega)).mono ?_
  rintro e y6 ⟨⟨bo, rfl⟩, hs6, hg6⟩
  have S6 : Hid (TbS w B p a len cap Z n1 n2 (1 + n3) n4 y6) := S5.out.draw hs6 hg6
  clear S5 hs6 hg6
  generalize 1 + n3 = n5 at *
  go_upto_if 15 with fail
  go_cut [3] from 16 to 44 (fun s3 wx => s3 = .pointer (some ⟨Z, 0, none⟩) ∧ Hid (tbS4 w B p a len cap Z wx))
  case first =>
    cases bo
    · have HF : Hid (tbS4 w B p a len cap Z y6) := ⟨_, _, _, _, S6.out⟩
      go_wp2_with fail
      go_meet
      exact ⟨rfl, HF⟩
    · go_wp2_with fail
      refine (n_any B p a len cap 4 y6 S6.out.src (by omega)).mono ?_
      rintro e y7 ⟨⟨q, rfl, q0, q1, -⟩, hs7, hg7⟩
      have q2 := q1 (by omega)
      have S7 : Hid (TbS w B p a len cap Z n1 n2 n5 n4 y7) := S6.out.draw hs7 hg7
      have hp7 : p < y7.heap.size := hs7.lt
      clear S6 hs7 hg7 q1
      by_cases e0 : q = 0
      · subst e0
        obtain ⟨u, hu⟩ : ∃ u, u = y7.alloc (.cells #[.int .i64 (-1), .int .i64 63, .int .i64 64] 2) := ⟨_, rfl⟩
        have HU : Hid (u = y7.alloc (.cells #[.int .i64 (-1), .int .i64 63, .int .i64 64] 2)) := hu
        have S8 : Hid (TbS w B p a len cap Z n1 n2 n5 n4 u) := by rw [hu]; exact S7.out.below ((Below.refl _ _).alloc (Nat.le_refl _) _)
        clear hu
        go_wp2_with fail
        rw [← HU.out]
        refine (n_any B p a len cap 3 u S8.out.src (by omega)).mono ?_
        rintro e z1 ⟨⟨m, rfl, m0, m1, -⟩, sz, gz⟩
        have m2 := m1 (by omega)
        obtain ⟨M, rfl⟩ := Int.eq_ofNat_of_zero_le m0
        obtain ⟨v, hv⟩ := ints_at three_at (by rw [← HU.out]; exact gz) hp7 M (by omega)
        have S9 := S8.out.draw sz gz
        have T : Hid (tbS4 w B p a len cap Z (z1.setCell ⟨Z, 0, none⟩ (.int .i64 v))) := ⟨v, n2, n5, n4, S9.put 0 (.int .i64 v) rfl⟩
        have d0 : z1.cell? ⟨Z, 0, none⟩ = some (.int .i64 n1) := S9.box.cell 0
        have f0 := S9.box.fr 0
        clear S9 sz gz HU S8 m1
        go_wp2_with fail
        go_meet
        exact ⟨rfl, T⟩
      by_cases e1 : q = 1
      · subst e1
        obtain ⟨u, hu⟩ : ∃ u, u = y7.alloc (.cells #[.int .i64 (-1), .int .i64 3] 2) := ⟨_, rfl⟩
        have HU : Hid (u = y7.alloc (.cells #[.int .i64 (-1), .int .i64 3] 2)) := hu
        have S8 : Hid (TbS w B p a len cap Z n1 n2 n5 n4 u) := by rw [hu]; exact S7.out.below ((Below.refl _ _).alloc (Nat.le_refl _) _)
        clear hu
        go_wp2_with fail
        rw [← HU.out]
        refine (n_any B p a len cap 2 u S8.out.src (by omega)).mono ?_
        rintro e z1 ⟨⟨m, rfl, m0, m1, -⟩, sz, gz⟩
        have m2 := m1 (by omega)
        obtain ⟨M, rfl⟩ := Int.eq_ofNat_of_zero_le m0
        obtain ⟨v, hv⟩ := ints_at (two_at (-1) 3) (by rw [← HU.out]; exact gz) hp7 M (by omega)
        have S9 := S8.out.draw sz gz
        have T : Hid (tbS4 w B p a len cap Z (z1.setCell ⟨Z, 1, none⟩ (.int .i64 v))) := ⟨n1, v, n5, n4, S9.put 1 (.int .i64 v) rfl⟩
        have d0 : z1.cell? ⟨Z, 1, none⟩ = some (.int .i64 n2) := S9.box.cell 1
        have f0 := S9.box.fr 1
        clear S9 sz gz HU S8 m1
        go_wp2_with fail
        go_meet
        exact ⟨rfl, T⟩
      by_cases e2 : q = 2
      · subst e2
        obtain ⟨u, hu⟩ : ∃ u, u = y7.alloc (.cells #[.int .i64 0, .int .i64 3] 2) := ⟨_, rfl⟩
        have HU : Hid (u = y7.alloc (.cells #[.int .i64 0, .int .i64 3] 2)) := hu
        have S8 : Hid (TbS w B p a len cap Z n1 n2 n5 n4 u) := by rw [hu]; exact S7.out.below ((Below.refl _ _).alloc (Nat.le_refl _) _)
        clear hu
        go_wp2_with fail
        rw [← HU.out]
        refine (n_any B p a len cap 2 u S8.out.src (by omega)).mono ?_
        rintro e z1 ⟨⟨m, rfl, m0, m1, -⟩, sz, gz⟩
        have m2 := m1 (by omega)
        obtain ⟨M, rfl⟩ := Int.eq_ofNat_of_zero_le m0
        obtain ⟨v, hv⟩ := ints_at (two_at 0 3) (by rw [← HU.out]; exact gz) hp7 M (by omega)
        have S9 := S8.out.draw sz gz
        have T : Hid (tbS4 w B p a len cap Z (z1.setCell ⟨Z, 2, none⟩ (.int .i64 v))) := ⟨n1, n2, v, n4, S9.put 2 (.int .i64 v) rfl⟩
        have d0 : z1.cell? ⟨Z, 2, none⟩ = some (.int .i64 n5) := S9.box.cell 2
        have f0 := S9.box.fr 2
        clear S9 sz gz HU S8 m1
        go_wp2_with fail
        go_meet
        exact ⟨rfl, T⟩
      · have b0 : (q == 0) = false := beq_eq_false_iff_ne.2 e0
        have b1 : (q == 1) = false := beq_eq_false_iff_ne.2 e1
        have b2 : (q == 2) = false := beq_eq_false_iff_ne.2 e2
        go_wp2_with fail
        refine (edge_any B p a len cap y7 S7.out.src).mono ?_
        rintro e z1 ⟨⟨v, rfl, -⟩, sz, gz⟩
        have S9 := S7.out.draw sz gz
        have T : Hid (tbS4 w B p a len cap Z (z1.setCell ⟨Z, 3, none⟩ (.int .i64 v))) := ⟨n1, n2, n5, v, S9.put 3 (.int .i64 v) rfl⟩
        have d0 : z1.cell? ⟨Z, 3, none⟩ = some (.int .i64 n4) := S9.box.cell 3
        have f0 := S9.box.fr 3
        clear S9 sz gz S7
        go_wp2_with fail
        go_meet
        exact ⟨rfl, T⟩
  case rest =>
    obtain ⟨rfl, HC⟩ := hcut
    obtain ⟨w9, rfl⟩ : ∃ w9 : World, w9 = wc := ⟨_, rfl⟩
    clear S6
    obtain ⟨r, f, y, t, S9⟩ := HC.out
    have HD : Hid (∀ x0 x1 x2 x3 : Value, _) := S9.done
    obtain ⟨c0, c1, c2, c3⟩ := S9.box.four
    obtain ⟨d0, d1, d2, d3⟩ := S9.res.four
    have f0 := S9.res.fr 0
    have f1 := S9.res.fr 1
    have f2 := S9.res.fr 2
    have f3 := S9.res.fr 3
    clear HC S9
    go_wp2_with fail
    refine bodyPost_ret (v := .agg #[.int .i64 r, .int .i64 f, .int .i64 y, .int .i64 t]) (by simp [results, Tryz.results92, go_sem, d0, d1, d2, d3]) rfl ?_
    exact ⟨⟨r, f, y, t, rfl⟩, HD.out _ _ _ _⟩
theorem lfB_size (k : ByteArray) (at_ : Int) (fs : List Fld) : (lfB k at_ fs).size ≤ 33 := by
  unfold lfB; split
  · rw [ByteArray.size_append, digB_size]; exact Nat.le_refl _
  · show 0 ≤ 33; omega
end Go.Proofs.YtonleickhincgaaGreatDoor
