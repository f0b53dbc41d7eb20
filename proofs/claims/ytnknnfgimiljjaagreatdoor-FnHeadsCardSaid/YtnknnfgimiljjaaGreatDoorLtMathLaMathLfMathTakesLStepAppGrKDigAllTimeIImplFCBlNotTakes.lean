/-
  Parts of one proof, laid as one text: LtMath, LaMath, LfMath, TakesL, StepApp, GrK, DigAll, TimeI, ImplFC, BlNot, Takes; what each says stands at its head.
-/
import Derived.Test.YtnknnfgimiljjaaGreatDoorRows
import Derived.Test.YtnknnfgimiljjaaGreatDoorBytesDigMath
import Derived.Test.YtnknnfgimiljjaaGreatDoorTreeMathSlABxKSlBOwnSJoinedOwnB
import Derived.Test.YtnknnfgimiljjaaGreatDoorTimeBPutMathPutNumPutTextFldMathFldRiseScanMath
import Derived.Test.YtnknnfgimiljjaaGreatDoorGetValGetTxtNumMathFldRdNumFromTmbMathLgMath
import Derived.Test.YtnknnfgimiljjaaGreatDoorLgAtKLgAnsLgRtShwKOneKFldGFldBlkRwBlkRowOpsLgO
import Derived.Handy
import Derived.OwnWalk
import Derived.WalkSpells
import Derived.Deep.Cut
import Derived.Deep.RegionHeld3
import Derived.Deep.AppendLies
import Derived.Deep.RegionLaw
import Derived.Test.YtnknnfgimiljjaaGreatDoorPadIDigITurn2
import Derived.Test.YtnknnfgimiljjaaGreatDoorNameRight
import Derived.Laws.StructEq
import Derived.Deep.RegionWith
/-
  A LogOut in new memory; what LogTime answers (plain).
-/
namespace Go.Proofs.YtnknnfgimiljjaaGreatDoor
open Go.RowKit Go.Lib
set_option linter.unusedVariables false
set_option maxRecDepth 20000

/-- A LogOut of its own memory. -/
def LgA (base : Nat) (rs : List Rw) (lv : List ByteArray) (now C : Int) (e : Ending) (w : World) : Prop := ∃ v1 v2 xs, e = .returned (.agg #[v1, v2, .int .i64 now, .int .i64 C]) ∧ xs.map (·.1) = rs ∧ LgO base xs lv v1 v2 w
theorem LgA.ill (base : Nat) (C : Int) (w : World) : LgA base [] [] 0 C (.returned (.agg #[.slice none 0 0, .slice none 0 0, .int .i64 0, .int .i64 C])) w := ⟨_, _, [], rfl, rfl, LgO.nil _ _⟩
def mxB (a b : Int) : Int := if a < b then b else a
def ltB (rs : List Rw) (lv : List ByteArray) (now t : Int) : Bool := lgB rs lv now && timeB t
def ltC (rs : List Rw) (lv : List ByteArray) (now t : Int) : Int := if ltB rs lv now t = true then 0 else 1
def ltmR (rs : List Rw) (lv : List ByteArray) (now t : Int) : List Rw := if ltB rs lv now t = true then rs else []
def ltL (rs : List Rw) (lv : List ByteArray) (now t : Int) : List ByteArray := if ltB rs lv now t = true then lv else []
def ltN (rs : List Rw) (lv : List ByteArray) (now t : Int) : Int := if ltB rs lv now t = true then mxB now t else 0
/-- The log's box and the answer's, as LogTime begins. -/
structure LtB (w : World) (q : Option Addr) (n cq : Nat) (p : Option Addr) (m cp : Nat) (now : Int) (x : World) : Prop where
  lg : Bxs x w.heap.size 26 #[.slice q n cq, .slice p m cp, .int .i64 now]
  rs : Bxs x (w.heap.size + 1) 45 #[.slice none 0 0, .slice none 0 0, .int .i64 0, .int .i64 0]
  bel : Below w.heap.size w x
theorem LtB.below {w x y : World} {q : Option Addr} {n cq : Nat} {p : Option Addr} {m cp : Nat} {now : Int} (h : LtB w q n cq p m cp now x) (hb : Below x.heap.size x y) : LtB w q n cq p m cp now y := ⟨h.lg.below hb, h.rs.below hb, chainB h.bel hb⟩
theorem LtB.thr {w x : World} {q : Option Addr} {n cq : Nat} {p : Option Addr} {m cp : Nat} {now : Int} (h : LtB w q n cq p m cp now x) : x.cell? ⟨w.heap.size, 0, none⟩ = some (.slice q n cq) ∧ x.cell? ⟨w.heap.size, 1, none⟩ = some (.slice p m cp) ∧ x.cell? ⟨w.heap.size, 2, none⟩ = some (.int .i64 now) := ⟨h.lg.cell 0, h.lg.cell 1, h.lg.cell 2⟩
theorem LtB.res {w x : World} {q : Option Addr} {n cq : Nat} {p : Option Addr} {m cp : Nat} {now : Int} (h : LtB w q n cq p m cp now x) : x.cell? ⟨w.heap.size + 1, 0, none⟩ = some (.slice none 0 0) ∧ x.cell? ⟨w.heap.size + 1, 1, none⟩ = some (.slice none 0 0) ∧ x.cell? ⟨w.heap.size + 1, 2, none⟩ = some (.int .i64 0) ∧ x.cell? ⟨w.heap.size + 1, 3, none⟩ = some (.int .i64 0) ∧ x.frozen? ⟨w.heap.size + 1, 0, none⟩ = false ∧ x.frozen? ⟨w.heap.size + 1, 1, none⟩ = false ∧ x.frozen? ⟨w.heap.size + 1, 2, none⟩ = false ∧ x.frozen? ⟨w.heap.size + 1, 3, none⟩ = false := ⟨h.rs.cell 0, h.rs.cell 1, h.rs.cell 2, h.rs.cell 3, h.rs.fr 0, h.rs.fr 1, h.rs.fr 2, h.rs.fr 3⟩
/-- The answer is written into its box: what a log of its own is stays one. -/
theorem LtB.put {w x y : World} {base : Nat} {q : Option Addr} {n cq : Nat} {p : Option Addr} {m cp : Nat} {now : Int} (h : Bxs x (w.heap.size + 1) 45 #[.slice none 0 0, .slice none 0 0, .int .i64 0, .int .i64 0]) (hb : Below w.heap.size w x) {xs : List (Rw × Value)} {lv : List ByteArray} {v1 v2 : Value} (o : LgO base xs lv v1 v2 x) (u0 u1 u2 u3 : Value) :
    Bxs ((((x.setCell ⟨w.heap.size + 1, 0, none⟩ u0).setCell ⟨w.heap.size + 1, 1, none⟩ u1).setCell ⟨w.heap.size + 1, 2, none⟩ u2).setCell ⟨w.heap.size + 1, 3, none⟩ u3) (w.heap.size + 1) 45 #[u0, u1, u2, u3] ∧ LgO base xs lv v1 v2 ((((x.setCell ⟨w.heap.size + 1, 0, none⟩ u0).setCell ⟨w.heap.size + 1, 1, none⟩ u1).setCell ⟨w.heap.size + 1, 2, none⟩ u2).setCell ⟨w.heap.size + 1, 3, none⟩ u3) ∧ Below w.heap.size w ((((x.setCell ⟨w.heap.size + 1, 0, none⟩ u0).setCell ⟨w.heap.size + 1, 1, none⟩ u1).setCell ⟨w.heap.size + 1, 2, none⟩ u2).setCell ⟨w.heap.size + 1, 3, none⟩ u3) :=
  ⟨(((h.set 0 _).set 1 _).set 2 _).set 3 _, (((o.box h (by decide) (by decide) (by decide) (set_grw x _ 0 u0)).box (h.set 0 u0) (by decide) (by decide) (by decide) (set_grw _ _ 1 u1)).box ((h.set 0 u0).set 1 u1) (by decide) (by decide) (by decide) (set_grw _ _ 2 u2)).box (((h.set 0 u0).set 1 u1).set 2 u2) (by decide) (by decide) (by decide) (set_grw _ _ 3 u3), below_set4 hb (by omega) _ _ _ _⟩
theorem lt_boxes (w : World) (q : Option Addr) (n cq : Nat) (p : Option Addr) (m cp : Nat) (now : Int) {W2 : World} (h : W2 = (w.alloc (.cells #[.slice q n cq, .slice p m cp, .int .i64 now] 26)).alloc (.cells #[.slice none 0 0, .slice none 0 0, .int .i64 0, .int .i64 0] 45)) : LtB w q n cq p m cp now W2 := by
  subst h
  have h := Bxs.new (w.alloc (.cells #[.slice q n cq, .slice p m cp, .int .i64 now] 26)) 45 #[.slice none 0 0, .slice none 0 0, .int .i64 0, .int .i64 0]
  rw [szA] at h
  exact ⟨(Bxs.new _ _ _).alloc _, h, alB ((Below.refl _ _).alloc (Nat.le_refl _) _) _⟩
end Go.Proofs.YtnknnfgimiljjaaGreatDoor
/-
  What LogAdd answers (plain); a leaf more in a log of its own; is a row fresh.
-/
namespace Go.Proofs.YtnknnfgimiljjaaGreatDoor
open Go.RowKit Go.Lib
set_option linter.unusedVariables false
set_option maxRecDepth 20000

/-- Nothing of it is gone. -/
def frsB (fs : List Fld) : Bool := fs.all fun f => !f.g
theorem frs_true {fs : List Fld} (h : ∀ j (h : j < fs.length), fs[j].g = false) : frsB fs = true := by
  unfold frsB
  rw [List.all_eq_true]
  intro x hx
  obtain ⟨j, hj, rfl⟩ := List.getElem_of_mem hx
  rw [h j hj]; rfl
theorem frs_false {fs : List Fld} {k : Nat} (hk : k < fs.length) (h : fs[k].g = true) : frsB fs = false := by
  unfold frsB
  rw [List.all_eq_false]
  exact ⟨_, List.getElem_mem hk, by rw [h]; simp⟩
def laK (rs : List Rw) (lv : List ByteArray) (now : Int) (r : Rw) : Bool := lgB rs lv now && (rwB r.k r.a r.fs && (frsB r.fs && (r.a == now)))
def laC (rs : List Rw) (lv : List ByteArray) (now : Int) (r : Rw) : Int := if laK rs lv now r = true then (if rs.length = 6 then 9 else 0) else 1
def laR (rs : List Rw) (lv : List ByteArray) (now : Int) (r : Rw) : List Rw := if laC rs lv now r = 0 then rs ++ [r] else []
def laL (rs : List Rw) (lv : List ByteArray) (now : Int) (r : Rw) : List ByteArray := if laC rs lv now r = 0 then lv ++ [lfB r.k r.a r.fs] else []
def laN (rs : List Rw) (lv : List ByteArray) (now : Int) (r : Rw) : Int := if laC rs lv now r = 0 then now else 0
theorem la_bad {rs : List Rw} {lv : List ByteArray} {now : Int} {r : Rw} {C : Int} (h : laC rs lv now r = C) (hC : C ≠ 0) : laR rs lv now r = [] ∧ laL rs lv now r = [] ∧ laN rs lv now r = 0 := by
  unfold laR laL laN
  rw [h]
  exact ⟨if_neg hC, if_neg hC, if_neg hC⟩
theorem la_good {rs : List Rw} {lv : List ByteArray} {now : Int} {r : Rw} (h : laC rs lv now r = 0) : laR rs lv now r = rs ++ [r] ∧ laL rs lv now r = lv ++ [lfB r.k r.a r.fs] ∧ laN rs lv now r = now := by
  unfold laR laL laN
  rw [h]
  exact ⟨if_pos rfl, if_pos rfl, if_pos rfl⟩
/-- One more leaf. -/
theorem LgC.leaf {W : World} {E : Nat} {xs : List (Rw × Value)} {lv : List ByteArray} {now : Int} {v1 v2 : Value} {x : World} (h : LgC W E xs lv now v1 v2 x) (t : ByteArray) (hl : lv.length + 1 ≤ 1048576) :
    ∃ g c y, (Builtin.append_ #[24, 24] 24 #[v2, .slice (some ⟨x.heap.size, 0, none⟩) 1 1]).run Tryz.prog (x.alloc (.cells #[.string t] 9)) = .ok (.slice (some ⟨g, 0, none⟩) (lv.length + 1) c) y ∧ LgC W E xs (lv ++ [t]) now v1 (.slice (some ⟨g, 0, none⟩) (lv.length + 1) c) (y.setCell ⟨E, 1, none⟩ (.slice (some ⟨g, 0, none⟩) (lv.length + 1) c)) ∧ Below W.heap.size W y ∧ y.cell? ⟨E, 1, none⟩ = some v2 ∧ y.frozen? ⟨E, 1, none⟩ = false ∧ (x.alloc (.cells #[.string t] 9)).grownBy y v2.ownBlock := by
  have hal := (Below.refl x.heap.size x).alloc (Nat.le_refl _) (.cells #[.string t] 9)
  have H := h.below hal
  obtain ⟨g, c, y, h1, h2, h3, h4⟩ := app_str x W.heap.size v2 lv h.lg.lvs t hl h.bel.size
  have kb : Bxs y E 26 #[v1, v2, .int .i64 now] := H.box.grown h3 (fun e => own_box H.lg.lvs H.box (by decide) e.symm)
  have hr : RwsO W.heap.size xs v1 y := H.lg.rws.kept h3 (own_apart H.lg.rws.own H.lg.lvs (by decide)) (fun z hz => own_apart (H.lg.rws.fld z hz) H.lg.lvs (by decide))
  have hby : Below W.heap.size W y := H.bel.grown h3 H.bel.size (fun j hj => (H.lg.lvs.lt j hj).1)
  have ho : LgO W.heap.size xs (lv ++ [t]) v1 (.slice (some ⟨g, 0, none⟩) (lv.length + 1) c) y := ⟨hr, by simpa using h2⟩
  exact ⟨g, c, y, h1, ⟨kb.set 1 _, ho.box kb (by decide) (by decide) (by decide) (set_grw y E 1 _), h.eb, below_cel hby h.eb 1 _⟩, hby, kb.cell 1, kb.fr 1, h3⟩
set_option maxHeartbeats 1000000 in
theorem l09Fresh_any (k : ByteArray) (a : Int) (q : Option Addr) (c : Nat) (fs : List Fld) (w : World) (hf : FldAt w q fs) (hn : fs.length ≤ 1048576) (hc : fs.length ≤ c) :
    Calls Tryz.prog 102 #[.agg #[.string k, .int .i64 a, .slice q fs.length c]] w fun e w' => e = .returned (.bool (frsB fs)) ∧ Below w.heap.size w w' := by
  obtain ⟨W1, hW1⟩ : ∃ W1, W1 = w.alloc (.cells #[.string k, .int .i64 a, .slice q fs.length c] 70) := ⟨_, rfl⟩
  have HW1 : Hid (W1 = w.alloc (.cells #[.string k, .int .i64 a, .slice q fs.length c] 70)) := hW1
  have B1 : Hid (Below w.heap.size w W1) := by rw [hW1]; exact (Below.refl _ _).alloc (Nat.le_refl _) _
  have K1 : Bxs W1 w.heap.size 70 #[.string k, .int .i64 a, .slice q fs.length c] := by rw [hW1]; exact Bxs.new _ _ _
  have t2 : W1.cell? ⟨w.heap.size, 2, none⟩ = some (.slice q fs.length c) := K1.cell 2
  have HF : Hid (FldAt W1 q fs) := hf.below B1.out
  clear hW1 K1 hf
  go_enter Tryz.func102, Tryz.ntmps102
  go_upto_region 1 with fail
  rw [← HW1.out]
  go_wp2_with fail
  go_loop [3] (fun i => ∃ k : Nat, k ≤ fs.length ∧ i = .int .i64 k ∧ Hid (∀ j (h : j < fs.length), j < k → fs[j].g = false)) (fun i => fs.length - (Go.RowKit.intOf i).toNat)
  case atStart => exact ⟨0, Nat.zero_le _, rfl, fun j h hk => by omega⟩
  case round =>
    obtain ⟨k, hk, rfl, HK⟩ := hrel
    by_cases hlt : k < fs.length
    · have i1 : (k : Int) < fs.length := by omega
      obtain ⟨b, off, rfl, hb, c0, c1, c2, c3, c4⟩ := HF.out k hlt
      cases hg : fs[k].g with
      | true =>
        have HR : Hid (frsB fs = false) := frs_false hlt hg
        rw [hg] at c4
        go_wp2_with fail
        go_ret
        exact ⟨ret_bool (by rw [HR.out]), B1.out⟩
      | false =>
        rw [hg] at c4
        have HK2 : Hid (∀ j (h : j < fs.length), j < k + 1 → fs[j].g = false) := fun j h hj => if he : j = k then by subst he; exact hg else HK.out j h (by omega)
        clear hg
        go_wp2_with fail
        go_round
        case rel => exact ⟨k + 1, by omega, by go_num, HK2⟩
        case measure => simp [Go.RowKit.intOf]; omega
    · obtain rfl : k = fs.length := by omega
      have HR : Hid (frsB fs = true) := frs_true (fun j h => HK.out j h h)
      go_wp2_with fail
      go_ret
      exact ⟨ret_bool (by rw [HR.out]), B1.out⟩
end Go.Proofs.YtnknnfgimiljjaaGreatDoor
/-
  What LogForget answers (plain); a row of a log of its own is written.
-/
namespace Go.Proofs.YtnknnfgimiljjaaGreatDoor
open Go.RowKit Go.Lib
set_option linter.unusedVariables false
set_option maxRecDepth 20000

/-- The row with that field forgotten. -/
def fgt (rs : List Rw) (r f : Int) : Rw := ⟨(rs.getD r.toNat rwZ).k, (rs.getD r.toNat rwZ).a, (rs.getD r.toNat rwZ).fs.set f.toNat (goneF ((rs.getD r.toNat rwZ).fs.getD f.toNat fldD))⟩
def lfC (rs : List Rw) (lv : List ByteArray) (now r f y : Int) : Int := if (lgB rs lv now && decide (1 ≤ y ∧ y ≤ 2)) = true then fcO rs r f else 1
def lfR (rs : List Rw) (lv : List ByteArray) (now r f y : Int) : List Rw := if lfC rs lv now r f y = 0 then rs.set r.toNat (fgt rs r f) else []
def lfL (rs : List Rw) (lv : List ByteArray) (now r f y : Int) : List ByteArray := if lfC rs lv now r f y = 0 then lv ++ [tmRaw ⟨r, f, y, now⟩] else []
def lfN (rs : List Rw) (lv : List ByteArray) (now r f y : Int) : Int := if lfC rs lv now r f y = 0 then now else 0
theorem lf_bad {rs : List Rw} {lv : List ByteArray} {now r f y C : Int} (h : lfC rs lv now r f y = C) (hC : C ≠ 0) : lfR rs lv now r f y = [] ∧ lfL rs lv now r f y = [] ∧ lfN rs lv now r f y = 0 := by
  unfold lfR lfL lfN
  rw [h]
  exact ⟨if_neg hC, if_neg hC, if_neg hC⟩
theorem lf_good {rs : List Rw} {lv : List ByteArray} {now r f y : Int} (h : lfC rs lv now r f y = 0) : lfR rs lv now r f y = rs.set r.toNat (fgt rs r f) ∧ lfL rs lv now r f y = lv ++ [tmRaw ⟨r, f, y, now⟩] ∧ lfN rs lv now r f y = now := by
  unfold lfR lfL lfN
  rw [h]
  exact ⟨if_pos rfl, if_pos rfl, if_pos rfl⟩
theorem getD_row {rs : List Rw} {I : Nat} (hI : I < rs.length) : rs.getD (I : Int).toNat rwZ = rs[I] := by
  rw [Int.toNat_natCast, List.getD_eq_getElem?_getD, List.getElem?_eq_getElem hI]; rfl
theorem fc_zero {rs : List Rw} {r f : Int} (h : fcO rs r f = 0) : ∃ (I J : Nat) (hI : I < rs.length) (hJ : J < rs[I].fs.length), r = I ∧ f = J ∧ rs[I].fs[J].g = false := by
  unfold fcO at h
  by_cases h1 : 0 ≤ r ∧ r ≤ (rs.length : Int) - 1
  · rw [if_pos h1] at h
    obtain ⟨I, rfl⟩ := Int.eq_ofNat_of_zero_le h1.1
    have hI : I < rs.length := by omega
    by_cases h2 : 0 ≤ f ∧ f ≤ ((rs.getD (I : Int).toNat rwZ).fs.length : Int) - 1
    · rw [if_pos h2] at h
      rw [getD_row hI] at h2
      obtain ⟨J, rfl⟩ := Int.eq_ofNat_of_zero_le h2.1
      have hJ : J < rs[I].fs.length := by omega
      refine ⟨I, J, hI, hJ, rfl, rfl, ?_⟩
      have e2 : fldOf rs I J = rs[I].fs[J] := by
        unfold fldOf
        rw [getD_row hI, Int.toNat_natCast, List.getD_eq_getElem?_getD, List.getElem?_eq_getElem hJ]; rfl
      rw [e2] at h
      cases hg : rs[I].fs[J].g with
      | false => rfl
      | true => rw [hg] at h; simp at h
    · rw [if_neg h2] at h; omega
  · rw [if_neg h1] at h; omega
theorem fgt_eq {rs : List Rw} {I J : Nat} (hI : I < rs.length) (hJ : J < rs[I].fs.length) : fgt rs I J = ⟨rs[I].k, rs[I].a, rs[I].fs.set J (goneF rs[I].fs[J])⟩ := by
  unfold fgt
  rw [getD_row hI, Int.toNat_natCast, List.getD_eq_getElem?_getD, List.getElem?_eq_getElem hJ]; rfl
theorem forget_post {k : ByteArray} {a : Int} {fs : List Fld} {J : Nat} (hr : rwB k a fs = true) (hJ : J < fs.length) (hg : fs[J].g = false) : fgC k a fs J = 0 ∧ fgK k a fs J = k ∧ fgA k a fs J = a ∧ fgF k a fs J = fs.set J (goneF fs[J]) := by
  have e : fs.getD (J : Int).toNat fldD = fs[J] := by rw [Int.toNat_natCast, List.getD_eq_getElem?_getD, List.getElem?_eq_getElem hJ]; rfl
  have hC : fgC k a fs J = 0 := by
    unfold fgC
    rw [if_pos hr, if_pos (by omega), e, hg]; rfl
  refine ⟨hC, ?_, ?_, ?_⟩
  · unfold fgK; rw [hC]; rfl
  · unfold fgA; rw [hC]; rfl
  · unfold fgF; rw [hC, e, Int.toNat_natCast]; rfl
theorem lg_tomb {rs : List Rw} {lv : List ByteArray} {now y : Int} {I J : Nat} (h : lgB rs lv now = true) (hI : I < rs.length) (hJ : J < rs[I].fs.length) (hy : 1 ≤ y ∧ y ≤ 2) : tmB ⟨I, J, y, now⟩ = true := by
  obtain ⟨h1, h2, h3⟩ := lg_right h
  have h4 := (rwB_parts (k := rs[I].k) (at_ := rs[I].a) (fs := rs[I].fs) (h3 _ (List.getElem_mem hI))).2.2.1
  unfold lgB timeB at h
  simp only [Bool.and_eq_true, decide_eq_true_iff] at h
  rw [tmB_iff]
  show ((0 : Int) ≤ I ∧ (I : Int) ≤ 63) ∧ ((0 : Int) ≤ J ∧ (J : Int) ≤ 2) ∧ (1 ≤ y ∧ y ≤ 2) ∧ (0 ≤ now ∧ now ≤ 1000000)
  exact ⟨by omega, by omega, hy, h.2.2.1⟩
theorem own_set3 {w : World} {base b n cc : Nat} {l : List Rc} (h : w.ownsRow base 70 3 (.slice (some ⟨b, 0, none⟩) n cc) n (rcRow l)) (i : Nat) (x : Rc) : (set3 w b (i * 3) x).ownsRow base 70 3 (.slice (some ⟨b, 0, none⟩) n cc) n (rcRow (l.set i x)) := by
  have h1 := (h.stored (i * 3) (.string x.k)).1
  have h2 := (h1.stored (i * 3 + 1) (.int .i64 x.a)).1
  have h3 := (h2.stored (i * 3 + 2) x.v).1
  rw [rcRow_set] at h3
  exact h3
theorem set3_grw (x : World) (g i : Nat) (v : Rc) : x.grownBy (set3 x g i v) (some g) := by
  refine ⟨rfl, rfl, rfl, by simp [set3, World.setCell], fun q hq hne => ?_⟩
  have hq' : g ≠ q := fun e => hne (by rw [e])
  simp [set3, World.setCell, Array.getElem?_modify, hq']
theorem RwsO.some_of {base : Nat} {xs : List (Rw × Value)} {v : Value} {w : World} (h : RwsO base xs v w) (h0 : 0 < xs.length) : ∃ g c, v = .slice (some ⟨g, 0, none⟩) xs.length c := by
  rcases h.own.2 with ⟨h1, h2⟩ | ⟨g, cap, cur, h1, _⟩
  · omega
  · exact ⟨g, cap, h1⟩
theorem set_fst (xs : List (Rw × Value)) (I : Nat) (r : Rw) (v : Value) : (xs.set I (r, v)).map (·.1) = (xs.map (·.1)).set I r := by rw [List.map_set]
section
variable {W x x' : World} {E g c : Nat} {xs : List (Rw × Value)} {lv : List ByteArray} {now : Int} {v2 : Value}
theorem LgC.rowv (h : LgC W E xs lv now (.slice (some ⟨g, 0, none⟩) xs.length c) v2 x) (I : Nat) (hI : I < xs.length) : ∃ q0 c0, xs[I].2 = .slice q0 xs[I].1.fs.length c0 ∧ xs[I].1.fs.length ≤ c0 := by
  obtain ⟨q', c', hq, hcc, hf⟩ := ownF_form (h.lg.rws.fld _ (List.getElem_mem hI))
  exact ⟨q', c', hq, hcc⟩
theorem LgC.row (h : LgC W E xs lv now (.slice (some ⟨g, 0, none⟩) xs.length c) v2 x) (I : Nat) (hI : I < xs.length) {q0 : Option Addr} {c0 : Nat} {X : Rw} (hX : xs[I].1 = X) (hv : xs[I].2 = .slice q0 X.fs.length c0) : (x.cell? ⟨g, I * 3, none⟩ = some (.string X.k) ∧ x.cell? ⟨g, I * 3 + 1, none⟩ = some (.int .i64 X.a) ∧ x.cell? ⟨g, I * 3 + 2, none⟩ = some (.slice q0 X.fs.length c0)) ∧ x.frozen? ⟨g, I * 3, none⟩ = false ∧ x.frozen? ⟨g, I * 3 + 1, none⟩ = false ∧ x.frozen? ⟨g, I * 3 + 2, none⟩ = false ∧ FldAt x q0 X.fs := by
  subst hX
  have own := h.lg.rws.own
  have hl := rcV_len xs
  have hr := rcRow_at (xs.map rcV) I (by simpa using hI)
  rw [← own.cellAt (I * 3) (by omega), ← own.cellAt (I * 3 + 1) (by omega), ← own.cellAt (I * 3 + 2) (by omega)] at hr
  have ev : (xs.map rcV)[I]'(by simpa using hI) = ⟨xs[I].1.k, xs[I].1.a, .slice q0 xs[I].1.fs.length c0⟩ := by rw [List.getElem_map]; unfold rcV; rw [hv]
  rw [ev] at hr
  obtain ⟨q', c', hq, hcc, hf⟩ := ownF_form (h.lg.rws.fld _ (List.getElem_mem hI))
  rw [hv] at hq
  cases hq
  exact ⟨hr, own.frozenAt _, own.frozenAt _, own.frozenAt _, hf⟩
/-- A row of it is written: its fields came later than all that is there. -/
theorem LgC.setRow (h : LgC W E xs lv now (.slice (some ⟨g, 0, none⟩) xs.length c) v2 x) (hx : Below x.heap.size x x') (I : Nat) (hI : I < xs.length) (r : Rw) (q : Option Addr) (d : Nat) (hf : x'.ownsRow x.heap.size 72 5 (.slice q r.fs.length d) r.fs.length (fldRow r.fs)) : LgC W E (xs.set I (r, .slice q r.fs.length d)) lv now (.slice (some ⟨g, 0, none⟩) xs.length c) v2 (set3 x' g (I * 3) ⟨r.k, r.a, .slice q r.fs.length d⟩) := by
  have H := h.below hx
  have hg := (H.lg.rws.own.lt g rfl).1
  have gr := set3_grw x' g (I * 3) ⟨r.k, r.a, .slice q r.fs.length d⟩
  have own2 := own_set3 H.lg.rws.own I ⟨r.k, r.a, .slice q r.fs.length d⟩
  have e0 : (xs.map rcV).set I ⟨r.k, r.a, .slice q r.fs.length d⟩ = (xs.set I (r, .slice q r.fs.length d)).map rcV := by rw [List.map_set]; rfl
  rw [e0] at own2
  have hW := h.bel.size
  have hxz := hx.size
  have old : ∀ z ∈ xs, ∀ j, z.2.ownBlock = some j → j < x.heap.size := fun z hz j hj => ((h.lg.rws.lt.2 z hz) j hj).2
  have new : ∀ j, (Value.slice q r.fs.length d).ownBlock = some j → x.heap.size ≤ j := fun j hj => (hf.lt j hj).1
  refine ⟨set3_other H.box (fun e => own_box H.lg.rws.own H.box (by decide) (by rw [e]; rfl)) _, ⟨⟨by rw [List.length_set]; exact own2, fun z hz => ?_, ?_⟩, H.lg.lvs.kept gr (own_apart H.lg.lvs H.lg.rws.own (by decide))⟩, h.eb, set3_below H.bel hg _ _⟩
  · rcases List.mem_or_eq_of_mem_set hz with hz | rfl
    · exact (H.lg.rws.fld z hz).kept gr (own_apart (H.lg.rws.fld z hz) H.lg.rws.own (by decide))
    · exact (own_low hf hW).kept gr (own_apart hf H.lg.rws.own (by decide))
  · rw [List.pairwise_iff_getElem]
    intro i j hi hj hij
    rw [List.length_set] at hi hj
    have hp := List.pairwise_iff_getElem.1 H.lg.rws.ne i j hi hj hij
    rw [List.getElem_set, List.getElem_set]
    split
    · rename_i h1
      rw [if_neg (by omega)]
      cases hb : (Value.slice q r.fs.length d).ownBlock with
      | none => exact .inl rfl
      | some b =>
        refine .inr (fun e => ?_)
        have := new b hb
        have := old _ (List.getElem_mem hj) b e.symm
        omega
    · split
      · rename_i h1 h2
        cases hb : (xs[i]).2.ownBlock with
        | none => exact .inl rfl
        | some b =>
          refine .inr (fun e => ?_)
          have := old _ (List.getElem_mem hi) b hb
          have := new b e.symm
          omega
      · exact hp
end
end Go.Proofs.YtnknnfgimiljjaaGreatDoor
/-
  One operation of a drawing region taken by hand, where the region's LAST operation (a store, which waits for all others) ends what held of the world till then: the condition is asked behind every operation but that one.
-/
namespace Go.Proofs.YtnknnfgimiljjaaGreatDoor
open Go.RowKit Go.Lib
set_option linter.unusedVariables false

/-- In whatever order, and S holds behind every operation but number l. -/
def AnyTill (P : Program) (md : Region.Mode) (ops : Array Oper) (Q : Exit → Act → World → Prop) (S : World → Prop) (l : Nat) : Nat → Array Bool → Act → World → Prop
  | 0, listed, a, w => Region.ready md ops listed = [] ∧ Q .normal a w
  | n + 1, listed, a, w => (Region.ready md ops listed = [] → Q .normal a w) ∧ ∀ i ∈ Region.ready md ops listed, wpOp P ops Q i (fun a' w' => (i ≠ l → S w') ∧ AnyTill P md ops Q S l n (listed.setIfInBounds i true) a' w') a w
/-- Number l waits for number i. -/
def waitsFor (md : Region.Mode) (ops : Array Oper) (l i : Nat) : Bool := match ops[l]? with
  | some x => x.after.any (fun e => Region.binds md e && e.on == i)
  | none => false
section
variable {P : Program} {ops : Array Oper} {Q : Exit → Act → World → Prop} {md : Region.Mode} {S : World → Prop} {l : Nat}
theorem AnyTill.any : ∀ (n : Nat) (listed : Array Bool) (a : Act) (w : World), AnyTill P md ops Q S l n listed a w → wpAny P md ops Q n listed a w
  | 0, _, _, _, h => h
  | n + 1, _, _, _, h => ⟨h.1, fun i hi => wpOp_mono (fun a' w' k => AnyTill.any n _ a' w' k.2) (h.2 i hi)⟩
theorem AnyTill.first {i : Nat} {o : Oper} {v : Value} (hi : ops[i]? = some o) (hsel : ∀ (j : Nat) (x : Oper) cs b, ops[j]? = some x → x.op ≠ .select cs b) (hQ : ∀ c a w, Q (.panic c) (a.put o.dst v) w → Q (.panic c) a w) (hl : waitsFor md ops l i = true) (n : Nat) :
    ∀ (listed : Array Bool) (a : Act) (w : World), (∀ j x, ops[j]? = some x → j ≠ i → listed.getD j true = false → (∀ e ∈ x.after, Region.binds md e = true → e.on ≠ i) → o.apart ops x = true) →
      i ∈ Region.ready md ops listed → YieldsIf P ops S o v a → S w → AnyTill P md ops Q S l n (listed.setIfInBounds i true) (a.put o.dst v) w → AnyTill P md ops Q S l (n + 1) listed a w := by
  induction n with
  | zero =>
    intro listed a w _ hr hy hS H
    refine ⟨fun h0 => absurd (h0 ▸ hr) (by simp), fun j hj => ?_⟩
    by_cases hji : j = i
    · subst hji; exact hy.wpOp hi hS ⟨fun _ => hS, H⟩
    · exact absurd (H.1 ▸ ready_mono hj hji) (by simp)
  | succ n ih =>
    intro listed a w hfree hr hy hS H
    refine ⟨fun h0 => absurd (h0 ▸ hr) (by simp), fun j hj => ?_⟩
    by_cases hji : j = i
    · subst hji; exact hy.wpOp hi hS ⟨fun _ => hS, H⟩
    obtain ⟨hun, x, hx, hall⟩ := mem_ready.1 hj
    have hnot : ∀ e ∈ x.after, Region.binds md e = true → e.on ≠ i := fun e he hb heq => by
      have h1 := hall e he hb
      have h0 := (mem_ready.1 hr).1
      rw [heq] at h1
      rcases Nat.lt_or_ge i listed.size with q | q
      · simp [q] at h0 h1; rw [h0] at h1; cases h1
      · simp [Array.getElem?_eq_none q] at h1
    have hjl : j ≠ l := by
      rintro rfl
      unfold waitsFor at hl
      rw [hx] at hl
      simp only [Array.any_eq_true] at hl
      obtain ⟨k, hk, he⟩ := hl
      rw [Bool.and_eq_true, beq_iff_eq] at he
      exact hnot _ (Array.getElem_mem hk) he.1 he.2
    have hfree' : ∀ k y, ops[k]? = some y → k ≠ i → (listed.setIfInBounds j true).getD k true = false → (∀ e ∈ y.after, Region.binds md e = true → e.on ≠ i) → o.apart ops y = true := fun k y hk hki hu hno => by
      refine hfree k y hk hki ?_ hno
      by_cases hjk : j = k
      · subst hjk; exact hun
      · rwa [getD_set_ne true hjk] at hu
    have step := wpOp_putIf hx (hfree j x hx hji hun hnot) (fun cs b => hsel i o cs b hi) (fun cs b => hsel j x cs b hx) hQ hy (H.2 j (ready_mono hj hji))
    refine wpOp_mono (fun a' w' k => ?_) step
    obtain ⟨ky, kS, kH⟩ := k
    exact ⟨kS, ih _ a' w' hfree' (ready_mono hr (Ne.symm hji)) ky (kS hjl) (by rw [Array.setIfInBounds_comm _ _ hji]; exact kH)⟩
theorem till_take (i : Nat) {oi : Oper} {v : Value} {fuel : Nat} {listed : Array Bool} {a : Act} {w : World} (hi : ops.toList[i]? = some oi)
    (hs : Region.noSelect ops = true) (hf : Region.free md ops listed i = true) (hr : (Region.ready md ops listed).contains i = true) (hl : waitsFor md ops l i = true)
    (hQ : ∀ c a w, Q (.panic c) (a.put oi.dst v) w → Q (.panic c) a w) (hS : S w) (hy : YieldsIf P ops S oi v a)
    (h : AnyTill P md ops Q S l fuel (listed.setIfInBounds i true) (a.put oi.dst v) w) : AnyTill P md ops Q S l (fuel + 1) listed a w :=
  AnyTill.first (by rw [← hi]; simp) (Region.noSelect_spec hs) hQ hl fuel listed a w (Region.free_spec (by rw [← hi]; simp) hf) (by simpa using hr) hy hS h
theorem till_ready (i : Nat) {o : Oper} {fuel : Nat} {listed : Array Bool} {a : Act} {w : World} (hi : ops.toList[i]? = some o) (hr : Region.ready md ops listed = [i])
    (h : ∀ K' : Act → World → Prop, Shut (∀ a w, S w → (S w → AnyTill P md ops Q S l fuel (listed.setIfInBounds i true) a w) → K' a w) → if Region.wanted o (yielded ops a.tmps) = true then Oper.wp P o a w K' Q else K' (a.put o.dst undef) w) : AnyTill P md ops Q S l (fuel + 1) listed a w :=
  ⟨fun h0 => absurd (hr ▸ h0) (by simp), fun j hj => by
    obtain rfl : j = i := by rw [hr] at hj; simpa using hj
    exact wpOp_step (by rw [← hi]; simp) (fun K' hK => h K' (fun a w hS hW => hK a w ⟨fun _ => hS, hW hS⟩))⟩
theorem till_last {o : Oper} {fuel : Nat} {listed : Array Bool} {a : Act} {w : World} (hi : ops.toList[l]? = some o) (hr : Region.ready md ops listed = [l]) (hd : Region.ready md ops (listed.setIfInBounds l true) = [])
    (h : ∀ K' : Act → World → Prop, Shut (∀ a w, Q .normal a w → K' a w) → if Region.wanted o (yielded ops a.tmps) = true then Oper.wp P o a w K' Q else K' (a.put o.dst undef) w) : AnyTill P md ops Q S l (fuel + 1) listed a w :=
  ⟨fun h0 => absurd (hr ▸ h0) (by simp), fun j hj => by
    obtain rfl : j = l := by rw [hr] at hj; simpa using hj
    exact wpOp_step (by rw [← hi]; simp) (fun K' hK => h K' (fun a w hQ => hK a w ⟨fun h0 => absurd rfl h0, by
      cases fuel with
      | zero => exact ⟨hd, hQ⟩
      | succ n => exact ⟨fun _ => hQ, by rw [hd]; simp⟩⟩))⟩
theorem region_till (S : World → Prop) (l : Nat) {id : Nat} {a : Act} {w : World} (hm : P.follows .mixedOrders = true) (hS : S w.drew)
    (h : S w.drew → AnyTill P .any ops Q S l ops.size (Array.replicate ops.size false) a w.drew) : (Code.region id ops true).wp P Q a w :=
  wp_region_any hm (AnyTill.any _ _ _ _ (h hS))
end
end Go.Proofs.YtnknnfgimiljjaaGreatDoor
/-
  An append in a region that draws its order, by its run.
-/
namespace Go.Proofs.YtnknnfgimiljjaaGreatDoor
open Go.RowKit
set_option linter.unusedVariables false

theorem step_append_run {P : Program} {w : World} {ops : Array Oper} {o : Oper} {a : Act} {K : Act → World → Prop} {Q : Exit → Act → World → Prop} {E : Prop} (hgd : o.guard = none) (s x : Operand) (t : TypeId)
    (ho : o.op = .call { callee := .builtin .append, args := #[s, x], argTypes := #[t, t] }) (v1 v2 v' : Value) (w' : World) (hs : a.eval s = v1) (hx : a.eval x = v2)
    (hr : (Builtin.append_ #[t, t] o.type #[v1, v2]).run P w = .ok v' w') (h : K (a.put o.dst v') w') :
    if Region.wanted o (yielded ops a.tmps) = true then Oper.wp P o a w K Q else E := by
  have hw : Region.wanted o (yielded ops a.tmps) = true := by simp [Region.wanted, hgd]
  rw [if_pos hw]
  unfold Oper.wp execOp
  simp only [ho, resolve, invoke, builtin, Sem.run_bind, Sem.run_pure, Result.andThen_ok, List.map_toArray, List.map_cons, List.map_nil, hs, hx, hr]
  exact h
end Go.Proofs.YtnknnfgimiljjaaGreatDoor
/-
  A world that has grown, one block turned: steps of it.
-/
namespace Go.Proofs.YtnknnfgimiljjaaGreatDoor
open Go.RowKit Go.Lib
set_option linter.unusedVariables false

theorem grown_below {w x : World} {P : Nat} (h : Below w.heap.size w x) : w.grownBy x (some P) := ⟨h.os, h.tape, h.output, h.size, fun g hg _ => h.block g hg⟩
theorem grown_set {w x : World} {P : Nat} (h : w.grownBy x (some P)) (i : Nat) (v : Value) : w.grownBy (x.setCell ⟨P, i, none⟩ v) (some P) := by
  refine ⟨h.os, h.tape, h.output, ?_, fun g hg hne => ?_⟩
  · have := h.size
    simpa [World.setCell] using this
  · have hne' : P ≠ g := fun e => hne (by rw [e])
    rw [show (x.setCell ⟨P, i, none⟩ v).heap[g]? = x.heap[g]? by simp [World.setCell, Array.getElem?_modify, hne']]
    exact h.block g hg hne
theorem grown_trans {a b c : World} {P : Nat} (h : a.grownBy b (some P)) (k : b.grownBy c (some P)) : a.grownBy c (some P) :=
  ⟨k.os.trans h.os, k.tape.trans h.tape, k.output.trans h.output, Nat.le_trans h.size k.size, fun g hg hne => (k.block g (Nat.lt_of_lt_of_le hg h.size) hne).trans (h.block g hg hne)⟩
theorem grown_drew {a b : World} {P : Nat} (h : a.grownBy b (some P)) : a.grownBy b.drew (some P) := ⟨h.os, h.tape, h.output, h.size, h.block⟩
/-- Behind a growth that turns a block of one's own all below is as it was. -/
theorem below_turned {B : Nat} {a x y : World} {P : Nat} (h : Below B a x) (k : x.grownBy y (some P)) (hx : B ≤ x.heap.size) (hP : B ≤ P) : Below B a y :=
  h.grown k hx (fun j hj => by have := hj; simp at this; omega)
end Go.Proofs.YtnknnfgimiljjaaGreatDoor
/-
  What the program's digestOfAll answers: the digest of all texts, one behind the other.
  Conditions: the two tables of the digest lie as laid.
-/
namespace Go.Proofs.YtnknnfgimiljjaaGreatDoor
open Go.RowKit Go.Lib
set_option linter.unusedVariables false

set_option maxHeartbeats 1000000 in
theorem digAll_any (g c : Nat) (ss : List ByteArray) (w : World) (hT : Tabs w) (hb : BlkS w g ss) (hn : ss.length ≤ 1024) (hc : ss.length ≤ c) (htot : (cat ss).size ≤ 1099511627776) :
    Calls Tryz.prog 169 #[.slice (some ⟨g, 0, none⟩) ss.length c] w fun e w' => e = .returned (.string (digB (cat ss))) ∧ Below w.heap.size w w' := by
  have hJ := joined_any g 0 ss.length c ss w rfl hb.lt (by omega) hc (fun i h => by rw [Nat.zero_add]; exact (hb.cell i h).1) (by rw [← cat_size]; omega)
  have HT : Hid (Tabs w) := hT
  clear hT hb
  generalize cat ss = C at *
  go_enter Tryz.func169, Tryz.ntmps169
  go_wp2_with fail
  refine hJ.mono ?_
  rintro e w1 ⟨rfl, b1⟩
  go_wp2_with fail
  refine (digI_any C w1 htot (HT.out.below b1 HT.out.1)).mono ?_
  rintro e w2 ⟨rfl, b2⟩
  have b2 := chainB b1 b2
  go_wp2_with fail
  go_ret
  exact ⟨rfl, b2⟩
end Go.Proofs.YtnknnfgimiljjaaGreatDoor
/-
  What the program's timeRight answers.
-/
namespace Go.Proofs.YtnknnfgimiljjaaGreatDoor
open Go.RowKit Go.Lib
set_option linter.unusedVariables false
set_option maxRecDepth 20000

theorem timeRight_any (n : Int) (w : World) : Calls Tryz.prog 69 #[.int .i64 n] w fun e w' => e = .returned (.bool (timeB n)) ∧ w' = w := by
  unfold timeB
  by_cases h1 : 0 ≤ n
  · have d1 : decide (0 ≤ n) = true := decide_eq_true h1
    by_cases h2 : n ≤ 1000000
    · have d2 : decide (n ≤ 1000000) = true := decide_eq_true h2
      rw [decide_eq_true (And.intro h1 h2)]
      clear h1 h2
      go_enter Tryz.func69, Tryz.ntmps69
      go_wp2_with fail
      go_ret
      exact ⟨rfl, rfl⟩
    · have d2 : decide (n ≤ 1000000) = false := decide_eq_false h2
      rw [decide_eq_false (fun h => h2 h.2)]
      clear h1 h2
      go_enter Tryz.func69, Tryz.ntmps69
      go_wp2_with fail
      go_ret
      exact ⟨rfl, rfl⟩
  · have d1 : decide (0 ≤ n) = false := decide_eq_false h1
    rw [decide_eq_false (fun h => h1 h.1)]
    clear h1
    go_enter Tryz.func69, Tryz.ntmps69
    go_wp2_with fail
    go_ret
    exact ⟨rfl, rfl⟩
end Go.Proofs.YtnknnfgimiljjaaGreatDoor
/-
  What the program's goneField, presentField, timeRight, CommitOf and FieldRight answer; two fields compared as wholes.
  Conditions: the two tables of the digest lie as laid.
-/
namespace Go.Proofs.YtnknnfgimiljjaaGreatDoor
open Go.RowKit Go.Lib
set_option linter.unusedVariables false
set_option maxRecDepth 20000

/-- A field as a value. -/
def fv5 (n c s v : ByteArray) (g : Bool) : Value := .agg #[.string n, .string c, .string s, .string v, .bool g]
def eqF (n c s v : ByteArray) (g : Bool) (n' c' s' v' : ByteArray) (g' : Bool) : Bool := (n.toList == n'.toList) && ((c.toList == c'.toList) && ((s.toList == s'.toList) && ((v.toList == v'.toList) && (g == g'))))
theorem eql_fld (n c s v : ByteArray) (g : Bool) (n' c' s' v' : ByteArray) (g' : Bool) (w : World) : (binOp .eql 72 (.agg #[.string n, .string c, .string s, .string v, .bool g]) (.agg #[.string n', .string c', .string s', .string v', .bool g'])).run Tryz.prog w = .ok (.bool (eqF n c s v g n' c' s' v' g')) w := by
  unfold eqF
  rw [run_eql_struct, run_equalIn_agg w 9999 72 _ _ (by kernel_rfl) (by kernel_rfl)]
  have hF : Tryz.prog.fieldsOf 72 = Tryz.prog.fieldsOf 72 := rfl
  conv at hF => rhs; simp only [Program.fieldsOf, Tryz.underlying72]
  rw [hF]
  cases h1 : n.toList == n'.toList <;> cases h2 : c.toList == c'.toList <;> cases h3 : s.toList == s'.toList <;> cases h4 : v.toList == v'.toList <;> cases h5 : g == g' <;>
    simp [go_sem, Op.eqFields, h1, h2, h3, h4, h5]
theorem eqF_gone (n c s v : ByteArray) : eqF n c s v true n c ByteArray.empty ByteArray.empty true = (emB s && emB v) := by
  unfold eqF emB; simp
theorem eqF_there (n c s v C : ByteArray) : eqF n c s v false n C s v false = (c.toList == C.toList) := by
  unfold eqF; simp
theorem Tabs.to {w w' : World} (h : Tabs w) (hb : Below w.heap.size w w') : Tabs w' := h.below hb h.1
theorem goneField_any (n c : ByteArray) (w : World) : Calls Tryz.prog 100 #[.string n, .string c] w fun e w' => e = .returned (.agg #[.string n, .string c, .string ByteArray.empty, .string ByteArray.empty, .bool true]) ∧ Below w.heap.size w w' := by
  have B1 : Below w.heap.size w (w.alloc (.cells #[.string n, .string c, .string ByteArray.empty, .string ByteArray.empty, .bool true] 72)) := (Below.refl _ _).alloc (Nat.le_refl _) _
  go_enter Tryz.func100, Tryz.ntmps100
  go_wp2_with fail
  refine bodyPost_ret (v := .agg #[.string n, .string c, .string ByteArray.empty, .string ByteArray.empty, .bool true]) (by simp [results, Tryz.results100, go_sem]; rfl) rfl ?_
  exact ⟨rfl, B1⟩
theorem digFour_any (A B C : ByteArray) (w : World) (hT : Tabs w) (h1 : A.size ≤ 2000) (h2 : B.size ≤ 2000) (h3 : C.size ≤ 2000) :
    Calls Tryz.prog 169 #[.slice (some ⟨w.heap.size, 0, none⟩) 4 4] (w.alloc (.cells #[.string ⟨#[2]⟩, .string A, .string B, .string C] 9)) fun e w' => e = .returned (.string (digB (two1 ++ A ++ B ++ C))) ∧ Below w.heap.size w w' := by
  have hc : cat [two1, A, B, C] = two1 ++ A ++ B ++ C := by apply ByteArray.ext; simp [cat]
  have hb : BlkS (w.alloc (.cells #[.string ⟨#[2]⟩, .string A, .string B, .string C] 9)) w.heap.size [two1, A, B, C] := alloc_str w [two1, A, B, C]
  have b1 : Below w.heap.size w (w.alloc (.cells #[.string ⟨#[2]⟩, .string A, .string B, .string C] 9)) := (Below.refl _ _).alloc (Nat.le_refl _) _
  have h := digAll_any w.heap.size 4 [two1, A, B, C] _ (hT.to b1) hb (by simp) (by simp) (by rw [hc]; simp only [ByteArray.size_append]; show 1 + _ + _ + _ ≤ _; omega)
  rw [hc] at h
  refine Calls.mono h ?_
  rintro e w' ⟨he, hb'⟩
  exact ⟨he, chainB b1 hb'⟩
set_option maxHeartbeats 1000000 in
theorem implCommitOf_any (n s v : ByteArray) (w : World) (hT : Tabs w) (hn : n.size ≤ maxLen) (hs : s.size ≤ maxLen) (hv : v.size ≤ maxLen) : Calls Tryz.prog 162 #[.string n, .string s, .string v] w fun e w' => e = .returned (.string (cmB n s v)) ∧ Below w.heap.size w w' := by
  have hN := implNameRight_any n w hn
  have HTb : Hid (Tabs w) := hT
  clear hT
  unfold maxLen at hn hs hv
  cases hk : nrB n with
  | false =>
    have HV : Hid (cmB n s v = ByteArray.empty) := if_neg (by unfold cmOk; rw [hk]; exact Bool.false_ne_true)
    rw [hk] at hN
    rw [HV.out]
    go_enter Tryz.func162, Tryz.ntmps162
    go_wp2_with fail
    refine hN.mono ?_
    rintro e w1 ⟨rfl, rfl⟩
    go_wp2_with fail
    go_ret
    exact ⟨rfl, Below.refl _ _⟩
  | true =>
  rw [hk] at hN
  by_cases h1 : s.size < 1
  · have HV : Hid (cmB n s v = ByteArray.empty) := if_neg (by unfold cmOk; rw [decide_eq_false (by omega)]; simp)
    have d1 : decide ((s.size : Int) < 1) = true := decide_eq_true (by omega)
    rw [HV.out]
    go_enter Tryz.func162, Tryz.ntmps162
    go_wp2_with fail
    refine hN.mono ?_
    rintro e w1 ⟨rfl, rfl⟩
    go_wp2_with fail
    go_ret
    exact ⟨rfl, Below.refl _ _⟩
  have d1 : decide ((s.size : Int) < 1) = false := decide_eq_false (by omega)
  by_cases h2 : 8 < s.size
  · have HV : Hid (cmB n s v = ByteArray.empty) := if_neg (by unfold cmOk; rw [decide_eq_false (p := 1 ≤ s.size ∧ s.size ≤ 8) (by omega)]; simp)
    have d2 : decide (8 < (s.size : Int)) = true := decide_eq_true (by omega)
    rw [HV.out]
    go_enter Tryz.func162, Tryz.ntmps162
    go_wp2_with fail
    refine hN.mono ?_
    rintro e w1 ⟨rfl, rfl⟩
    go_wp2_with fail
    go_ret
    exact ⟨rfl, Below.refl _ _⟩
  have d2 : decide (8 < (s.size : Int)) = false := decide_eq_false (by omega)
  by_cases h3 : 16 < v.size
  · have HV : Hid (cmB n s v = ByteArray.empty) := if_neg (by unfold cmOk; rw [decide_eq_false (p := v.size ≤ 16) (by omega)]; simp)
    have d3 : decide (16 < (v.size : Int)) = true := decide_eq_true (by omega)
    rw [HV.out]
    go_enter Tryz.func162, Tryz.ntmps162
    go_wp2_with fail
    refine hN.mono ?_
    rintro e w1 ⟨rfl, rfl⟩
    go_wp2_with fail
    go_ret
    exact ⟨rfl, Below.refl _ _⟩
  have d3 : decide (16 < (v.size : Int)) = false := decide_eq_false (by omega)
  have HV : Hid (cmB n s v = digB (cmT n s v)) := if_pos (by unfold cmOk; rw [hk, decide_eq_true (p := 1 ≤ s.size ∧ s.size ≤ 8) (by omega), decide_eq_true (p := v.size ≤ 16) (by omega)]; rfl)
  have hn20 := nrB_le hk
  have t1 := putTextB_le n (by omega)
  have t2 := putTextB_le s (by omega)
  have t3 := putTextB_le v (by omega)
  have HN : Hid (∀ x, Calls Tryz.prog 47 #[.string n] x fun e w' => e = .returned (.string (putTextB n)) ∧ Below x.heap.size x w') := fun x => implPutText_any n x (by unfold maxLen; omega)
  have HS : Hid (∀ x, Calls Tryz.prog 47 #[.string s] x fun e w' => e = .returned (.string (putTextB s)) ∧ Below x.heap.size x w') := fun x => implPutText_any s x (by unfold maxLen; omega)
  have HVv : Hid (∀ x, Calls Tryz.prog 47 #[.string v] x fun e w' => e = .returned (.string (putTextB v)) ∧ Below x.heap.size x w') := fun x => implPutText_any v x (by unfold maxLen; omega)
  have HT : Hid (cmT n s v = two1 ++ putTextB n ++ putTextB s ++ putTextB v) := rfl
  have HD : Hid (∀ x, Tabs x → Calls Tryz.prog 169 #[.slice (some ⟨x.heap.size, 0, none⟩) 4 4] (x.alloc (.cells #[.string ⟨#[2]⟩, .string (putTextB n), .string (putTextB s), .string (putTextB v)] 9)) fun e w' => e = .returned (.string (digB (cmT n s v))) ∧ Below x.heap.size x w') := fun x hx => by
    rw [HT.out]
    exact digFour_any _ _ _ x hx (by omega) (by omega) (by omega)
  rw [HV.out]
  clear HT HV
  generalize digB (cmT n s v) = O at *
  generalize putTextB n = A at *
  generalize putTextB s = B at *
  generalize putTextB v = C at *
  clear hk h1 h2 h3 hn20 t1 t2 t3
  go_enter Tryz.func162, Tryz.ntmps162
  go_wp2_with fail
  refine hN.mono ?_
  rintro e w1 ⟨rfl, rfl⟩
  go_wp2_with fail
  refine (HN.out w1).mono ?_
  rintro e w2 ⟨rfl, b2⟩
  go_wp2_with fail
  refine (HS.out w2).mono ?_
  rintro e w3 ⟨rfl, b3⟩
  have b3 := chainB b2 b3
  go_wp2_with fail
  refine (HVv.out w3).mono ?_
  rintro e w4 ⟨rfl, b4⟩
  have b4 := chainB b3 b4
  go_wp2_with fail
  refine (HD.out w4 (HTb.out.to b4)).mono ?_
  rintro e w5 ⟨rfl, b5⟩
  have b5 := chainB b4 b5
  go_wp2_with fail
  go_ret
  exact ⟨rfl, b5⟩
set_option maxHeartbeats 1000000 in
theorem presentField_any (n s v : ByteArray) (w : World) (hT : Tabs w) (hn : n.size ≤ maxLen) (hs : s.size ≤ maxLen) (hv : v.size ≤ maxLen) : Calls Tryz.prog 156 #[.string n, .string s, .string v] w fun e w' => e = .returned (.agg #[.string n, .string (cmB n s v), .string s, .string v, .bool false]) ∧ Below w.heap.size w w' := by
  obtain ⟨W1, hW1⟩ : ∃ W1, W1 = w.alloc (.cells #[.string ⟨#[]⟩, .string ⟨#[]⟩, .string ⟨#[]⟩, .string ⟨#[]⟩, .bool false] 72) := ⟨_, rfl⟩
  have HW1 : Hid (W1 = w.alloc (.cells #[.string ⟨#[]⟩, .string ⟨#[]⟩, .string ⟨#[]⟩, .string ⟨#[]⟩, .bool false] 72)) := hW1
  have B1 : Hid (Below w.heap.size w W1) := by rw [hW1]; exact (Below.refl _ _).alloc (Nat.le_refl _) _
  have K1 : Hid (Bxs W1 w.heap.size 72 #[.string ⟨#[]⟩, .string ⟨#[]⟩, .string ⟨#[]⟩, .string ⟨#[]⟩, .bool false]) := by rw [hW1]; exact Bxs.new _ _ _
  have hC := implCommitOf_any n s v W1 (hT.to B1.out) hn hs hv
  have HP : Hid (∀ y x0 x1 x2 x3 x4, Below W1.heap.size W1 y → Below w.heap.size w (((((y.setCell ⟨w.heap.size, 0, none⟩ x0).setCell ⟨w.heap.size, 1, none⟩ x1).setCell ⟨w.heap.size, 2, none⟩ x2).setCell ⟨w.heap.size, 3, none⟩ x3).setCell ⟨w.heap.size, 4, none⟩ x4)) := fun y x0 x1 x2 x3 x4 hb => below_set5 (chainB B1.out hb) (Nat.le_refl _) x0 x1 x2 x3 x4
  clear hW1 hT
  generalize cmB n s v = O at *
  go_enter Tryz.func156, Tryz.ntmps156
  go_wp2_with fail
  rw [← HW1.out]
  refine hC.mono ?_
  rintro e y ⟨rfl, b1⟩
  have K2 := K1.out.below b1
  obtain ⟨k0, k1, k2, k3, k4⟩ := K2.five
  have f0 := K2.fr 0
  have f1 := K2.fr 1
  have f2 := K2.fr 2
  have f3 := K2.fr 3
  have f4 := K2.fr 4
  have HE := fun x0 x1 x2 x3 x4 => HP.out y x0 x1 x2 x3 x4 b1
  clear K2 HP b1
  go_wp2_with fail
  refine bodyPost_ret (v := .agg #[.string n, .string O, .string s, .string v, .bool false]) (by simp [results, Tryz.results156, go_sem, k0, k1, k2, k3, k4]) rfl ?_
  exact ⟨rfl, HE _ _ _ _ _⟩
/-- areDigests of one text, laid into a new row. -/
theorem areOne_any (c : ByteArray) (w : World) : Calls Tryz.prog 53 #[.slice (some ⟨w.heap.size, 0, none⟩) 1 1] (w.alloc (.cells #[.string c] 9)) fun e w' => e = .returned (.bool (decide (c.size = 32))) ∧ Below w.heap.size w w' := by
  have hb : BlkS (w.alloc (.cells #[.string c] 9)) w.heap.size [c] := alloc_str w [c]
  have b1 : Below w.heap.size w (w.alloc (.cells #[.string c] 9)) := (Below.refl _ _).alloc (Nat.le_refl _) _
  have h := areD_any (some ⟨w.heap.size, 0, none⟩) 1 [c] _ hb.txt (by simp) (by simp)
  have e1 : wideB [c] = decide (c.size = 32) := by
    unfold wideB
    by_cases h : c.size = 32
    · rw [decide_eq_true h]; simp [h]
    · rw [decide_eq_false h]; simp [h]
  rw [e1] at h
  refine Calls.mono h ?_
  rintro e w' ⟨he, rfl⟩
  exact ⟨he, b1⟩
set_option maxHeartbeats 2000000 in
theorem implFieldRight_any (f : Fld) (w : World) (hT : Tabs w) (h1 : f.n.size ≤ maxLen) (h2 : f.c.size ≤ maxLen) (h3 : f.s.size ≤ maxLen) (h4 : f.v.size ≤ maxLen) : Calls Tryz.prog 151 #[.agg #[.string f.n, .string f.c, .string f.s, .string f.v, .bool f.g]] w fun e w' => e = .returned (.bool (fdB f)) ∧ Below w.heap.size w w' := by
  obtain ⟨n, c, s, v, g⟩ := f
  show Calls Tryz.prog 151 #[.agg #[.string n, .string c, .string s, .string v, .bool g]] w _
  have h1 : n.size ≤ maxLen := h1
  have h2 : c.size ≤ maxLen := h2
  have h3 : s.size ≤ maxLen := h3
  have h4 : v.size ≤ maxLen := h4
  obtain ⟨W1, hW1⟩ : ∃ W1, W1 = w.alloc (.cells #[.string n, .string c, .string s, .string v, .bool g] 72) := ⟨_, rfl⟩
  have HW1 : Hid (W1 = w.alloc (.cells #[.string n, .string c, .string s, .string v, .bool g] 72)) := hW1
  have B1 : Hid (Below w.heap.size w W1) := by rw [hW1]; exact (Below.refl _ _).alloc (Nat.le_refl _) _
  have K1 : Hid (Bxs W1 w.heap.size 72 #[.string n, .string c, .string s, .string v, .bool g]) := by rw [hW1]; exact Bxs.new _ _ _
  have HTb : Hid (Tabs W1) := hT.to B1.out
  have hN := implNameRight_any n W1 h1
  have hA := areOne_any c W1
  have HG : Hid (∀ x, Calls Tryz.prog 100 #[.string n, .string c] x fun e w' => e = .returned (.agg #[.string n, .string c, .string ByteArray.empty, .string ByteArray.empty, .bool true]) ∧ Below x.heap.size x w') := fun x => goneField_any n c x
  have HC : Hid (∀ x, Tabs x → Calls Tryz.prog 156 #[.string n, .string s, .string v] x fun e w' => e = .returned (.agg #[.string n, .string (cmB n s v), .string s, .string v, .bool false]) ∧ Below x.heap.size x w') := fun x hx => presentField_any n s v x hx h1 h3 h4
  have HF : Hid (fdB ⟨n, c, s, v, g⟩ = (nrB n && (decide (c.size = 32) && (if g = true then emB s && emB v else c.toList == (cmB n s v).toList)))) := rfl
  have HX : Hid (∀ x, Below W1.heap.size W1 x → x.cell? ⟨w.heap.size, 0, none⟩ = some (.string n) ∧ x.cell? ⟨w.heap.size, 1, none⟩ = some (.string c) ∧ x.cell? ⟨w.heap.size, 2, none⟩ = some (.string s) ∧ x.cell? ⟨w.heap.size, 3, none⟩ = some (.string v) ∧ x.cell? ⟨w.heap.size, 4, none⟩ = some (.bool g)) := fun x hb => ⟨(K1.out.below hb).cell 0, (K1.out.below hb).cell 1, (K1.out.below hb).cell 2, (K1.out.below hb).cell 3, (K1.out.below hb).cell 4⟩
  obtain ⟨x0, x1, x2, x3, x4⟩ := HX.out W1 (Below.refl _ _)
  have y0 := x0
  rw [hW1] at y0
  unfold maxLen at h1 h2 h3 h4
  clear hW1 hT
  rw [HF.out]
  cases hk : nrB n with
  | false =>
    rw [hk] at hN
    rw [Bool.false_and]
    go_enter Tryz.func151, Tryz.ntmps151
    go_wp2_with fail
    rw [← HW1.out]
    refine hN.mono ?_
    rintro e w1 ⟨rfl, rfl⟩
    go_wp2_with fail
    go_ret
    exact ⟨rfl, B1.out⟩
  | true =>
  rw [hk] at hN
  rw [Bool.true_and]
  generalize decide (c.size = 32) = bc at *
  cases bc with
  | false =>
    rw [Bool.false_and]
    go_enter Tryz.func151, Tryz.ntmps151
    go_wp2_with fail
    rw [← HW1.out]
    refine hN.mono ?_
    rintro e w1 ⟨rfl, rfl⟩
    go_wp2_with fail
    refine hA.mono ?_
    rintro e w2 ⟨rfl, b2⟩
    go_wp2_with fail
    go_ret
    exact ⟨rfl, chainB B1.out b2⟩
  | true =>
  rw [Bool.true_and]
  cases g with
  | true =>
    rw [if_pos rfl]
    have EQ : ∀ w, (binOp .eql 72 (.agg #[.string n, .string c, .string s, .string v, .bool true]) (.agg #[.string n, .string c, .string ByteArray.empty, .string ByteArray.empty, .bool true])).run Tryz.prog w = .ok (.bool (emB s && emB v)) w := fun w => by rw [eql_fld, eqF_gone]
    generalize (emB s && emB v) = R at *
    go_enter Tryz.func151, Tryz.ntmps151
    go_wp2_with fail
    rw [← HW1.out]
    refine hN.mono ?_
    rintro e w1 ⟨rfl, rfl⟩
    go_wp2_with fail
    refine hA.mono ?_
    rintro e w2 ⟨rfl, b2⟩
    clear x0 x1 x2 x3 x4 y0
    obtain ⟨x0, x1, x2, x3, x4⟩ := HX.out w2 b2
    have BR : Hid (Below w1.heap.size w1 w2.drew) := b2.drew
    go_wp2_with fail
    go_region_held3 (fun w' => w'.cell? ⟨w.heap.size, 0, none⟩ = some (.string n) ∧ w'.cell? ⟨w.heap.size, 1, none⟩ = some (.string c) ∧ w'.cell? ⟨w.heap.size, 2, none⟩ = some (.string s) ∧ w'.cell? ⟨w.heap.size, 3, none⟩ = some (.string v) ∧ w'.cell? ⟨w.heap.size, 4, none⟩ = some (.bool true)) ((first | exact HX.out _ BR.out | exact HX.out _ z1)) (first
      | (go_at_call 100; with_reducible refine (HG.out _).mono ?_; rintro e x9 ⟨rfl, z0⟩; have z1 : Below w1.heap.size w1 x9 := chainB BR.out z0))
    all_goals
      go_wp2_with fail
      go_ret
      exact ⟨rfl, chainB B1.out z1⟩
  | false =>
    rw [if_neg (by exact Bool.false_ne_true)]
    obtain ⟨C, hC⟩ : ∃ C, C = cmB n s v := ⟨_, rfl⟩
    rw [← hC] at HC ⊢
    clear hC HF
    have EQ : ∀ w, (binOp .eql 72 (.agg #[.string n, .string c, .string s, .string v, .bool false]) (.agg #[.string n, .string C, .string s, .string v, .bool false])).run Tryz.prog w = .ok (.bool (c.toList == C.toList)) w := fun w => by rw [eql_fld, eqF_there]
    generalize (c.toList == C.toList) = R at *
    go_enter Tryz.func151, Tryz.ntmps151
    go_wp2_with fail
    rw [← HW1.out]
    refine hN.mono ?_
    rintro e w1 ⟨rfl, rfl⟩
    go_wp2_with fail
    refine hA.mono ?_
    rintro e w2 ⟨rfl, b2⟩
    clear x0 x1 x2 x3 x4 y0
    obtain ⟨x0, x1, x2, x3, x4⟩ := HX.out w2 b2
    have BR : Hid (Below w1.heap.size w1 w2.drew) := b2.drew
    go_wp2_with fail
    go_region_held3 (fun w' => w'.cell? ⟨w.heap.size, 0, none⟩ = some (.string n) ∧ w'.cell? ⟨w.heap.size, 1, none⟩ = some (.string c) ∧ w'.cell? ⟨w.heap.size, 2, none⟩ = some (.string s) ∧ w'.cell? ⟨w.heap.size, 3, none⟩ = some (.string v) ∧ w'.cell? ⟨w.heap.size, 4, none⟩ = some (.bool false)) ((first | exact HX.out _ BR.out | exact HX.out _ z1)) (first
      | (go_at_call 156; with_reducible refine (HC.out _ (HTb.out.to BR.out)).mono ?_; rintro e x9 ⟨rfl, z0⟩; have z1 : Below w1.heap.size w1 x9 := chainB BR.out z0))
    all_goals
      go_wp2_with fail
      go_ret
      exact ⟨rfl, chainB B1.out z1⟩
end Go.Proofs.YtnknnfgimiljjaaGreatDoor
/-
  Of two texts: not less is less the other way round, or alike.
-/
namespace Go.Proofs.YtnknnfgimiljjaaGreatDoor
open Go.RowKit
set_option linter.unusedVariables false

theorem bl_not : ∀ (x y : List UInt8), (Op.bytesLess y x || y == x) = !Op.bytesLess x y
  | [], [] => rfl
  | [], b :: y => by simp [Op.bytesLess]
  | a :: x, [] => by simp [Op.bytesLess]
  | a :: x, b :: y => by
    have ih := bl_not x y
    simp only [Op.bytesLess]
    by_cases h1 : a < b
    · have h2 : ¬ b < a := UInt8.lt_asymm h1
      have h3 : ¬ b = a := fun h => by subst h; exact UInt8.lt_irrefl _ h1
      simp [h1, h2, h3]
    · by_cases h2 : b < a
      · have h3 : ¬ a = b := fun h => by subst h; exact UInt8.lt_irrefl _ h2
        simp [h1, h2, h3]
      · have h3 : a = b := UInt8.le_antisymm (UInt8.not_lt.1 h2) (UInt8.not_lt.1 h1)
        subst h3
        simpa [h1] using ih
end Go.Proofs.YtnknnfgimiljjaaGreatDoor
/-
  One operation of a drawing region taken by hand: wanted or not, a call that stands alone.
-/
namespace Go.Proofs.YtnknnfgimiljjaaGreatDoor
open Go.RowKit Go.Lib
set_option linter.unusedVariables false

theorem take_at {P : Program} {md : Region.Mode} {ops : Array Oper} {Q : Exit → Act → World → Prop} {S : World → Prop} (i : Nat) {oi : Oper} {v : Value} {fuel : Nat} {listed : Array Bool} {a : Act} {w : World} (hi : ops.toList[i]? = some oi)
    (hs : Region.noSelect ops = true) (hf : Region.free md ops listed i = true) (hr : (Region.ready md ops listed).contains i = true)
    (hQ : ∀ c a w, Q (.panic c) (a.put oi.dst v) w → Q (.panic c) a w) (hS : S w) (hy : YieldsIf P ops S oi v a)
    (h : wpAnyH P md ops Q S fuel (listed.setIfInBounds i true) (a.put oi.dst v) w) : wpAnyH P md ops Q S (fuel + 1) listed a w :=
  wpAnyH_take (by rw [← hi]; simp) hs hf hr hQ hy hS h
theorem ready_at {P : Program} {md : Region.Mode} {ops : Array Oper} {Q : Exit → Act → World → Prop} {S : World → Prop} (i : Nat) {o : Oper} {fuel : Nat} {listed : Array Bool} {a : Act} {w : World} (hi : ops.toList[i]? = some o) (hr : Region.ready md ops listed = [i])
    (h : ∀ K' : Act → World → Prop, Shut (∀ a w, S w → (S w → wpAnyH P md ops Q S fuel (listed.setIfInBounds i true) a w) → K' a w) → if Region.wanted o (yielded ops a.tmps) = true then Oper.wp P o a w K' Q else K' (a.put o.dst undef) w) : wpAnyH P md ops Q S (fuel + 1) listed a w :=
  wpAnyH_ready hr (by simp) (AllReadyH.cons (by rw [← hi]; simp) h AllReadyH.nil)
end Go.Proofs.YtnknnfgimiljjaaGreatDoor
