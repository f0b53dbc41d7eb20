/-
  Parts of one proof, laid as one text: LtMath, LaMath, LfMath, FldF; what each says stands at its head.
-/
import Derived.Test.YtnjegmffjelnpaaGreatDoorRows
import Derived.Test.YtnjegmffjelnpaaGreatDoorBytesDigMathTurnIWholeR
import Derived.Test.YtnjegmffjelnpaaGreatDoorSlABxKSlBOwnSSgnBOwnBPadI
import Derived.Test.YtnjegmffjelnpaaGreatDoorTimeBPutTextFldMathFldRiseScanMath
import Derived.Test.YtnjegmffjelnpaaGreatDoorLgMathLgAtKLgAnsLgRtTakesFldIsFldC
import Derived.Test.YtnjegmffjelnpaaGreatDoorRwBlkLawFRLawSGLawLgLawLhLawLzLawLmSgnLg
import Derived.Test.YtnjegmffjelnpaaGreatDoorDrawRowRowOpsLgO
import Derived.Handy
import Derived.OwnWalk
import Derived.Test.YtnjegmffjelnpaaGreatDoorShwKImplFT
import Derived.WalkSpells
import Derived.Deep.Cut
import Derived.Test.YtnjegmffjelnpaaGreatDoorLogRIImplRtLawSLawMLawMGFldGOneKFldBlkLawFLawFM
import Derived.Test.YtnjegmffjelnpaaGreatDoorGetValGetTxtNumMathFldRdNumFromTmbMath
import Derived.Test.YtnjegmffjelnpaaGreatDoorFldR
import Derived.Test.YtnjegmffjelnpaaGreatDoorLwSigDrawFldFldOMFldO
import Derived.Deep.AppendLies
/-
  A LogOut in new memory; what LogTime answers (plain).
-/
namespace Go.Proofs.YtnjegmffjelnpaaGreatDoor
open Go.RowKit Go.Lib
set_option linter.unusedVariables false
set_option maxRecDepth 20000

/-- A LogOut of its own memory. -/
def LgA (base : Nat) (rs : List Rw) (lv : List ByteArray) (now C : Int) (e : Ending) (w : World) : Prop := ∃ v1 v2 xs, e = .returned (.agg #[v1, v2, .int .i64 now, .int .i64 C]) ∧ xs.map (·.1) = rs ∧ LgO base xs lv v1 v2 w
theorem LgA.ill (base : Nat) (C : Int) (w : World) : LgA base [] [] 0 C (.returned (.agg #[.slice none 0 0, .slice none 0 0, .int .i64 0, .int .i64 C])) w := ⟨_, _, [], rfl, rfl, LgO.nil _ _⟩
def mxB (a b : Int) : Int := if a < b then b else a
def ltB (rs : List Rw) (lv : List ByteArray) (now t : Int) : Bool := lgB rs lv now && timeB t
def ltC (rs : List Rw) (lv : List ByteArray) (now t : Int) : Int := if ltB rs lv now t = true then 0 else 1
def ltmR (rs : List Rw) (lv : List ByteArray) (now t : Int) : List Rw := if ltB rs lv now t = true then rs else []
def ltL (rs : List Rw) (lv : List ByteArray) (now t : Int) : List ByteArray := if ltB rs lv now t = true then lv else []
def ltN (rs : List Rw) (lv : List ByteArray) (now t : Int) : Int := if ltB rs lv now t = true then mxB now t else 0
/-- The log's box and the answer's, as LogTime begins. -/
structure LtB (w : World) (q : Option Addr) (n cq : Nat) (p : Option Addr) (m cp : Nat) (now : Int) (x : World) : Prop where
  lg : Bxs x w.heap.size 26 #[.slice q n cq, .slice p m cp, .int .i64 now]
  rs : Bxs x (w.heap.size + 1) 61 #[.slice none 0 0, .slice none 0 0, .int .i64 0, .int .i64 0]
  bel : Below w.heap.size w x
theorem LtB.below {w x y : World} {q : Option Addr} {n cq : Nat} {p : Option Addr} {m cp : Nat} {now : Int} (h : LtB w q n cq p m cp now x) (hb : Below x.heap.size x y) : LtB w q n cq p m cp now y := ⟨h.lg.below hb, h.rs.below hb, chainB h.bel hb⟩
theorem LtB.thr {w x : World} {q : Option Addr} {n cq : Nat} {p : Option Addr} {m cp : Nat} {now : Int} (h : LtB w q n cq p m cp now x) : x.cell? ⟨w.heap.size, 0, none⟩ = some (.slice q n cq) ∧ x.cell? ⟨w.heap.size, 1, none⟩ = some (.slice p m cp) ∧ x.cell? ⟨w.heap.size, 2, none⟩ = some (.int .i64 now) := ⟨h.lg.cell 0, h.lg.cell 1, h.lg.cell 2⟩
theorem LtB.res {w x : World} {q : Option Addr} {n cq : Nat} {p : Option Addr} {m cp : Nat} {now : Int} (h : LtB w q n cq p m cp now x) : x.cell? ⟨w.heap.size + 1, 0, none⟩ = some (.slice none 0 0) ∧ x.cell? ⟨w.heap.size + 1, 1, none⟩ = some (.slice none 0 0) ∧ x.cell? ⟨w.heap.size + 1, 2, none⟩ = some (.int .i64 0) ∧ x.cell? ⟨w.heap.size + 1, 3, none⟩ = some (.int .i64 0) ∧ x.frozen? ⟨w.heap.size + 1, 0, none⟩ = false ∧ x.frozen? ⟨w.heap.size + 1, 1, none⟩ = false ∧ x.frozen? ⟨w.heap.size + 1, 2, none⟩ = false ∧ x.frozen? ⟨w.heap.size + 1, 3, none⟩ = false := ⟨h.rs.cell 0, h.rs.cell 1, h.rs.cell 2, h.rs.cell 3, h.rs.fr 0, h.rs.fr 1, h.rs.fr 2, h.rs.fr 3⟩
/-- The answer is written into its box: what a log of its own is stays one. -/
theorem LtB.put {w x y : World} {base : Nat} {q : Option Addr} {n cq : Nat} {p : Option Addr} {m cp : Nat} {now : Int} (h : Bxs x (w.heap.size + 1) 61 #[.slice none 0 0, .slice none 0 0, .int .i64 0, .int .i64 0]) (hb : Below w.heap.size w x) {xs : List (Rw × Value)} {lv : List ByteArray} {v1 v2 : Value} (o : LgO base xs lv v1 v2 x) (u0 u1 u2 u3 : Value) :
    Bxs ((((x.setCell ⟨w.heap.size + 1, 0, none⟩ u0).setCell ⟨w.heap.size + 1, 1, none⟩ u1).setCell ⟨w.heap.size + 1, 2, none⟩ u2).setCell ⟨w.heap.size + 1, 3, none⟩ u3) (w.heap.size + 1) 61 #[u0, u1, u2, u3] ∧ LgO base xs lv v1 v2 ((((x.setCell ⟨w.heap.size + 1, 0, none⟩ u0).setCell ⟨w.heap.size + 1, 1, none⟩ u1).setCell ⟨w.heap.size + 1, 2, none⟩ u2).setCell ⟨w.heap.size + 1, 3, none⟩ u3) ∧ Below w.heap.size w ((((x.setCell ⟨w.heap.size + 1, 0, none⟩ u0).setCell ⟨w.heap.size + 1, 1, none⟩ u1).setCell ⟨w.heap.size + 1, 2, none⟩ u2).setCell ⟨w.heap.size + 1, 3, none⟩ u3) :=
  ⟨(((h.set 0 _).set 1 _).set 2 _).set 3 _, (((o.box h (by decide) (by decide) (by decide) (set_grw x _ 0 u0)).box (h.set 0 u0) (by decide) (by decide) (by decide) (set_grw _ _ 1 u1)).box ((h.set 0 u0).set 1 u1) (by decide) (by decide) (by decide) (set_grw _ _ 2 u2)).box (((h.set 0 u0).set 1 u1).set 2 u2) (by decide) (by decide) (by decide) (set_grw _ _ 3 u3), below_set4 hb (by omega) _ _ _ _⟩
theorem lt_boxes (w : World) (q : Option Addr) (n cq : Nat) (p : Option Addr) (m cp : Nat) (now : Int) {W2 : World} (h : W2 = (w.alloc (.cells #[.slice q n cq, .slice p m cp, .int .i64 now] 26)).alloc (.cells #[.slice none 0 0, .slice none 0 0, .int .i64 0, .int .i64 0] 61)) : LtB w q n cq p m cp now W2 := by
  subst h
  have h := Bxs.new (w.alloc (.cells #[.slice q n cq, .slice p m cp, .int .i64 now] 26)) 61 #[.slice none 0 0, .slice none 0 0, .int .i64 0, .int .i64 0]
  rw [szA] at h
  exact ⟨(Bxs.new _ _ _).alloc _, h, alB ((Below.refl _ _).alloc (Nat.le_refl _) _) _⟩
end Go.Proofs.YtnjegmffjelnpaaGreatDoor
/-
  What LogAdd answers (plain); a leaf more in a log of its own; is a row fresh.
-/
namespace Go.Proofs.YtnjegmffjelnpaaGreatDoor
open Go.RowKit Go.Lib
set_option linter.unusedVariables false
set_option maxRecDepth 20000

/-- Nothing of it is gone. -/
def frsB (fs : List Fld) : Bool := fs.all fun f => !f.g
theorem frs_true {fs : List Fld} (h : ∀ j (h : j < fs.length), fs[j].g = false) : frsB fs = true := by
  unfold frsB
  rw [List.all_eq_true]
  intro x hx
  obtain ⟨j, hj, rfl⟩ := List.getElem_of_mem hx
  rw [h j hj]; rfl
theorem frs_false {fs : List Fld} {k : Nat} (hk : k < fs.length) (h : fs[k].g = true) : frsB fs = false := by
  unfold frsB
  rw [List.all_eq_false]
  exact ⟨_, List.getElem_mem hk, by rw [h]; simp⟩
def laK (rs : List Rw) (lv : List ByteArray) (now : Int) (r : Rw) : Bool := lgB rs lv now && (rwB r.k r.a r.fs && (frsB r.fs && (r.a == now)))
def laC (rs : List Rw) (lv : List ByteArray) (now : Int) (r : Rw) : Int := if laK rs lv now r = true then (if rs.length = 6 then 9 else 0) else 1
def laR (rs : List Rw) (lv : List ByteArray) (now : Int) (r : Rw) : List Rw := if laC rs lv now r = 0 then rs ++ [r] else []
def laL (rs : List Rw) (lv : List ByteArray) (now : Int) (r : Rw) : List ByteArray := if laC rs lv now r = 0 then lv ++ [lfB r.k r.a r.fs] else []
def laN (rs : List Rw) (lv : List ByteArray) (now : Int) (r : Rw) : Int := if laC rs lv now r = 0 then now else 0
theorem la_bad {rs : List Rw} {lv : List ByteArray} {now : Int} {r : Rw} {C : Int} (h : laC rs lv now r = C) (hC : C ≠ 0) : laR rs lv now r = [] ∧ laL rs lv now r = [] ∧ laN rs lv now r = 0 := by
  unfold laR laL laN
  rw [h]
  exact ⟨if_neg hC, if_neg hC, if_neg hC⟩
theorem la_good {rs : List Rw} {lv : List ByteArray} {now : Int} {r : Rw} (h : laC rs lv now r = 0) : laR rs lv now r = rs ++ [r] ∧ laL rs lv now r = lv ++ [lfB r.k r.a r.fs] ∧ laN rs lv now r = now := by
  unfold laR laL laN
  rw [h]
  exact ⟨if_pos rfl, if_pos rfl, if_pos rfl⟩
/-- One more leaf. -/
theorem LgC.leaf {W : World} {E : Nat} {xs : List (Rw × Value)} {lv : List ByteArray} {now : Int} {v1 v2 : Value} {x : World} (h : LgC W E xs lv now v1 v2 x) (t : ByteArray) (hl : lv.length + 1 ≤ 1048576) :
    ∃ g c y, (Builtin.append_ #[24, 24] 24 #[v2, .slice (some ⟨x.heap.size, 0, none⟩) 1 1]).run Tryz.prog (x.alloc (.cells #[.string t] 9)) = .ok (.slice (some ⟨g, 0, none⟩) (lv.length + 1) c) y ∧ LgC W E xs (lv ++ [t]) now v1 (.slice (some ⟨g, 0, none⟩) (lv.length + 1) c) (y.setCell ⟨E, 1, none⟩ (.slice (some ⟨g, 0, none⟩) (lv.length + 1) c)) ∧ Below W.heap.size W y ∧ y.cell? ⟨E, 1, none⟩ = some v2 ∧ y.frozen? ⟨E, 1, none⟩ = false ∧ (x.alloc (.cells #[.string t] 9)).grownBy y v2.ownBlock := by
  have hal := (Below.refl x.heap.size x).alloc (Nat.le_refl _) (.cells #[.string t] 9)
  have H := h.below hal
  obtain ⟨g, c, y, h1, h2, h3, h4⟩ := app_str x W.heap.size v2 lv h.lg.lvs t hl h.bel.size
  have kb : Bxs y E 26 #[v1, v2, .int .i64 now] := H.box.grown h3 (fun e => own_box H.lg.lvs H.box (by decide) e.symm)
  have hr : RwsO W.heap.size xs v1 y := H.lg.rws.kept h3 (own_apart H.lg.rws.own H.lg.lvs (by decide)) (fun z hz => own_apart (H.lg.rws.fld z hz) H.lg.lvs (by decide))
  have hby : Below W.heap.size W y := H.bel.grown h3 H.bel.size (fun j hj => (H.lg.lvs.lt j hj).1)
  have ho : LgO W.heap.size xs (lv ++ [t]) v1 (.slice (some ⟨g, 0, none⟩) (lv.length + 1) c) y := ⟨hr, by simpa using h2⟩
  exact ⟨g, c, y, h1, ⟨kb.set 1 _, ho.box kb (by decide) (by decide) (by decide) (set_grw y E 1 _), h.eb, below_cel hby h.eb 1 _⟩, hby, kb.cell 1, kb.fr 1, h3⟩
set_option maxHeartbeats 1000000 in
theorem l09Fresh_any (k : ByteArray) (a : Int) (q : Option Addr) (c : Nat) (fs : List Fld) (w : World) (hf : FldAt w q fs) (hn : fs.length ≤ 1048576) (hc : fs.length ≤ c) :
    Calls Tryz.prog 72 #[.agg #[.string k, .int .i64 a, .slice q fs.length c]] w fun e w' => e = .returned (.bool (frsB fs)) ∧ Below w.heap.size w w' := by
  obtain ⟨W1, hW1⟩ : ∃ W1, W1 = w.alloc (.cells #[.string k, .int .i64 a, .slice q fs.length c] 65) := ⟨_, rfl⟩
  have HW1 : Hid (W1 = w.alloc (.cells #[.string k, .int .i64 a, .slice q fs.length c] 65)) := hW1
  have B1 : Hid (Below w.heap.size w W1) := by rw [hW1]; exact (Below.refl _ _).alloc (Nat.le_refl _) _
  have K1 : Bxs W1 w.heap.size 65 #[.string k, .int .i64 a, .slice q fs.length c] := by rw [hW1]; exact Bxs.new _ _ _
  have t2 : W1.cell? ⟨w.heap.size, 2, none⟩ = some (.slice q fs.length c) := K1.cell 2
  have HF : Hid (FldAt W1 q fs) := hf.below B1.out
  clear hW1 K1 hf
  go_enter Tryz.func72, Tryz.ntmps72
  go_upto_region 1 with fail
  rw [← HW1.out]
  go_wp2_with fail
  go_loop [3] (fun i => ∃ k : Nat, k ≤ fs.length ∧ i = .int .i64 k ∧ Hid (∀ j (h : j < fs.length), j < k → fs[j].g = false)) (fun i => fs.length - (Go.RowKit.intOf i).toNat)
  case atStart => exact ⟨0, Nat.zero_le _, rfl, fun j h hk => by omega⟩
  case round =>
    obtain ⟨k, hk, rfl, HK⟩ := hrel
    by_cases hlt : k < fs.length
    · have i1 : (k : Int) < fs.length := by omega
      obtain ⟨b, off, rfl, hb, c0, c1, c2, c3, c4⟩ := HF.out k hlt
      cases hg : fs[k].g with
      | true =>
        have HR : Hid (frsB fs = false) := frs_false hlt hg
        rw [hg] at c4
        go_wp2_with fail
        go_ret
        exact ⟨ret_bool (by rw [HR.out]), B1.out⟩
      | false =>
        rw [hg] at c4
        have HK2 : Hid (∀ j (h : j < fs.length), j < k + 1 → fs[j].g = false) := fun j h hj => if he : j = k then by subst he; exact hg else HK.out j h (by omega)
        clear hg
        go_wp2_with fail
        go_round
        case rel => exact ⟨k + 1, by omega, by go_num, HK2⟩
        case measure => simp [Go.RowKit.intOf]; omega
    · obtain rfl : k = fs.length := by omega
      have HR : Hid (frsB fs = true) := frs_true (fun j h => HK.out j h h)
      go_wp2_with fail
      go_ret
      exact ⟨ret_bool (by rw [HR.out]), B1.out⟩
end Go.Proofs.YtnjegmffjelnpaaGreatDoor
/-
  What LogForget answers (plain); a row of a log of its own is written.
-/
namespace Go.Proofs.YtnjegmffjelnpaaGreatDoor
open Go.RowKit Go.Lib
set_option linter.unusedVariables false
set_option maxRecDepth 20000

/-- The row with that field forgotten. -/
def fgt (rs : List Rw) (r f : Int) : Rw := ⟨(rs.getD r.toNat rwZ).k, (rs.getD r.toNat rwZ).a, (rs.getD r.toNat rwZ).fs.set f.toNat (goneF ((rs.getD r.toNat rwZ).fs.getD f.toNat fldD))⟩
def lfC (rs : List Rw) (lv : List ByteArray) (now r f y : Int) : Int := if (lgB rs lv now && decide (1 ≤ y ∧ y ≤ 2)) = true then fcO rs r f else 1
def lfR (rs : List Rw) (lv : List ByteArray) (now r f y : Int) : List Rw := if lfC rs lv now r f y = 0 then rs.set r.toNat (fgt rs r f) else []
def lfL (rs : List Rw) (lv : List ByteArray) (now r f y : Int) : List ByteArray := if lfC rs lv now r f y = 0 then lv ++ [tmRaw ⟨r, f, y, now⟩] else []
def lfN (rs : List Rw) (lv : List ByteArray) (now r f y : Int) : Int := if lfC rs lv now r f y = 0 then now else 0
theorem lf_bad {rs : List Rw} {lv : List ByteArray} {now r f y C : Int} (h : lfC rs lv now r f y = C) (hC : C ≠ 0) : lfR rs lv now r f y = [] ∧ lfL rs lv now r f y = [] ∧ lfN rs lv now r f y = 0 := by
  unfold lfR lfL lfN
  rw [h]
  exact ⟨if_neg hC, if_neg hC, if_neg hC⟩
theorem lf_good {rs : List Rw} {lv : List ByteArray} {now r f y : Int} (h : lfC rs lv now r f y = 0) : lfR rs lv now r f y = rs.set r.toNat (fgt rs r f) ∧ lfL rs lv now r f y = lv ++ [tmRaw ⟨r, f, y, now⟩] ∧ lfN rs lv now r f y = now := by
  unfold lfR lfL lfN
  rw [h]
  exact ⟨if_pos rfl, if_pos rfl, if_pos rfl⟩
theorem getD_row {rs : List Rw} {I : Nat} (hI : I < rs.length) : rs.getD (I : Int).toNat rwZ = rs[I] := by
  rw [Int.toNat_natCast, List.getD_eq_getElem?_getD, List.getElem?_eq_getElem hI]; rfl
theorem fc_zero {rs : List Rw} {r f : Int} (h : fcO rs r f = 0) : ∃ (I J : Nat) (hI : I < rs.length) (hJ : J < rs[I].fs.length), r = I ∧ f = J ∧ rs[I].fs[J].g = false := by
  unfold fcO at h
  by_cases h1 : 0 ≤ r ∧ r ≤ (rs.length : Int) - 1
  · rw [if_pos h1] at h
    obtain ⟨I, rfl⟩ := Int.eq_ofNat_of_zero_le h1.1
    have hI : I < rs.length := by omega
    by_cases h2 : 0 ≤ f ∧ f ≤ ((rs.getD (I : Int).toNat rwZ).fs.length : Int) - 1
    · rw [if_pos h2] at h
      rw [getD_row hI] at h2
      obtain ⟨J, rfl⟩ := Int.eq_ofNat_of_zero_le h2.1
      have hJ : J < rs[I].fs.length := by omega
      refine ⟨I, J, hI, hJ, rfl, rfl, ?_⟩
      have e2 : fldOf rs I J = rs[I].fs[J] := by
        unfold fldOf
        rw [getD_row hI, Int.toNat_natCast, List.getD_eq_getElem?_getD, List.getElem?_eq_getElem hJ]; rfl
      rw [e2] at h
      cases hg : rs[I].fs[J].g with
      | false => rfl
      | true => rw [hg] at h; simp at h
    · rw [if_neg h2] at h; omega
  · rw [if_neg h1] at h; omega
theorem fgt_eq {rs : List Rw} {I J : Nat} (hI : I < rs.length) (hJ : J < rs[I].fs.length) : fgt rs I J = ⟨rs[I].k, rs[I].a, rs[I].fs.set J (goneF rs[I].fs[J])⟩ := by
  unfold fgt
  rw [getD_row hI, Int.toNat_natCast, List.getD_eq_getElem?_getD, List.getElem?_eq_getElem hJ]; rfl
theorem forget_post {k : ByteArray} {a : Int} {fs : List Fld} {J : Nat} (hr : rwB k a fs = true) (hJ : J < fs.length) (hg : fs[J].g = false) : fgC k a fs J = 0 ∧ fgK k a fs J = k ∧ fgA k a fs J = a ∧ fgF k a fs J = fs.set J (goneF fs[J]) := by
  have e : fs.getD (J : Int).toNat fldD = fs[J] := by rw [Int.toNat_natCast, List.getD_eq_getElem?_getD, List.getElem?_eq_getElem hJ]; rfl
  have hC : fgC k a fs J = 0 := by
    unfold fgC
    rw [if_pos hr, if_pos (by omega), e, hg]; rfl
  refine ⟨hC, ?_, ?_, ?_⟩
  · unfold fgK; rw [hC]; rfl
  · unfold fgA; rw [hC]; rfl
  · unfold fgF; rw [hC, e, Int.toNat_natCast]; rfl
theorem lg_tomb {rs : List Rw} {lv : List ByteArray} {now y : Int} {I J : Nat} (h : lgB rs lv now = true) (hI : I < rs.length) (hJ : J < rs[I].fs.length) (hy : 1 ≤ y ∧ y ≤ 2) : tmB ⟨I, J, y, now⟩ = true := by
  obtain ⟨h1, h2, h3⟩ := lg_right h
  have h4 := (rwB_parts (k := rs[I].k) (at_ := rs[I].a) (fs := rs[I].fs) (h3 _ (List.getElem_mem hI))).2.2.1
  unfold lgB timeB at h
  simp only [Bool.and_eq_true, decide_eq_true_iff] at h
  rw [tmB_iff]
  show ((0 : Int) ≤ I ∧ (I : Int) ≤ 63) ∧ ((0 : Int) ≤ J ∧ (J : Int) ≤ 2) ∧ (1 ≤ y ∧ y ≤ 2) ∧ (0 ≤ now ∧ now ≤ 1000000)
  exact ⟨by omega, by omega, hy, h.2.2.1⟩
theorem own_set3 {w : World} {base b n cc : Nat} {l : List Rc} (h : w.ownsRow base 65 3 (.slice (some ⟨b, 0, none⟩) n cc) n (rcRow l)) (i : Nat) (x : Rc) : (set3 w b (i * 3) x).ownsRow base 65 3 (.slice (some ⟨b, 0, none⟩) n cc) n (rcRow (l.set i x)) := by
  have h1 := (h.stored (i * 3) (.string x.k)).1
  have h2 := (h1.stored (i * 3 + 1) (.int .i64 x.a)).1
  have h3 := (h2.stored (i * 3 + 2) x.v).1
  rw [rcRow_set] at h3
  exact h3
theorem set3_grw (x : World) (g i : Nat) (v : Rc) : x.grownBy (set3 x g i v) (some g) := by
  refine ⟨rfl, rfl, rfl, by simp [set3, World.setCell], fun q hq hne => ?_⟩
  have hq' : g ≠ q := fun e => hne (by rw [e])
  simp [set3, World.setCell, Array.getElem?_modify, hq']
theorem RwsO.some_of {base : Nat} {xs : List (Rw × Value)} {v : Value} {w : World} (h : RwsO base xs v w) (h0 : 0 < xs.length) : ∃ g c, v = .slice (some ⟨g, 0, none⟩) xs.length c := by
  rcases h.own.2 with ⟨h1, h2⟩ | ⟨g, cap, cur, h1, _⟩
  · omega
  · exact ⟨g, cap, h1⟩
theorem set_fst (xs : List (Rw × Value)) (I : Nat) (r : Rw) (v : Value) : (xs.set I (r, v)).map (·.1) = (xs.map (·.1)).set I r := by rw [List.map_set]
section
variable {W x x' : World} {E g c : Nat} {xs : List (Rw × Value)} {lv : List ByteArray} {now : Int} {v2 : Value}
theorem LgC.rowv (h : LgC W E xs lv now (.slice (some ⟨g, 0, none⟩) xs.length c) v2 x) (I : Nat) (hI : I < xs.length) : ∃ q0 c0, xs[I].2 = .slice q0 xs[I].1.fs.length c0 ∧ xs[I].1.fs.length ≤ c0 := by
  obtain ⟨q', c', hq, hcc, hf⟩ := ownF_form (h.lg.rws.fld _ (List.getElem_mem hI))
  exact ⟨q', c', hq, hcc⟩
theorem LgC.row (h : LgC W E xs lv now (.slice (some ⟨g, 0, none⟩) xs.length c) v2 x) (I : Nat) (hI : I < xs.length) {q0 : Option Addr} {c0 : Nat} {X : Rw} (hX : xs[I].1 = X) (hv : xs[I].2 = .slice q0 X.fs.length c0) : (x.cell? ⟨g, I * 3, none⟩ = some (.string X.k) ∧ x.cell? ⟨g, I * 3 + 1, none⟩ = some (.int .i64 X.a) ∧ x.cell? ⟨g, I * 3 + 2, none⟩ = some (.slice q0 X.fs.length c0)) ∧ x.frozen? ⟨g, I * 3, none⟩ = false ∧ x.frozen? ⟨g, I * 3 + 1, none⟩ = false ∧ x.frozen? ⟨g, I * 3 + 2, none⟩ = false ∧ FldAt x q0 X.fs := by
  subst hX
  have own := h.lg.rws.own
  have hl := rcV_len xs
  have hr := rcRow_at (xs.map rcV) I (by simpa using hI)
  rw [← own.cellAt (I * 3) (by omega), ← own.cellAt (I * 3 + 1) (by omega), ← own.cellAt (I * 3 + 2) (by omega)] at hr
  have ev : (xs.map rcV)[I]'(by simpa using hI) = ⟨xs[I].1.k, xs[I].1.a, .slice q0 xs[I].1.fs.length c0⟩ := by rw [List.getElem_map]; unfold rcV; rw [hv]
  rw [ev] at hr
  obtain ⟨q', c', hq, hcc, hf⟩ := ownF_form (h.lg.rws.fld _ (List.getElem_mem hI))
  rw [hv] at hq
  cases hq
  exact ⟨hr, own.frozenAt _, own.frozenAt _, own.frozenAt _, hf⟩
/-- A row of it is written: its fields came later than all that is there. -/
theorem LgC.setRow (h : LgC W E xs lv now (.slice (some ⟨g, 0, none⟩) xs.length c) v2 x) (hx : Below x.heap.size x x') (I : Nat) (hI : I < xs.length) (r : Rw) (q : Option Addr) (d : Nat) (hf : x'.ownsRow x.heap.size 76 5 (.slice q r.fs.length d) r.fs.length (fldRow r.fs)) : LgC W E (xs.set I (r, .slice q r.fs.length d)) lv now (.slice (some ⟨g, 0, none⟩) xs.length c) v2 (set3 x' g (I * 3) ⟨r.k, r.a, .slice q r.fs.length d⟩) := by
  have H := h.below hx
  have hg := (H.lg.rws.own.lt g rfl).1
  have gr := set3_grw x' g (I * 3) ⟨r.k, r.a, .slice q r.fs.length d⟩
  have own2 := own_set3 H.lg.rws.own I ⟨r.k, r.a, .slice q r.fs.length d⟩
  have e0 : (xs.map rcV).set I ⟨r.k, r.a, .slice q r.fs.length d⟩ = (xs.set I (r, .slice q r.fs.length d)).map rcV := by rw [List.map_set]; rfl
  rw [e0] at own2
  have hW := h.bel.size
  have hxz := hx.size
  have old : ∀ z ∈ xs, ∀ j, z.2.ownBlock = some j → j < x.heap.size := fun z hz j hj => ((h.lg.rws.lt.2 z hz) j hj).2
  have new : ∀ j, (Value.slice q r.fs.length d).ownBlock = some j → x.heap.size ≤ j := fun j hj => (hf.lt j hj).1
  refine ⟨set3_other H.box (fun e => own_box H.lg.rws.own H.box (by decide) (by rw [e]; rfl)) _, ⟨⟨by rw [List.length_set]; exact own2, fun z hz => ?_, ?_⟩, H.lg.lvs.kept gr (own_apart H.lg.lvs H.lg.rws.own (by decide))⟩, h.eb, set3_below H.bel hg _ _⟩
  · rcases List.mem_or_eq_of_mem_set hz with hz | rfl
    · exact (H.lg.rws.fld z hz).kept gr (own_apart (H.lg.rws.fld z hz) H.lg.rws.own (by decide))
    · exact (own_low hf hW).kept gr (own_apart hf H.lg.rws.own (by decide))
  · rw [List.pairwise_iff_getElem]
    intro i j hi hj hij
    rw [List.length_set] at hi hj
    have hp := List.pairwise_iff_getElem.1 H.lg.rws.ne i j hi hj hij
    rw [List.getElem_set, List.getElem_set]
    split
    · rename_i h1
      rw [if_neg (by omega)]
      cases hb : (Value.slice q r.fs.length d).ownBlock with
      | none => exact .inl rfl
      | some b =>
        refine .inr (fun e => ?_)
        have := new b hb
        have := old _ (List.getElem_mem hj) b e.symm
        omega
    · split
      · rename_i h1 h2
        cases hb : (xs[i]).2.ownBlock with
        | none => exact .inl rfl
        | some b =>
          refine .inr (fun e => ?_)
          have := old _ (List.getElem_mem hi) b hb
          have := new b e.symm
          omega
      · exact hp
end
end Go.Proofs.YtnjegmffjelnpaaGreatDoor
/-
  What the specification's l07Copy and Forget answer.
  Conditions: the cells of Fields hold the fields.
-/
namespace Go.Proofs.YtnjegmffjelnpaaGreatDoor
open Go.RowKit Go.Lib
set_option linter.unusedVariables false
set_option maxRecDepth 20000

theorem copy_flds (w : World) (g : Nat) (hg : w.heap[g]? = some (.cells #[] 76 (0, 0))) (p : Option Addr) (cap : Nat) (fs : List Fld) (hp : FldAt w p fs) (h0 : 0 < fs.length) (hn : fs.length ≤ 1000) :
    ∃ b c w', (Builtin.append_ #[63, 63] 63 #[.slice (some ⟨g, 0, none⟩) 0 0, .slice p fs.length cap]).run Tryz.prog w = .ok (.slice (some ⟨b, 0, none⟩) fs.length c) w' ∧ w'.ownsRow w.heap.size 76 5 (.slice (some ⟨b, 0, none⟩) fs.length c) fs.length (fldRow fs) ∧ Below w.heap.size w w' ∧ fs.length ≤ c := by
  obtain ⟨i0, hi, hz0, hz1, hz2⟩ := info_parts infoFld
  obtain ⟨b, off, rfl, hb, _⟩ := hp 0 h0
  obtain ⟨v', w', h1, h2, h3⟩ := run_append_arg_grows (P := Tryz.prog) w 63 63 76 i0 _ 5 72 Tryz.underlying63 hi hz0 hz1 hz2 rfl (by omega) ⟨g, 0, none⟩ 0 0 [] rfl (fun j u hu => by simp at hu) ⟨b, off, none⟩ fs.length cap (fldRow fs) (fldRow_len fs) (fun j u hu => by
    have hj : j < fs.length * 5 := by
      rcases Nat.lt_or_ge j (fs.length * 5) with q | q
      · exact q
      · rw [List.getElem?_eq_none (by rw [fldRow_len]; exact q)] at hu; cases hu
    have hadd : (⟨b, off, none⟩ : Addr).add j = ⟨b, off + j, none⟩ := by unfold Addr.add; split <;> simp_all
    have hc := hp.at (j / 5) (by omega)
    have hr := fldRow_at fs (j / 5) (by omega)
    rw [hadd]
    obtain ⟨c0, c1, c2, c3, c4⟩ := hc
    obtain ⟨r0, r1, r2, r3, r4⟩ := hr
    rw [Nat.add_assoc] at c1 c2 c3 c4
    have hm : j % 5 < 5 := Nat.mod_lt _ (by omega)
    have hd : j = j / 5 * 5 + j % 5 := by omega
    match hq : j % 5, hm with
    | 0, _ => rw [hq, Nat.add_zero] at hd; rw [← hd] at c0 r0; rw [c0, ← hu, r0]
    | 1, _ => rw [hq] at hd; rw [← hd] at c1 r1; rw [c1, ← hu, r1]
    | 2, _ => rw [hq] at hd; rw [← hd] at c2 r2; rw [c2, ← hu, r2]
    | 3, _ => rw [hq] at hd; rw [← hd] at c3 r3; rw [c3, ← hu, r3]
    | 4, _ => rw [hq] at hd; rw [← hd] at c4 r4; rw [c4, ← hu, r4]) (by omega) (by unfold maxLen; omega) (by omega)
  rw [Nat.zero_add, List.nil_append] at h2
  have h2' := h2
  rcases h2'.2 with ⟨hv, hn0⟩ | ⟨b', c', cur, rfl, hb1, hb2, hb3, -⟩
  · omega
  · exact ⟨_, _, w', h1, h2, below_none h3, hb3⟩
set_option maxHeartbeats 1000000 in
theorem l07Copy_any (k : ByteArray) (at_ : Int) (q : Option Addr) (c : Nat) (fs : List Fld) (w : World) (hf : FldAt w q fs) (h0 : 0 < fs.length) (hn : fs.length ≤ 1000) :
    Calls Tryz.prog 75 #[.agg #[.string k, .int .i64 at_, .slice q fs.length c]] w fun e w' => ∃ b cc, e = .returned (.agg #[.string k, .int .i64 at_, .slice (some ⟨b, 0, none⟩) fs.length cc]) ∧ w'.ownsRow w.heap.size 76 5 (.slice (some ⟨b, 0, none⟩) fs.length cc) fs.length (fldRow fs) ∧ Below w.heap.size w w' := by
  obtain ⟨W2, hW2⟩ : ∃ W2, W2 = (w.alloc (.cells #[.string k, .int .i64 at_, .slice q fs.length c] 65)).alloc (.cells #[.string ⟨#[]⟩, .int .i64 0, .slice none 0 0] 65) := ⟨_, rfl⟩
  have HW2 : Hid (W2 = (w.alloc (.cells #[.string k, .int .i64 at_, .slice q fs.length c] 65)).alloc (.cells #[.string ⟨#[]⟩, .int .i64 0, .slice none 0 0] 65)) := hW2
  have hs1 : (w.alloc (.cells #[.string k, .int .i64 at_, .slice q fs.length c] 65)).heap.size = w.heap.size + 1 := by simp
  have hs2 : W2.heap.size = w.heap.size + 2 := by rw [hW2]; simp
  have K0 : Bxs W2 w.heap.size 65 #[.string k, .int .i64 at_, .slice q fs.length c] := by rw [hW2]; exact (Bxs.new _ _ _).alloc _
  have K1 : Bxs W2 (w.heap.size + 1) 65 #[.string ByteArray.empty, .int .i64 0, .slice none 0 0] := by rw [hW2, ← hs1]; exact Bxs.new _ _ _
  have B2 : Below w.heap.size w W2 := by rw [hW2]; exact ((Below.refl _ _).alloc (Nat.le_refl _) _).alloc (by rw [hs1]; omega) _
  have B3 : Below W2.heap.size W2 (W2.alloc (.cells #[] 76)) := (Below.refl _ _).alloc (Nat.le_refl _) _
  obtain ⟨b, cc, y, hrun, hown, hbel, hcc⟩ := copy_flds (W2.alloc (.cells #[] 76)) W2.heap.size (MapKept.heap_alloc W2 _).1 q c fs (hf.below (chainB B2 B3)) h0 hn
  have Ky0 := K0.below (chainB B3 hbel)
  have Ky1 := K1.below (chainB B3 hbel)
  have HE : Hid (∀ x0 x1 x2 x3 : Value, ((((y.setCell ⟨w.heap.size, 2, none⟩ x3).setCell ⟨w.heap.size + 1, 0, none⟩ x0).setCell ⟨w.heap.size + 1, 1, none⟩ x1).setCell ⟨w.heap.size + 1, 2, none⟩ x2).ownsRow w.heap.size 76 5 (.slice (some ⟨b, 0, none⟩) fs.length cc) fs.length (fldRow fs) ∧ Below w.heap.size w ((((y.setCell ⟨w.heap.size, 2, none⟩ x3).setCell ⟨w.heap.size + 1, 0, none⟩ x0).setCell ⟨w.heap.size + 1, 1, none⟩ x1).setCell ⟨w.heap.size + 1, 2, none⟩ x2)) := by
    intro x0 x1 x2 x3
    have n0 := ownF_ne hown Ky0 (by decide)
    have n1 := ownF_ne hown Ky1 (by decide)
    refine ⟨ownS_mono (ownsRow_setCell_other (ownsRow_setCell_other (ownsRow_setCell_other (ownsRow_setCell_other hown n0 _) n1 _) n1 _) n1 _) (by rw [szA]; omega), below_set3 ((chainB B2 (chainB B3 hbel)).setCell (Nat.le_refl _) _) (by omega) _ _ _⟩
  have u2 : (W2.alloc (.cells #[] 76)).cell? ⟨w.heap.size, 2, none⟩ = some (.slice q fs.length c) := (K0.alloc _).cell 2
  obtain ⟨x0, x1, x2⟩ : y.cell? ⟨w.heap.size, 0, none⟩ = some (.string k) ∧ y.cell? ⟨w.heap.size, 1, none⟩ = some (.int .i64 at_) ∧ y.cell? ⟨w.heap.size, 2, none⟩ = some (.slice q fs.length c) := ⟨Ky0.cell 0, Ky0.cell 1, Ky0.cell 2⟩
  obtain ⟨y0, y1, y2⟩ : y.cell? ⟨w.heap.size + 1, 0, none⟩ = some (.string ByteArray.empty) ∧ y.cell? ⟨w.heap.size + 1, 1, none⟩ = some (.int .i64 0) ∧ y.cell? ⟨w.heap.size + 1, 2, none⟩ = some (.slice none 0 0) := ⟨Ky1.cell 0, Ky1.cell 1, Ky1.cell 2⟩
  have f2 := Ky0.fr 2
  have g0 := Ky1.fr 0
  have g1 := Ky1.fr 1
  have g2 := Ky1.fr 2
  clear hown hbel B2 B3 K0 K1 Ky0 Ky1 hf hW2 hs1 hs2
  go_enter Tryz.func75, Tryz.ntmps75
  go_upto_region 1 with fail
  rw [← HW2.out]
  go_wp2_with (at_builtin; refine wpList_append_run rfl _ _ _ rfl _ _ _ _ rfl rfl hrun ?_)
  refine bodyPost_ret (v := .agg #[.string k, .int .i64 at_, .slice (some ⟨b, 0, none⟩) fs.length cc]) (by simp [results, Tryz.results75, go_sem, y0, y1, y2]) rfl ?_
  exact ⟨_, _, rfl, HE.out _ _ _ _⟩
set_option maxHeartbeats 4000000 in
theorem specForget_any (k : ByteArray) (at_ : Int) (q : Option Addr) (c : Nat) (fs : List Fld) (ix : Int) (w : World) (hf : FldAt w q fs) (hn : fs.length ≤ 1048576) (hc : fs.length ≤ c) (hk : k.size ≤ maxLen) (hz : FldsLe fs) :
    Calls Tryz.prog 86 #[.agg #[.string k, .int .i64 at_, .slice q fs.length c], .int .i64 ix] w fun e w' => ∃ v, e = .returned (.agg #[.string (fgK k at_ fs ix), .int .i64 (fgA k at_ fs ix), v, .int .i64 (fgC k at_ fs ix)]) ∧ w'.ownsRow w.heap.size 76 5 v (fgF k at_ fs ix).length (fldRow (fgF k at_ fs ix)) ∧ Below w.heap.size w w' := by
  obtain ⟨W2, hW2⟩ : ∃ W2, W2 = (w.alloc (.cells #[.string k, .int .i64 at_, .slice q fs.length c] 65)).alloc (.cells #[.string ⟨#[]⟩, .int .i64 0, .slice none 0 0, .int .i64 0] 104) := ⟨_, rfl⟩
  have HW2 : Hid (W2 = (w.alloc (.cells #[.string k, .int .i64 at_, .slice q fs.length c] 65)).alloc (.cells #[.string ⟨#[]⟩, .int .i64 0, .slice none 0 0, .int .i64 0] 104)) := hW2
  have hs1 : (w.alloc (.cells #[.string k, .int .i64 at_, .slice q fs.length c] 65)).heap.size = w.heap.size + 1 := by simp
  have HS2 : Hid (W2.heap.size = w.heap.size + 2) := by rw [hW2]; show _ = _; simp
  have K0 : Hid (Bxs W2 w.heap.size 65 #[.string k, .int .i64 at_, .slice q fs.length c]) := by rw [hW2]; exact (Bxs.new _ _ _).alloc _
  have K1 : Hid (Bxs W2 (w.heap.size + 1) 104 #[.string ByteArray.empty, .int .i64 0, .slice none 0 0, .int .i64 0]) := by rw [hW2, ← hs1]; exact Bxs.new _ _ _
  have B2 : Hid (Below w.heap.size w W2) := by rw [hW2]; exact ((Below.refl _ _).alloc (Nat.le_refl _) _).alloc (by rw [hs1]; omega) _
  have HT : Hid (FldAt W2 q fs) := hf.below B2.out
  have HX : Hid (∀ x, Below W2.heap.size W2 x → x.cell? ⟨w.heap.size, 0, none⟩ = some (.string k) ∧ x.cell? ⟨w.heap.size, 1, none⟩ = some (.int .i64 at_) ∧ x.cell? ⟨w.heap.size, 2, none⟩ = some (.slice q fs.length c)) := fun x hb => ⟨(K0.out.below hb).cell 0, (K0.out.below hb).cell 1, (K0.out.below hb).cell 2⟩
  have HR : Hid (∀ x, Bxs x (w.heap.size + 1) 104 #[.string ByteArray.empty, .int .i64 0, .slice none 0 0, .int .i64 0] → x.cell? ⟨w.heap.size + 1, 0, none⟩ = some (.string ByteArray.empty) ∧ x.cell? ⟨w.heap.size + 1, 1, none⟩ = some (.int .i64 0) ∧ x.cell? ⟨w.heap.size + 1, 2, none⟩ = some (.slice none 0 0) ∧ x.cell? ⟨w.heap.size + 1, 3, none⟩ = some (.int .i64 0) ∧ x.frozen? ⟨w.heap.size + 1, 0, none⟩ = false ∧ x.frozen? ⟨w.heap.size + 1, 1, none⟩ = false ∧ x.frozen? ⟨w.heap.size + 1, 2, none⟩ = false ∧ x.frozen? ⟨w.heap.size + 1, 3, none⟩ = false) := fun x hb => ⟨hb.cell 0, hb.cell 1, hb.cell 2, hb.cell 3, hb.fr 0, hb.fr 1, hb.fr 2, hb.fr 3⟩
  have HEr : Hid (∀ (y : World) (c : Int) (x0 x1 x2 x3 : Value), Below W2.heap.size W2 y → fgC k at_ fs ix = c → c ≠ 0 → ∃ v, Ending.returned (.agg #[.string ByteArray.empty, .int .i64 0, .slice none 0 0, .int .i64 c]) = .returned (.agg #[.string (fgK k at_ fs ix), .int .i64 (fgA k at_ fs ix), v, .int .i64 (fgC k at_ fs ix)]) ∧ ((((y.setCell ⟨w.heap.size + 1, 0, none⟩ x0).setCell ⟨w.heap.size + 1, 1, none⟩ x1).setCell ⟨w.heap.size + 1, 2, none⟩ x2).setCell ⟨w.heap.size + 1, 3, none⟩ x3).ownsRow w.heap.size 76 5 v (fgF k at_ fs ix).length (fldRow (fgF k at_ fs ix)) ∧ Below w.heap.size w ((((y.setCell ⟨w.heap.size + 1, 0, none⟩ x0).setCell ⟨w.heap.size + 1, 1, none⟩ x1).setCell ⟨w.heap.size + 1, 2, none⟩ x2).setCell ⟨w.heap.size + 1, 3, none⟩ x3)) := by
    intro y c x0 x1 x2 x3 hb hc hn
    have hn' : ¬ fgC k at_ fs ix = 0 := by rw [hc]; exact hn
    rw [show fgK k at_ fs ix = ByteArray.empty from if_neg hn', show fgA k at_ fs ix = 0 from if_neg hn', show fgF k at_ fs ix = [] from if_neg hn', hc]
    exact ⟨_, rfl, World.ownsRow_nil _ _ _ _, below_set4 (chainB B2.out hb) (by omega) _ _ _ _⟩
  have hD := specRowRight_any k at_ q c fs W2 HT.out hn hc hk hz
  obtain ⟨t0, t1, t2⟩ := HX.out W2 (Below.refl _ _)
  rw [HW2.out] at t0 t1 t2
  clear hW2 hf hs1
  cases hr : rwB k at_ fs with
  | false =>
    have hC : Hid (fgC k at_ fs ix = 1) := if_neg (by rw [hr]; exact Bool.false_ne_true)
    rw [hr] at hD
    clear hr
    go_enter Tryz.func86, Tryz.ntmps86
    go_wp2_with fail
    rw [← HW2.out]
    refine hD.mono ?_
    rintro e y1 ⟨rfl, b1⟩
    go_wp2_with fail
    refine (l07Ill_any 1 y1).mono ?_
    rintro e y2 ⟨rfl, b2⟩
    have b2 := chainB b1 b2
    have HE := fun x0 x1 x2 x3 => HEr.out y2 1 x0 x1 x2 x3 b2 hC.out (by omega)
    obtain ⟨r0, r1, r2, r3, f0, f1, f2, f3⟩ := HR.out y2 (K1.out.below b2)
    clear b1 b2 HEr HR HX t0 t1 t2
    go_wp2_with fail
    refine bodyPost_ret (v := .agg #[.string ByteArray.empty, .int .i64 0, .slice none 0 0, .int .i64 1]) (by simp [results, Tryz.results86, go_sem, r0, r1, r2, r3]) rfl ?_
    exact HE _ _ _ _
  | true =>
  rw [hr] at hD
  obtain ⟨-, -, ⟨l1, l3⟩, -, -⟩ := rwB_parts hr
  have HI : Hid (∀ x, Calls Tryz.prog 80 #[.int .i64 ix, .int .i64 0, .int .i64 ((fs.length : Int) - 1)] x fun e w' => e = .returned (.bool (decide (0 ≤ ix ∧ ix ≤ (fs.length : Int) - 1))) ∧ w' = x) := fun x => l07Is_any _ _ _ x
  by_cases hin : 0 ≤ ix ∧ ix ≤ (fs.length : Int) - 1
  case neg =>
    have hC : Hid (fgC k at_ fs ix = 6) := by show _ = _; unfold fgC; rw [if_pos hr, if_neg hin]
    rw [decide_eq_false hin] at HI
    clear hr hin
    go_enter Tryz.func86, Tryz.ntmps86
    go_wp2_with fail
    rw [← HW2.out]
    refine hD.mono ?_
    rintro e y1 ⟨rfl, b1⟩
    clear t0 t1 t2
    obtain ⟨t0, t1, t2⟩ := HX.out y1 b1
    go_wp2_with fail
    refine (HI.out y1).mono ?_
    rintro e y2 ⟨rfl, rfl⟩
    go_wp2_with fail
    refine (l07Ill_any 6 y2).mono ?_
    rintro e y3 ⟨rfl, b2⟩
    have b2 := chainB b1 b2
    have HE := fun x0 x1 x2 x3 => HEr.out y3 6 x0 x1 x2 x3 b2 hC.out (by omega)
    obtain ⟨r0, r1, r2, r3, f0, f1, f2, f3⟩ := HR.out y3 (K1.out.below b2)
    clear b1 b2 HEr HR HX t0 t1 t2
    go_wp2_with fail
    refine bodyPost_ret (v := .agg #[.string ByteArray.empty, .int .i64 0, .slice none 0 0, .int .i64 6]) (by simp [results, Tryz.results86, go_sem, r0, r1, r2, r3]) rfl ?_
    exact HE _ _ _ _
  rw [decide_eq_true hin] at HI
  obtain ⟨I, hI⟩ := Int.eq_ofNat_of_zero_le hin.1
  subst hI
  have hIl : I < fs.length := by omega
  have i1 : (I : Int) < fs.length := by omega
  obtain ⟨b, off, rfl, hb0⟩ := HT.out.some_of (by omega)
  have HC : Hid (∀ x, Below W2.heap.size W2 x → x.cell? ⟨b, off + I * 5, none⟩ = some (.string fs[I].n) ∧ x.cell? ⟨b, off + I * 5 + 1, none⟩ = some (.string fs[I].c) ∧ x.cell? ⟨b, off + I * 5 + 2, none⟩ = some (.string fs[I].s) ∧ x.cell? ⟨b, off + I * 5 + 3, none⟩ = some (.string fs[I].v) ∧ x.cell? ⟨b, off + I * 5 + 4, none⟩ = some (.bool fs[I].g)) := fun x hx => (HT.out.below hx).at I hIl
  have HG : Hid (fs.getD I fldD = fs[I]) := by show _ = _; rw [List.getD_eq_getElem?_getD, List.getElem?_eq_getElem hIl]; rfl
  have HFC : Hid (fgC k at_ fs I = if fs[I].g = true then 7 else 0) := by show _ = _; unfold fgC; rw [if_pos hr, if_pos hin, Int.toNat_natCast, HG.out]
  have HFF : Hid (fgC k at_ fs I = 0 → fgF k at_ fs I = fs.set I (goneF fs[I])) := by
    intro h
    show (if _ then _ else _) = _
    rw [if_pos h, Int.toNat_natCast, HG.out]
  have HGF : Hid (goneF fs[I] = ⟨fs[I].n, fs[I].c, ByteArray.empty, ByteArray.empty, true⟩) := rfl
  clear HG hin
  generalize fs[I].n = fn at *
  generalize fs[I].c = fc at *
  generalize fs[I].s = fss at *
  generalize fs[I].v = fv at *
  generalize goneF fs[I] = GF at *
  cases hgg : fs[I].g with
  | true =>
    rw [hgg] at HC HFC
    have hC : Hid (fgC k at_ fs I = 7) := by show _ = _; rw [HFC.out]; rfl
    clear hr hgg HFC HFF HGF
    go_enter Tryz.func86, Tryz.ntmps86
    go_wp2_with fail
    rw [← HW2.out]
    refine hD.mono ?_
    rintro e y1 ⟨rfl, b1⟩
    clear t0 t1 t2
    obtain ⟨t0, t1, t2⟩ := HX.out y1 b1
    go_wp2_with fail
    refine (HI.out y1).mono ?_
    rintro e y2 ⟨rfl, rfl⟩
    obtain ⟨c0, c1, c2, c3, c4⟩ := HC.out y2 b1
    go_wp2_with fail
    refine (l07Ill_any 7 _).mono ?_
    rintro e y3 ⟨rfl, b2⟩
    have b2 := chainB (alB b1 _) b2
    have HE := fun x0 x1 x2 x3 => HEr.out y3 7 x0 x1 x2 x3 b2 hC.out (by omega)
    obtain ⟨r0, r1, r2, r3, f0, f1, f2, f3⟩ := HR.out y3 (K1.out.below b2)
    clear b1 b2 HEr HR HX t0 t1 t2 c0 c1 c2 c3 c4
    go_wp2_with fail
    refine bodyPost_ret (v := .agg #[.string ByteArray.empty, .int .i64 0, .slice none 0 0, .int .i64 7]) (by simp [results, Tryz.results86, go_sem, r0, r1, r2, r3]) rfl ?_
    exact HE _ _ _ _
  | false =>
    rw [hgg] at HC HFC
    have hC : Hid (fgC k at_ fs I = 0) := by show _ = _; rw [HFC.out]; rfl
    have HK2 : Hid (fgK k at_ fs I = k) := if_pos hC.out
    have HA2 : Hid (fgA k at_ fs I = at_) := if_pos hC.out
    have HF2 : Hid (fgF k at_ fs I = fs.set I GF) := HFF.out hC.out
    clear hr hgg HFC HFF HEr
    go_enter Tryz.func86, Tryz.ntmps86
    go_wp2_with fail
    rw [← HW2.out]
    refine hD.mono ?_
    rintro e y1 ⟨rfl, b1⟩
    clear t0 t1 t2
    obtain ⟨t0, t1, t2⟩ := HX.out y1 b1
    go_wp2_with fail
    refine (HI.out y1).mono ?_
    rintro e y2 ⟨rfl, rfl⟩
    obtain ⟨c0, c1, c2, c3, c4⟩ := HC.out y2 b1
    go_upto_region 6 with fail
    obtain ⟨y3, hy3⟩ : ∃ y3, y3 = y2.alloc (.cells #[.string fn, .string fc, .string fss, .string fv, .bool false] 76) := ⟨_, rfl⟩
    rw [← hy3]
    have b3 : Hid (Below W2.heap.size W2 y3) := by rw [hy3]; exact alB b1 _
    have KY : Hid (Bxs y3 y2.heap.size 76 #[.string fn, .string fc, .string fss, .string fv, .bool false]) := by rw [hy3]; exact Bxs.new _ _ _
    have hsy : Hid (W2.heap.size ≤ y2.heap.size) := b1.size
    clear hy3 t0 t1 t2 c0 c1 c2 c3 c4 b1
    obtain ⟨t0, t1, t2⟩ := HX.out y3 b3.out
    have u4 : y3.cell? ⟨y2.heap.size, 4, none⟩ = some (.bool false) := KY.out.cell 4
    have hCp := l07Copy_any k at_ (some ⟨b, off, none⟩) c fs y3 (HT.out.below b3.out) (by omega) (by omega)
    go_wp2_with fail
    refine hCp.mono ?_
    rintro e y4 ⟨bb, cc, rfl, own4, b4⟩
    clear t0 t1 t2 u4 hCp
    go_upto_region 9 with fail
    obtain ⟨y5, hy5⟩ : ∃ y5, y5 = y4.alloc (.cells #[.string k, .int .i64 at_, .slice (some ⟨bb, 0, none⟩) fs.length cc] 65) := ⟨_, rfl⟩
    rw [← hy5]
    have b5 : Hid (Below W2.heap.size W2 y5) := by rw [hy5]; exact alB (chainB b3.out b4) _
    have KZ : Hid (Bxs y5 y4.heap.size 65 #[.string k, .int .i64 at_, .slice (some ⟨bb, 0, none⟩) fs.length cc]) := by rw [hy5]; exact Bxs.new _ _ _
    have KY5 : Hid (Bxs y5 y2.heap.size 76 #[.string fn, .string fc, .string fss, .string fv, .bool false]) := by rw [hy5]; exact (KY.out.below b4).alloc _
    have own5 : Hid (y5.ownsRow y3.heap.size 76 5 (.slice (some ⟨bb, 0, none⟩) fs.length cc) fs.length (fldRow fs)) := by rw [hy5]; exact own4.alloc _
    have KR5 : Hid (Bxs y5 (w.heap.size + 1) 104 #[.string ByteArray.empty, .int .i64 0, .slice none 0 0, .int .i64 0]) := K1.out.below b5.out
    have HO : Hid (∀ (x0 x1 x2 x3 : Value), (((((set5 y5 bb (I * 5) GF).setCell ⟨w.heap.size + 1, 0, none⟩ x0).setCell ⟨w.heap.size + 1, 1, none⟩ x1).setCell ⟨w.heap.size + 1, 2, none⟩ x2).setCell ⟨w.heap.size + 1, 3, none⟩ x3).ownsRow w.heap.size 76 5 (.slice (some ⟨bb, 0, none⟩) fs.length cc) (fs.set I GF).length (fldRow (fs.set I GF)) ∧ Below w.heap.size w (((((set5 y5 bb (I * 5) GF).setCell ⟨w.heap.size + 1, 0, none⟩ x0).setCell ⟨w.heap.size + 1, 1, none⟩ x1).setCell ⟨w.heap.size + 1, 2, none⟩ x2).setCell ⟨w.heap.size + 1, 3, none⟩ x3)) := by
      intro x0 x1 x2 x3
      have h6 := own_set5 own5.out I GF
      have hlt := (own5.out.lt bb rfl).1
      have hs3 := b3.out.size
      have hs2 := HS2.out
      have n2 : (Value.slice (some ⟨bb, 0, none⟩) fs.length cc).ownBlock ≠ some (w.heap.size + 1) := by simp [Value.ownBlock]; omega
      rw [List.length_set]
      exact ⟨ownS_mono (ownsRow_setCell_other (ownsRow_setCell_other (ownsRow_setCell_other (ownsRow_setCell_other h6 n2 _) n2 _) n2 _) n2 _) (by omega), below_set4 (set5_below (chainB B2.out b5.out) (by omega) _ _) (by omega) _ _ _ _⟩
    have HK6 : Hid (Bxs (set5 y5 bb (I * 5) GF) y4.heap.size 65 #[.string k, .int .i64 at_, .slice (some ⟨bb, 0, none⟩) fs.length cc] ∧ Bxs (set5 y5 bb (I * 5) GF) (w.heap.size + 1) 104 #[.string ByteArray.empty, .int .i64 0, .slice none 0 0, .int .i64 0]) := by
      have e1 := ownF_ne own5.out KZ.out (by decide)
      have e2 := ownF_ne own5.out KR5.out (by decide)
      exact ⟨set5_other KZ.out (by simpa [Value.ownBlock] using e1) _, set5_other KR5.out (by simpa [Value.ownBlock] using e2) _⟩
    have HSt : Hid (set5 y5 bb (I * 5) GF = ((((y5.setCell ⟨bb, I * 5, none⟩ (.string fn)).setCell ⟨bb, I * 5 + 1, none⟩ (.string fc)).setCell ⟨bb, I * 5 + 2, none⟩ (.string ⟨#[]⟩)).setCell ⟨bb, I * 5 + 3, none⟩ (.string ⟨#[]⟩)).setCell ⟨bb, I * 5 + 4, none⟩ (.bool true)) := by show _ = _; rw [HGF.out]; rfl
    obtain ⟨v0, v1, v2⟩ : y5.cell? ⟨y4.heap.size, 0, none⟩ = some (.string k) ∧ y5.cell? ⟨y4.heap.size, 1, none⟩ = some (.int .i64 at_) ∧ y5.cell? ⟨y4.heap.size, 2, none⟩ = some (.slice (some ⟨bb, 0, none⟩) fs.length cc) := ⟨KZ.out.cell 0, KZ.out.cell 1, KZ.out.cell 2⟩
    obtain ⟨w0, w1⟩ : y5.cell? ⟨y2.heap.size, 0, none⟩ = some (.string fn) ∧ y5.cell? ⟨y2.heap.size, 1, none⟩ = some (.string fc) := ⟨KY5.out.cell 0, KY5.out.cell 1⟩
    obtain ⟨⟨k0, k1, k2, k3, k4⟩, g0, g1, g2, g3, g4⟩ : (y5.cell? ⟨bb, I * 5, none⟩ = some (.string fs[I].n) ∧ y5.cell? ⟨bb, I * 5 + 1, none⟩ = some (.string fs[I].c) ∧ y5.cell? ⟨bb, I * 5 + 2, none⟩ = some (.string fs[I].s) ∧ y5.cell? ⟨bb, I * 5 + 3, none⟩ = some (.string fs[I].v) ∧ y5.cell? ⟨bb, I * 5 + 4, none⟩ = some (.bool fs[I].g)) ∧ y5.frozen? ⟨bb, I * 5, none⟩ = false ∧ y5.frozen? ⟨bb, I * 5 + 1, none⟩ = false ∧ y5.frozen? ⟨bb, I * 5 + 2, none⟩ = false ∧ y5.frozen? ⟨bb, I * 5 + 3, none⟩ = false ∧ y5.frozen? ⟨bb, I * 5 + 4, none⟩ = false := by
      have hr := fldRow_at fs I (by omega)
      rw [← own5.out.cellAt (I * 5) (by omega), ← own5.out.cellAt (I * 5 + 1) (by omega), ← own5.out.cellAt (I * 5 + 2) (by omega), ← own5.out.cellAt (I * 5 + 3) (by omega), ← own5.out.cellAt (I * 5 + 4) (by omega)] at hr
      exact ⟨hr, own5.out.frozenAt _, own5.out.frozenAt _, own5.out.frozenAt _, own5.out.frozenAt _, own5.out.frozenAt _⟩
    clear hy5 own4 b4 KY
    go_upto_region 10 with fail
    rw [← HSt.out]
    obtain ⟨r0, r1, r2, r3, f0, f1, f2, f3⟩ := HR.out _ HK6.out.2
    obtain ⟨x0, x1, x2⟩ : (set5 y5 bb (I * 5) GF).cell? ⟨y4.heap.size, 0, none⟩ = some (.string k) ∧ (set5 y5 bb (I * 5) GF).cell? ⟨y4.heap.size, 1, none⟩ = some (.int .i64 at_) ∧ (set5 y5 bb (I * 5) GF).cell? ⟨y4.heap.size, 2, none⟩ = some (.slice (some ⟨bb, 0, none⟩) fs.length cc) := ⟨HK6.out.1.cell 0, HK6.out.1.cell 1, HK6.out.1.cell 2⟩
    clear HSt HK6 v0 v1 v2 w0 w1 k0 k1 k2 k3 k4 g0 g1 g2 g3 g4 own5 KR5 KZ KY5
    generalize set5 y5 bb (I * 5) GF = y6 at *
    go_wp2_with fail
    refine bodyPost_ret (v := .agg #[.string k, .int .i64 at_, .slice (some ⟨bb, 0, none⟩) fs.length cc, .int .i64 0]) (by simp [results, Tryz.results86, go_sem, r0, r1, r2, r3]) rfl ?_
    rw [HK2.out, HA2.out, HF2.out, hC.out]
    exact ⟨_, rfl, HO.out _ _ _ _⟩
end Go.Proofs.YtnjegmffjelnpaaGreatDoor
