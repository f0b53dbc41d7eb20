/-
  Parts of one proof, laid as one text: LaMath, LfMath, LfSum, StepApp, OwnB, Turn2; what each says stands at its head.
-/
import Derived.Test.YthfecjjahoflcaaGreatDoorRows
import Derived.Test.YthfecjjahoflcaaGreatDoorBytesDigMathTreeMath
import Derived.Test.YthfecjjahoflcaaGreatDoorSlASlBBxKOwnSTakesLTillTwo
import Derived.Test.YthfecjjahoflcaaGreatDoorJoinedPutTextFldMathFldGShwK
import Derived.Test.YthfecjjahoflcaaGreatDoorLgMathLgAtKRwBlkLawF
import Derived.Test.YthfecjjahoflcaaGreatDoorLawLkRowOpsLgO
import Derived.Test.YthfecjjahoflcaaGreatDoorLawLoLawLqLgAnsLgRtLtMathLawLt
import Derived.Handy
import Derived.WalkSpells
import Derived.OwnWalk
import Derived.Deep.Cut
import Derived.Test.YthfecjjahoflcaaGreatDoorTimeBPutMathPutNum
import Derived.Test.YthfecjjahoflcaaGreatDoorOneKFldBlkFldRiseScanMathGetValGetTxtNumMathFldRdNumFromTmbMath
import Derived.Test.YthfecjjahoflcaaGreatDoorLawLzLawMGLawLm
import Derived.Deep.AppendLies
import Derived.Deep.RegionLaw
import Derived.WalkSmall
import Derived.ArgAppend
import Derived.Lib.LazyBuf
import Derived.Laws.BytesArg
import Derived.Laws.OwnMore
/-
  What LogAdd answers (plain); a leaf more in a log of its own; is a row fresh.
-/
namespace Go.Proofs.YthfecjjahoflcaaGreatDoor
open Go.RowKit Go.Lib
set_option linter.unusedVariables false
set_option maxRecDepth 20000

/-- Nothing of it is gone. -/
def frsB (fs : List Fld) : Bool := fs.all fun f => !f.g
theorem frs_true {fs : List Fld} (h : ∀ j (h : j < fs.length), fs[j].g = false) : frsB fs = true := by
  unfold frsB
  rw [List.all_eq_true]
  intro x hx
  obtain ⟨j, hj, rfl⟩ := List.getElem_of_mem hx
  rw [h j hj]; rfl
theorem frs_false {fs : List Fld} {k : Nat} (hk : k < fs.length) (h : fs[k].g = true) : frsB fs = false := by
  unfold frsB
  rw [List.all_eq_false]
  exact ⟨_, List.getElem_mem hk, by rw [h]; simp⟩
def laK (rs : List Rw) (lv : List ByteArray) (now : Int) (r : Rw) : Bool := lgB rs lv now && (rwB r.k r.a r.fs && (frsB r.fs && (r.a == now)))
def laC (rs : List Rw) (lv : List ByteArray) (now : Int) (r : Rw) : Int := if laK rs lv now r = true then (if rs.length = 6 then 9 else 0) else 1
def laR (rs : List Rw) (lv : List ByteArray) (now : Int) (r : Rw) : List Rw := if laC rs lv now r = 0 then rs ++ [r] else []
def laL (rs : List Rw) (lv : List ByteArray) (now : Int) (r : Rw) : List ByteArray := if laC rs lv now r = 0 then lv ++ [lfB r.k r.a r.fs] else []
def laN (rs : List Rw) (lv : List ByteArray) (now : Int) (r : Rw) : Int := if laC rs lv now r = 0 then now else 0
theorem la_bad {rs : List Rw} {lv : List ByteArray} {now : Int} {r : Rw} {C : Int} (h : laC rs lv now r = C) (hC : C ≠ 0) : laR rs lv now r = [] ∧ laL rs lv now r = [] ∧ laN rs lv now r = 0 := by
  unfold laR laL laN
  rw [h]
  exact ⟨if_neg hC, if_neg hC, if_neg hC⟩
theorem la_good {rs : List Rw} {lv : List ByteArray} {now : Int} {r : Rw} (h : laC rs lv now r = 0) : laR rs lv now r = rs ++ [r] ∧ laL rs lv now r = lv ++ [lfB r.k r.a r.fs] ∧ laN rs lv now r = now := by
  unfold laR laL laN
  rw [h]
  exact ⟨if_pos rfl, if_pos rfl, if_pos rfl⟩
/-- One more leaf. -/
theorem LgC.leaf {W : World} {E : Nat} {xs : List (Rw × Value)} {lv : List ByteArray} {now : Int} {v1 v2 : Value} {x : World} (h : LgC W E xs lv now v1 v2 x) (t : ByteArray) (hl : lv.length + 1 ≤ 1048576) :
    ∃ g c y, (Builtin.append_ #[23, 23] 23 #[v2, .slice (some ⟨x.heap.size, 0, none⟩) 1 1]).run Tryz.prog (x.alloc (.cells #[.string t] 9)) = .ok (.slice (some ⟨g, 0, none⟩) (lv.length + 1) c) y ∧ LgC W E xs (lv ++ [t]) now v1 (.slice (some ⟨g, 0, none⟩) (lv.length + 1) c) (y.setCell ⟨E, 1, none⟩ (.slice (some ⟨g, 0, none⟩) (lv.length + 1) c)) ∧ Below W.heap.size W y ∧ y.cell? ⟨E, 1, none⟩ = some v2 ∧ y.frozen? ⟨E, 1, none⟩ = false ∧ (x.alloc (.cells #[.string t] 9)).grownBy y v2.ownBlock := by
  have hal := (Below.refl x.heap.size x).alloc (Nat.le_refl _) (.cells #[.string t] 9)
  have H := h.below hal
  obtain ⟨g, c, y, h1, h2, h3, h4⟩ := app_str x W.heap.size v2 lv h.lg.lvs t hl h.bel.size
  have kb : Bxs y E 33 #[v1, v2, .int .i64 now] := H.box.grown h3 (fun e => own_box H.lg.lvs H.box (by decide) e.symm)
  have hr : RwsO W.heap.size xs v1 y := H.lg.rws.kept h3 (own_apart H.lg.rws.own H.lg.lvs (by decide)) (fun z hz => own_apart (H.lg.rws.fld z hz) H.lg.lvs (by decide))
  have hby : Below W.heap.size W y := H.bel.grown h3 H.bel.size (fun j hj => (H.lg.lvs.lt j hj).1)
  have ho : LgO W.heap.size xs (lv ++ [t]) v1 (.slice (some ⟨g, 0, none⟩) (lv.length + 1) c) y := ⟨hr, by simpa using h2⟩
  exact ⟨g, c, y, h1, ⟨kb.set 1 _, ho.box kb (by decide) (by decide) (by decide) (set_grw y E 1 _), h.eb, below_cel hby h.eb 1 _⟩, hby, kb.cell 1, kb.fr 1, h3⟩
set_option maxHeartbeats 1000000 in
theorem anyGone_any (k : ByteArray) (a : Int) (q : Option Addr) (c : Nat) (fs : List Fld) (w : World) (hf : FldAt w q fs) (hn : fs.length ≤ 1048576) (hc : fs.length ≤ c) :
    Calls Tryz.prog 35 #[.agg #[.string k, .int .i64 a, .slice q fs.length c]] w fun e w' => e = .returned (.bool (!frsB fs)) ∧ Below w.heap.size w w' := by
  have HF : Hid (∀ x, Below w.heap.size w x → FldAt x q fs) := fun x hx => hf.below hx
  obtain ⟨W1, hW1⟩ : ∃ W1, W1 = w.alloc (.cells #[.string k, .int .i64 a, .slice q fs.length c] 40) := ⟨_, rfl⟩
  have HW1 : Hid (W1 = w.alloc (.cells #[.string k, .int .i64 a, .slice q fs.length c] 40)) := hW1
  have B1 : Hid (Below w.heap.size w W1) := by rw [hW1]; exact (Below.refl _ _).alloc (Nat.le_refl _) _
  have K1 : Bxs W1 w.heap.size 40 #[.string k, .int .i64 a, .slice q fs.length c] := by rw [hW1]; exact Bxs.new _ _ _
  have t2 : W1.cell? ⟨w.heap.size, 2, none⟩ = some (.slice q fs.length c) := K1.cell 2
  clear hW1 K1 hf
  go_enter Tryz.func35, Tryz.ntmps35
  go_upto_region 1 with fail
  rw [← HW1.out]
  go_wp2_with fail
  go_loopw [8] (fun i wr => ∃ k : Nat, k ≤ fs.length ∧ i = .int .i64 k ∧ Hid (∀ j (h : j < fs.length), j < k → fs[j].g = false) ∧ Hid (Below w.heap.size w wr)) (fun i _ => fs.length - (intOf i).toNat)
  case atStart => exact ⟨0, Nat.zero_le _, rfl, fun j h hk => by omega, B1.out⟩
  case round =>
    obtain ⟨k, hk, rfl, HK, HB⟩ := hrel
    by_cases hlt : k < fs.length
    · have i1 : (k : Int) < fs.length := by omega
      obtain ⟨b, off, rfl, hb, c0, c1, c2, c3, c4⟩ := HF.out wr HB.out k hlt
      cases hg : fs[k].g with
      | true =>
        have HR : Hid (frsB fs = false) := frs_false hlt hg
        rw [hg] at c4
        go_wp2_with fail
        go_ret
        exact ⟨ret_bool (by rw [HR.out]; rfl), alB HB.out _⟩
      | false =>
        rw [hg] at c4
        have HK2 : Hid (∀ j (h : j < fs.length), j < k + 1 → fs[j].g = false) := fun j h hj => if he : j = k then by subst he; exact hg else HK.out j h (by omega)
        have HB2 : Hid (∀ o, Below w.heap.size w (wr.alloc o)) := fun o => alB HB.out _
        clear hg
        go_wp2_with fail
        go_roundw
        case rel => exact ⟨k + 1, by omega, by go_num, HK2, HB2.out _⟩
        case measure => simp [intOf]; omega
    · obtain rfl : k = fs.length := by omega
      have HR : Hid (frsB fs = true) := frs_true (fun j h => HK.out j h h)
      go_wp2_with fail
      go_ret
      exact ⟨ret_bool (by rw [HR.out]; rfl), HB.out⟩
set_option maxHeartbeats 1000000 in
theorem l09Fresh_any (k : ByteArray) (a : Int) (q : Option Addr) (c : Nat) (fs : List Fld) (w : World) (hf : FldAt w q fs) (hn : fs.length ≤ 1048576) (hc : fs.length ≤ c) :
    Calls Tryz.prog 25 #[.agg #[.string k, .int .i64 a, .slice q fs.length c]] w fun e w' => e = .returned (.bool (frsB fs)) ∧ Below w.heap.size w w' := by
  obtain ⟨W1, hW1⟩ : ∃ W1, W1 = w.alloc (.cells #[.string k, .int .i64 a, .slice q fs.length c] 40) := ⟨_, rfl⟩
  have HW1 : Hid (W1 = w.alloc (.cells #[.string k, .int .i64 a, .slice q fs.length c] 40)) := hW1
  have B1 : Hid (Below w.heap.size w W1) := by rw [hW1]; exact (Below.refl _ _).alloc (Nat.le_refl _) _
  have K1 : Bxs W1 w.heap.size 40 #[.string k, .int .i64 a, .slice q fs.length c] := by rw [hW1]; exact Bxs.new _ _ _
  have t2 : W1.cell? ⟨w.heap.size, 2, none⟩ = some (.slice q fs.length c) := K1.cell 2
  have HF : Hid (FldAt W1 q fs) := hf.below B1.out
  clear hW1 K1 hf
  go_enter Tryz.func25, Tryz.ntmps25
  go_upto_region 1 with fail
  rw [← HW1.out]
  go_wp2_with fail
  go_loop [3] (fun i => ∃ k : Nat, k ≤ fs.length ∧ i = .int .i64 k ∧ Hid (∀ j (h : j < fs.length), j < k → fs[j].g = false)) (fun i => fs.length - (intOf i).toNat)
  case atStart => exact ⟨0, Nat.zero_le _, rfl, fun j h hk => by omega⟩
  case round =>
    obtain ⟨k, hk, rfl, HK⟩ := hrel
    by_cases hlt : k < fs.length
    · have i1 : (k : Int) < fs.length := by omega
      obtain ⟨b, off, rfl, hb, c0, c1, c2, c3, c4⟩ := HF.out k hlt
      cases hg : fs[k].g with
      | true =>
        have HR : Hid (frsB fs = false) := frs_false hlt hg
        rw [hg] at c4
        go_wp2_with fail
        go_ret
        exact ⟨ret_bool (by rw [HR.out]), B1.out⟩
      | false =>
        rw [hg] at c4
        have HK2 : Hid (∀ j (h : j < fs.length), j < k + 1 → fs[j].g = false) := fun j h hj => if he : j = k then by subst he; exact hg else HK.out j h (by omega)
        clear hg
        go_wp2_with fail
        go_round
        case rel => exact ⟨k + 1, by omega, by go_num, HK2⟩
        case measure => simp [intOf]; omega
    · obtain rfl : k = fs.length := by omega
      have HR : Hid (frsB fs = true) := frs_true (fun j h => HK.out j h h)
      go_wp2_with fail
      go_ret
      exact ⟨ret_bool (by rw [HR.out]), B1.out⟩
end Go.Proofs.YthfecjjahoflcaaGreatDoor
/-
  What LogForget answers (plain); a row of a log of its own is written.
-/
namespace Go.Proofs.YthfecjjahoflcaaGreatDoor
open Go.RowKit Go.Lib
set_option linter.unusedVariables false
set_option maxRecDepth 20000

/-- The row with that field forgotten. -/
def fgt (rs : List Rw) (r f : Int) : Rw := ⟨(rs.getD r.toNat rwZ).k, (rs.getD r.toNat rwZ).a, (rs.getD r.toNat rwZ).fs.set f.toNat (goneF ((rs.getD r.toNat rwZ).fs.getD f.toNat fldD))⟩
def lfC (rs : List Rw) (lv : List ByteArray) (now r f y : Int) : Int := if (lgB rs lv now && decide (1 ≤ y ∧ y ≤ 2)) = true then fcO rs r f else 1
def lfR (rs : List Rw) (lv : List ByteArray) (now r f y : Int) : List Rw := if lfC rs lv now r f y = 0 then rs.set r.toNat (fgt rs r f) else []
def lfL (rs : List Rw) (lv : List ByteArray) (now r f y : Int) : List ByteArray := if lfC rs lv now r f y = 0 then lv ++ [tmRaw ⟨r, f, y, now⟩] else []
def lfN (rs : List Rw) (lv : List ByteArray) (now r f y : Int) : Int := if lfC rs lv now r f y = 0 then now else 0
theorem lf_bad {rs : List Rw} {lv : List ByteArray} {now r f y C : Int} (h : lfC rs lv now r f y = C) (hC : C ≠ 0) : lfR rs lv now r f y = [] ∧ lfL rs lv now r f y = [] ∧ lfN rs lv now r f y = 0 := by
  unfold lfR lfL lfN
  rw [h]
  exact ⟨if_neg hC, if_neg hC, if_neg hC⟩
theorem lf_good {rs : List Rw} {lv : List ByteArray} {now r f y : Int} (h : lfC rs lv now r f y = 0) : lfR rs lv now r f y = rs.set r.toNat (fgt rs r f) ∧ lfL rs lv now r f y = lv ++ [tmRaw ⟨r, f, y, now⟩] ∧ lfN rs lv now r f y = now := by
  unfold lfR lfL lfN
  rw [h]
  exact ⟨if_pos rfl, if_pos rfl, if_pos rfl⟩
theorem getD_row {rs : List Rw} {I : Nat} (hI : I < rs.length) : rs.getD (I : Int).toNat rwZ = rs[I] := by
  rw [Int.toNat_natCast, List.getD_eq_getElem?_getD, List.getElem?_eq_getElem hI]; rfl
theorem fc_zero {rs : List Rw} {r f : Int} (h : fcO rs r f = 0) : ∃ (I J : Nat) (hI : I < rs.length) (hJ : J < rs[I].fs.length), r = I ∧ f = J ∧ rs[I].fs[J].g = false := by
  unfold fcO at h
  by_cases h1 : 0 ≤ r ∧ r ≤ (rs.length : Int) - 1
  · rw [if_pos h1] at h
    obtain ⟨I, rfl⟩ := Int.eq_ofNat_of_zero_le h1.1
    have hI : I < rs.length := by omega
    by_cases h2 : 0 ≤ f ∧ f ≤ ((rs.getD (I : Int).toNat rwZ).fs.length : Int) - 1
    · rw [if_pos h2] at h
      rw [getD_row hI] at h2
      obtain ⟨J, rfl⟩ := Int.eq_ofNat_of_zero_le h2.1
      have hJ : J < rs[I].fs.length := by omega
      refine ⟨I, J, hI, hJ, rfl, rfl, ?_⟩
      have e2 : fldOf rs I J = rs[I].fs[J] := by
        unfold fldOf
        rw [getD_row hI, Int.toNat_natCast, List.getD_eq_getElem?_getD, List.getElem?_eq_getElem hJ]; rfl
      rw [e2] at h
      cases hg : rs[I].fs[J].g with
      | false => rfl
      | true => rw [hg] at h; simp at h
    · rw [if_neg h2] at h; omega
  · rw [if_neg h1] at h; omega
theorem fgt_eq {rs : List Rw} {I J : Nat} (hI : I < rs.length) (hJ : J < rs[I].fs.length) : fgt rs I J = ⟨rs[I].k, rs[I].a, rs[I].fs.set J (goneF rs[I].fs[J])⟩ := by
  unfold fgt
  rw [getD_row hI, Int.toNat_natCast, List.getD_eq_getElem?_getD, List.getElem?_eq_getElem hJ]; rfl
theorem forget_post {k : ByteArray} {a : Int} {fs : List Fld} {J : Nat} (hr : rwB k a fs = true) (hJ : J < fs.length) (hg : fs[J].g = false) : fgC k a fs J = 0 ∧ fgK k a fs J = k ∧ fgA k a fs J = a ∧ fgF k a fs J = fs.set J (goneF fs[J]) := by
  have e : fs.getD (J : Int).toNat fldD = fs[J] := by rw [Int.toNat_natCast, List.getD_eq_getElem?_getD, List.getElem?_eq_getElem hJ]; rfl
  have hC : fgC k a fs J = 0 := by
    unfold fgC
    rw [if_pos hr, if_pos (by omega), e, hg]; rfl
  refine ⟨hC, ?_, ?_, ?_⟩
  · unfold fgK; rw [hC]; rfl
  · unfold fgA; rw [hC]; rfl
  · unfold fgF; rw [hC, e, Int.toNat_natCast]; rfl
theorem lg_tomb {rs : List Rw} {lv : List ByteArray} {now y : Int} {I J : Nat} (h : lgB rs lv now = true) (hI : I < rs.length) (hJ : J < rs[I].fs.length) (hy : 1 ≤ y ∧ y ≤ 2) : tmB ⟨I, J, y, now⟩ = true := by
  obtain ⟨h1, h2, h3⟩ := lg_right h
  have h4 := (rwB_parts (k := rs[I].k) (at_ := rs[I].a) (fs := rs[I].fs) (h3 _ (List.getElem_mem hI))).2.2.1
  unfold lgB timeB at h
  simp only [Bool.and_eq_true, decide_eq_true_iff] at h
  rw [tmB_iff]
  show ((0 : Int) ≤ I ∧ (I : Int) ≤ 63) ∧ ((0 : Int) ≤ J ∧ (J : Int) ≤ 2) ∧ (1 ≤ y ∧ y ≤ 2) ∧ (0 ≤ now ∧ now ≤ 1000000)
  exact ⟨by omega, by omega, hy, h.2.2.1⟩
theorem own_set3 {w : World} {base b n cc : Nat} {l : List Rc} (h : w.ownsRow base 40 3 (.slice (some ⟨b, 0, none⟩) n cc) n (rcRow l)) (i : Nat) (x : Rc) : (set3 w b (i * 3) x).ownsRow base 40 3 (.slice (some ⟨b, 0, none⟩) n cc) n (rcRow (l.set i x)) := by
  have h1 := (h.stored (i * 3) (.string x.k)).1
  have h2 := (h1.stored (i * 3 + 1) (.int .i64 x.a)).1
  have h3 := (h2.stored (i * 3 + 2) x.v).1
  rw [rcRow_set] at h3
  exact h3
theorem set3_grw (x : World) (g i : Nat) (v : Rc) : x.grownBy (set3 x g i v) (some g) := by
  refine ⟨rfl, rfl, rfl, by simp [set3, World.setCell], fun q hq hne => ?_⟩
  have hq' : g ≠ q := fun e => hne (by rw [e])
  simp [set3, World.setCell, Array.getElem?_modify, hq']
theorem RwsO.some_of {base : Nat} {xs : List (Rw × Value)} {v : Value} {w : World} (h : RwsO base xs v w) (h0 : 0 < xs.length) : ∃ g c, v = .slice (some ⟨g, 0, none⟩) xs.length c := by
  rcases h.own.2 with ⟨h1, h2⟩ | ⟨g, cap, cur, h1, _⟩
  · omega
  · exact ⟨g, cap, h1⟩
theorem set_fst (xs : List (Rw × Value)) (I : Nat) (r : Rw) (v : Value) : (xs.set I (r, v)).map (·.1) = (xs.map (·.1)).set I r := by rw [List.map_set]
section
variable {W x x' : World} {E g c : Nat} {xs : List (Rw × Value)} {lv : List ByteArray} {now : Int} {v2 : Value}
theorem LgC.rowv (h : LgC W E xs lv now (.slice (some ⟨g, 0, none⟩) xs.length c) v2 x) (I : Nat) (hI : I < xs.length) : ∃ q0 c0, xs[I].2 = .slice q0 xs[I].1.fs.length c0 ∧ xs[I].1.fs.length ≤ c0 := by
  obtain ⟨q', c', hq, hcc, hf⟩ := ownF_form (h.lg.rws.fld _ (List.getElem_mem hI))
  exact ⟨q', c', hq, hcc⟩
theorem LgC.row (h : LgC W E xs lv now (.slice (some ⟨g, 0, none⟩) xs.length c) v2 x) (I : Nat) (hI : I < xs.length) {q0 : Option Addr} {c0 : Nat} {X : Rw} (hX : xs[I].1 = X) (hv : xs[I].2 = .slice q0 X.fs.length c0) : (x.cell? ⟨g, I * 3, none⟩ = some (.string X.k) ∧ x.cell? ⟨g, I * 3 + 1, none⟩ = some (.int .i64 X.a) ∧ x.cell? ⟨g, I * 3 + 2, none⟩ = some (.slice q0 X.fs.length c0)) ∧ x.frozen? ⟨g, I * 3, none⟩ = false ∧ x.frozen? ⟨g, I * 3 + 1, none⟩ = false ∧ x.frozen? ⟨g, I * 3 + 2, none⟩ = false ∧ FldAt x q0 X.fs := by
  subst hX
  have own := h.lg.rws.own
  have hl := rcV_len xs
  have hr := rcRow_at (xs.map rcV) I (by simpa using hI)
  rw [← own.cellAt (I * 3) (by omega), ← own.cellAt (I * 3 + 1) (by omega), ← own.cellAt (I * 3 + 2) (by omega)] at hr
  have ev : (xs.map rcV)[I]'(by simpa using hI) = ⟨xs[I].1.k, xs[I].1.a, .slice q0 xs[I].1.fs.length c0⟩ := by rw [List.getElem_map]; unfold rcV; rw [hv]
  rw [ev] at hr
  obtain ⟨q', c', hq, hcc, hf⟩ := ownF_form (h.lg.rws.fld _ (List.getElem_mem hI))
  rw [hv] at hq
  cases hq
  exact ⟨hr, own.frozenAt _, own.frozenAt _, own.frozenAt _, hf⟩
/-- A row of it is written: its fields came later than all that is there. -/
theorem LgC.setRow (h : LgC W E xs lv now (.slice (some ⟨g, 0, none⟩) xs.length c) v2 x) (hx : Below x.heap.size x x') (I : Nat) (hI : I < xs.length) (r : Rw) (q : Option Addr) (d : Nat) (hf : x'.ownsRow x.heap.size 87 5 (.slice q r.fs.length d) r.fs.length (fldRow r.fs)) : LgC W E (xs.set I (r, .slice q r.fs.length d)) lv now (.slice (some ⟨g, 0, none⟩) xs.length c) v2 (set3 x' g (I * 3) ⟨r.k, r.a, .slice q r.fs.length d⟩) := by
  have H := h.below hx
  have hg := (H.lg.rws.own.lt g rfl).1
  have gr := set3_grw x' g (I * 3) ⟨r.k, r.a, .slice q r.fs.length d⟩
  have own2 := own_set3 H.lg.rws.own I ⟨r.k, r.a, .slice q r.fs.length d⟩
  have e0 : (xs.map rcV).set I ⟨r.k, r.a, .slice q r.fs.length d⟩ = (xs.set I (r, .slice q r.fs.length d)).map rcV := by rw [List.map_set]; rfl
  rw [e0] at own2
  have hW := h.bel.size
  have hxz := hx.size
  have old : ∀ z ∈ xs, ∀ j, z.2.ownBlock = some j → j < x.heap.size := fun z hz j hj => ((h.lg.rws.lt.2 z hz) j hj).2
  have new : ∀ j, (Value.slice q r.fs.length d).ownBlock = some j → x.heap.size ≤ j := fun j hj => (hf.lt j hj).1
  refine ⟨set3_other H.box (fun e => own_box H.lg.rws.own H.box (by decide) (by rw [e]; rfl)) _, ⟨⟨by rw [List.length_set]; exact own2, fun z hz => ?_, ?_⟩, H.lg.lvs.kept gr (own_apart H.lg.lvs H.lg.rws.own (by decide))⟩, h.eb, set3_below H.bel hg _ _⟩
  · rcases List.mem_or_eq_of_mem_set hz with hz | rfl
    · exact (H.lg.rws.fld z hz).kept gr (own_apart (H.lg.rws.fld z hz) H.lg.rws.own (by decide))
    · exact (own_low hf hW).kept gr (own_apart hf H.lg.rws.own (by decide))
  · rw [List.pairwise_iff_getElem]
    intro i j hi hj hij
    rw [List.length_set] at hi hj
    have hp := List.pairwise_iff_getElem.1 H.lg.rws.ne i j hi hj hij
    rw [List.getElem_set, List.getElem_set]
    split
    · rename_i h1
      rw [if_neg (by omega)]
      cases hb : (Value.slice q r.fs.length d).ownBlock with
      | none => exact .inl rfl
      | some b =>
        refine .inr (fun e => ?_)
        have := new b hb
        have := old _ (List.getElem_mem hj) b e.symm
        omega
    · split
      · rename_i h1 h2
        cases hb : (xs[i]).2.ownBlock with
        | none => exact .inl rfl
        | some b =>
          refine .inr (fun e => ?_)
          have := old _ (List.getElem_mem hi) b hb
          have := new b e.symm
          omega
      · exact hp
end
end Go.Proofs.YthfecjjahoflcaaGreatDoor
/-
  What LogAdd, LogForget answer is not too long to be marked (plain).
-/
namespace Go.Proofs.YthfecjjahoflcaaGreatDoor
open Go.RowKit Go.Lib
set_option linter.unusedVariables false

theorem fsN_three : ∀ (rs : List Rw), (∀ r ∈ rs, r.fs.length ≤ 3) → fsN rs ≤ 3 * rs.length
  | [], _ => by simp [fsN]
  | r :: rs, h => by
    have ih := fsN_three rs (fun x hx => h x (List.mem_cons_of_mem _ hx))
    have h0 := h r (List.mem_cons_self ..)
    unfold fsN at ih ⊢
    simp only [List.map_cons, List.sum_cons, List.length_cons]
    omega
theorem lg_three {rs : List Rw} {lv : List ByteArray} {now : Int} (h : lgB rs lv now = true) : ∀ r ∈ rs, r.fs.length ≤ 3 := fun r hr => (rwB_parts (k := r.k) (at_ := r.a) (fs := r.fs) ((lg_right h).2.2 r hr)).2.2.1.2
theorem lf_sum {rs : List Rw} {lv : List ByteArray} {now r f y : Int} : (lfR rs lv now r f y).length + fsN (lfR rs lv now r f y) + (lfL rs lv now r f y).length ≤ 1048576 := by
  unfold lfR lfL
  by_cases hc : lfC rs lv now r f y = 0
  · rw [if_pos hc, if_pos hc]
    have hl : lgB rs lv now = true := by
      unfold lfC at hc
      by_cases h : (lgB rs lv now && decide (1 ≤ y ∧ y ≤ 2)) = true
      · exact (Bool.and_eq_true_iff.1 h).1
      · rw [if_neg h] at hc; omega
    obtain ⟨h1, h2, -⟩ := lg_right hl
    have h3 := lg_three hl
    have h4 : ∀ x ∈ rs.set r.toNat (fgt rs r f), x.fs.length ≤ 3 := fun x hx => by
      rcases List.mem_or_eq_of_mem_set hx with hx | rfl
      · exact h3 x hx
      · unfold fgt
        rw [List.length_set, List.getD_eq_getElem?_getD]
        by_cases hi : r.toNat < rs.length
        · rw [List.getElem?_eq_getElem hi]; exact h3 _ (List.getElem_mem hi)
        · rw [List.getElem?_eq_none (by omega)]; simp [rwZ]
    have h5 := fsN_three _ h4
    rw [List.length_set] at h5 ⊢
    rw [List.length_append, List.length_singleton]
    omega
  · rw [if_neg hc, if_neg hc]
    simp [fsN]
theorem la_sum {rs : List Rw} {lv : List ByteArray} {now : Int} {r : Rw} : (laR rs lv now r).length + fsN (laR rs lv now r) + (laL rs lv now r).length ≤ 1048576 := by
  unfold laR laL
  by_cases hc : laC rs lv now r = 0
  · rw [if_pos hc, if_pos hc]
    have hl : lgB rs lv now = true ∧ rwB r.k r.a r.fs = true := by
      unfold laC at hc
      by_cases h : laK rs lv now r = true
      · unfold laK at h
        rw [Bool.and_eq_true_iff, Bool.and_eq_true_iff] at h
        exact ⟨h.1, h.2.1⟩
      · rw [if_neg h] at hc; omega
    obtain ⟨h1, h2, -⟩ := lg_right hl.1
    have h3 := lg_three hl.1
    have h4 : ∀ x ∈ rs ++ [r], x.fs.length ≤ 3 := fun x hx => by
      rcases List.mem_append.1 hx with hx | hx
      · exact h3 x hx
      · rw [List.mem_singleton.1 hx]; exact (rwB_parts hl.2).2.2.1.2
    have h5 := fsN_three _ h4
    rw [List.length_append, List.length_singleton] at h5 ⊢
    rw [List.length_append, List.length_singleton]
    omega
  · rw [if_neg hc, if_neg hc]
    simp [fsN]
end Go.Proofs.YthfecjjahoflcaaGreatDoor
/-
  An append in a region that draws its order, by its run.
-/
namespace Go.Proofs.YthfecjjahoflcaaGreatDoor
open Go.RowKit
set_option linter.unusedVariables false

theorem step_append_run {P : Program} {w : World} {ops : Array Oper} {o : Oper} {a : Act} {K : Act → World → Prop} {Q : Exit → Act → World → Prop} {E : Prop} (hgd : o.guard = none) (s x : Operand) (t : TypeId)
    (ho : o.op = .call { callee := .builtin .append, args := #[s, x], argTypes := #[t, t] }) (v1 v2 v' : Value) (w' : World) (hs : a.eval s = v1) (hx : a.eval x = v2)
    (hr : (Builtin.append_ #[t, t] o.type #[v1, v2]).run P w = .ok v' w') (h : K (a.put o.dst v') w') :
    if Region.wanted o (yielded ops a.tmps) = true then Oper.wp P o a w K Q else E := by
  have hw : Region.wanted o (yielded ops a.tmps) = true := by simp [Region.wanted, hgd]
  rw [if_pos hw]
  unfold Oper.wp execOp
  simp only [ho, resolve, invoke, builtin, Sem.run_bind, Sem.run_pure, Result.andThen_ok, List.map_toArray, List.map_cons, List.map_nil, hs, hx, hr]
  exact h
end Go.Proofs.YthfecjjahoflcaaGreatDoor
/-
  A row of bytes that the call made, one byte more at a time, also where the row came of a string ('[]byte(s)': the run-time's mark behind its last cell).
  Conditions: the row stays below 2^46 bytes.
-/
namespace Go.Proofs.YthfecjjahoflcaaGreatDoor
open Go.RowKit Go.Lib
set_option linter.unusedVariables false

structure OwnB (w : World) (base g cap : Nat) (xs : List Int) : Prop where
  lo : base ≤ g
  hi : g < w.heap.size
  fit : xs.length ≤ cap
  max : cap ≤ maxLen
  room : ∀ j, j < cap → (w.cell? ⟨g, j, none⟩).isSome = true ∧ w.frozen? ⟨g, j, none⟩ = false
  cells : ∀ j (h : j < xs.length), w.cell? ⟨g, j, none⟩ = some (.int .u8 xs[j])

theorem OwnB.carry {w w' : World} {base g cap : Nat} {xs : List Int} (h : OwnB w base g cap xs) (hs : w.heap.size ≤ w'.heap.size) (hb : w'.heap[g]? = w.heap[g]?) : OwnB w' base g cap xs :=
  ⟨h.lo, Nat.lt_of_lt_of_le h.hi hs, h.fit, h.max, fun j hj => by
    have e1 : w'.cell? ⟨g, j, none⟩ = w.cell? ⟨g, j, none⟩ := World.cell?_of_block hb
    have e2 : w'.frozen? ⟨g, j, none⟩ = w.frozen? ⟨g, j, none⟩ := World.frozen?_of_block hb
    rw [e1, e2]; exact h.room j hj, fun j hj => by
    have e1 : w'.cell? ⟨g, j, none⟩ = w.cell? ⟨g, j, none⟩ := World.cell?_of_block hb
    rw [e1]; exact h.cells j hj⟩
theorem OwnB.drew {w : World} {base g cap : Nat} {xs : List Int} (h : OwnB w base g cap xs) : OwnB w.drew base g cap xs := h.carry (Nat.le_refl _) rfl
theorem OwnB.alloc {w : World} {base g cap : Nat} {xs : List Int} (h : OwnB w base g cap xs) (o : Obj) : OwnB (w.alloc o) base g cap xs :=
  h.carry (by simp) (Below.heap_alloc w o g h.hi)
theorem OwnB.below {w w' : World} {base g cap : Nat} {xs : List Int} (h : OwnB w base g cap xs) (hb : Below w.heap.size w w') : OwnB w' base g cap xs :=
  h.carry hb.size (hb.block g h.hi)

theorem ownB_of_row {w : World} {base g n cap : Nat} {xs : List Int} {T : TypeId} (h : w.ownsRow base T 1 (.slice (some ⟨g, 0, none⟩) n cap) n (xs.map (Value.int .u8))) (hx : xs.length = n) : OwnB w base g cap xs := by
  have hlt := h.lt g rfl
  rcases h.2 with ⟨h0, _⟩ | ⟨g2, cap2, cur, hv, hb, hg, hn, hc, hs, ht⟩
  · cases h0
  · cases hv
    refine ⟨hb, hlt.2, by omega, hc, fun j hj => ?_, fun j hj => ?_⟩
    · have : j < cur.size := by omega
      simp [World.cell?, World.frozen?, hg, this]
    · rw [h.cellAt j (by omega)]
      simp [List.getElem?_eq_getElem hj]

theorem ownB_of_string (w : World) (s : ByteArray) (T : TypeId) (hs : s.size ≤ maxLen) :
    OwnB (w.drew.alloc (.cells (bytesRow s (grownCap w s.size 0 T)) T ((bytesRow s (grownCap w s.size 0 T)).size, (bytesRow s (grownCap w s.size 0 T)).size + 1))) w.heap.size w.heap.size (grownCap w s.size 0 T) (bytesN s) := by
  have hge := grownCap_ge w s.size 0 T
  have hle := grownCap_le_maxLen w s.size 0 T hs
  generalize grownCap w s.size 0 T = C at *
  have hsz : (bytesRow s C).size = C := by
    have : s.data.size = s.size := rfl
    simp [bytesRow, this]; omega
  have hat : (w.drew.alloc (.cells (bytesRow s C) T ((bytesRow s C).size, (bytesRow s C).size + 1))).heap[w.heap.size]? = some (.cells (bytesRow s C) T ((bytesRow s C).size, (bytesRow s C).size + 1)) := heap_alloc_new w.drew _
  refine ⟨Nat.le_refl _, by simp, by rw [bytesN_len]; exact hge, hle, fun j hj => ?_, fun j hj => ?_⟩
  · rw [hsz] at hat ⊢
    refine ⟨?_, ?_⟩
    · have : j < (bytesRow s C).size := by omega
      simp only [World.cell?, hat]
      simp [this]
    · simp only [World.frozen?, hat]
      simp; omega
  · rw [bytesN_len] at hj
    have h2 : j < s.data.size := hj
    simp only [World.cell?, hat]
    simp [bytesRow, bytesN, Array.getElem?_append, hj]

theorem append_b {P : Program} (w : World) (t ty e : TypeId) (i : TypeInfo) (ht : P.underlying t = some (.slice e)) (hi : P.info? e = some i) (hz : i.zero = some (.int .u8 0)) (hz1 : i.size = 1) (hz2 : i.bytes = 1)
    (base g cap : Nat) (xs : List Int) (h : OwnB w base g cap xs) (ad : Addr) (c : Nat) (x : Int) (hx : w.cell? (ad.add 0) = some (.int .u8 x)) (hlen : xs.length < 70368744177664) (hB : base ≤ w.heap.size) :
    ∃ g' cap' w', (Builtin.append_ #[t, t] ty #[.slice (some ⟨g, 0, none⟩) xs.length cap, .slice (some ad) 1 c]).run P w = .ok (.slice (some ⟨g', 0, none⟩) (xs.length + 1) cap') w' ∧
      OwnB w' base g' cap' (xs ++ [x]) ∧ ∀ w0, Below base w0 w → Below base w0 w' := by
  have hnews : ∀ j u, [Value.int .u8 x][j]? = some u → w.cell? (ad.add j) = some u := fun j u hj => by
    match j with
    | 0 => simp at hj; rw [hx, hj]
    | j + 1 => simp at hj
  by_cases hroom : xs.length + 1 ≤ cap
  · have hr := run_append_room_cells (P := P) w t ty e i ht hi g 0 xs.length cap ad 1 c [.int .u8 x] (by rw [hz1]; rfl) hnews (by simp [Value.oneCell']) hroom
      (fun j hj => by rw [hz1]; have : j = 0 := by simpa using hj
                      subst this; simpa using (h.room xs.length (by omega)).1)
      (fun j hj => by rw [hz1]; have : j = 0 := by simpa using hj
                      subst this; simpa using (h.room xs.length (by omega)).2)
    rw [hz1, Nat.zero_add, Nat.mul_one] at hr
    have e0 : (w.setCells g xs.length [.int .u8 x]) = w.setCell ⟨g, xs.length, none⟩ (.int .u8 x) := rfl
    rw [e0] at hr
    have hcs : (w.cell? ⟨g, xs.length, none⟩).isSome = true := (h.room xs.length (by omega)).1
    have hin := World.cell?_setCells_in g [.int .u8 x] xs.length w (fun j hj => by have : j = 0 := by simpa using hj
                                                                                   subst this; exact hcs) 0 (by simp)
    rw [e0] at hin
    have hout : ∀ j, j ≠ xs.length → (w.setCell ⟨g, xs.length, none⟩ (.int .u8 x)).cell? ⟨g, j, none⟩ = w.cell? ⟨g, j, none⟩ := fun j hj => by
      have := World.cell?_setCells_out g [.int .u8 x] xs.length w ⟨g, j, none⟩ (fun _ _ => by simp; omega)
      rwa [e0] at this
    have hfz : ∀ a, (w.setCell ⟨g, xs.length, none⟩ (.int .u8 x)).frozen? a = w.frozen? a := fun a => by
      have := World.frozen?_setCells g [.int .u8 x] xs.length w a
      rwa [e0] at this
    refine ⟨g, cap, _, hr, ⟨h.lo, by simpa using h.hi, by simpa using hroom, h.max, fun j hj => ?_, fun j hj => ?_⟩, fun w0 hb => hb.setCell h.lo _⟩
    · rw [hfz]
      refine ⟨?_, (h.room j hj).2⟩
      by_cases hjn : j = xs.length
      · subst hjn; simp at hin; simp [hin]
      · rw [hout j hjn]; exact (h.room j hj).1
    · by_cases hjn : j = xs.length
      · subst hjn; simp at hin; simp [hin]
      · have hj' : j < xs.length := by simp at hj; omega
        rw [hout j hjn, h.cells j hj', List.getElem_append_left hj']
  · obtain ⟨v', w', hr, hown, hgr⟩ := run_append_arg_grows (P := P) w t ty e i (.int .u8 0) 1 1 ht hi hz hz1 hz2 rfl (by omega) ⟨g, 0, none⟩ xs.length cap (xs.map (Value.int .u8)) (by simp)
      (fun j u hj => by
        have hjl : j < xs.length := by
          rcases Nat.lt_or_ge j xs.length with hh | hh
          · exact hh
          · rw [List.getElem?_eq_none (by simpa using hh)] at hj; cases hj
        have e : (⟨g, 0, none⟩ : Addr).add j = ⟨g, j, none⟩ := by unfold Addr.add; split <;> simp_all
        rw [e, h.cells j hjl]
        simp [List.getElem?_eq_getElem hjl] at hj
        rw [← hj]) ad 1 c [.int .u8 x] rfl hnews (by omega) (by unfold maxLen; omega) (by omega)
    obtain ⟨g', cap', rfl, hbg, hlt⟩ := hown.form (by omega)
    have ho2 := ownB_of_row (xs := xs ++ [x]) (by rw [List.map_append]; exact hown) (by simp)
    refine ⟨g', cap', w', hr, ⟨Nat.le_trans hB hbg, ho2.hi, ho2.fit, ho2.max, ho2.room, ho2.cells⟩, fun w0 hb => hb.grown hgr hB (fun k hk => by cases hk)⟩

theorem wpList_append_run {P : Program} {w : World} {ops : Array Oper} {rest : List Oper} {o : Oper} {a : Act} {Q : Exit → Act → World → Prop} (hgd : o.guard = none) (s x : Operand) (t : TypeId)
    (ho : o.op = .call { callee := .builtin .append, args := #[s, x], argTypes := #[t, t] }) (v1 v2 v' : Value) (w' : World) (hs : a.eval s = v1) (hx : a.eval x = v2)
    (hr : (Builtin.append_ #[t, t] o.type #[v1, v2]).run P w = .ok v' w') (h : wpList P ops Q rest (a.put o.dst v') w') : wpList P ops Q (o :: rest) a w :=
  wpList_plain hgd fun _ hK => by
    unfold Oper.wp execOp
    simp only [ho, resolve, invoke, builtin, Sem.run_bind, Sem.run_pure, Result.andThen_ok, List.map_toArray, List.map_cons, List.map_nil, hs, hx, hr]
    exact hK _ _ h

theorem conv_b {w : World} {base g cap : Nat} {xs : List Int} (h : OwnB w base g cap xs) (off len c : Nat) (hl : off + len ≤ xs.length) :
    (convert 124 9 (.slice (some ⟨g, off, none⟩) len c)).run Tryz.prog w = .ok (.string (strOfNums ((xs.drop off).take len))) w :=
  run_convert_bytes_arg (P := Tryz.prog) w 124 5 Tryz.underlying124 Tryz.underlying5 g off len c ((xs.drop off).take len) (by simp; omega) (fun i hi => by
    rw [h.cells (off + i) (by omega), List.getD_eq_getElem?_getD, List.getElem?_take_of_lt hi, List.getElem?_drop, List.getElem?_eq_getElem (by omega)]; rfl) 9 Tryz.underlying9
end Go.Proofs.YthfecjjahoflcaaGreatDoor
/-
  The specification's small parts of SHA-256: a number of 32 bits turned right ('turnR x k'), the keys of the rounds and the first state, each in new memory.
  Conditions: the number is from 0 to 2^32 - 1, k from 0 to 32.
-/
namespace Go.Proofs.YthfecjjahoflcaaGreatDoor
open Go.RowKit Go.Lib
set_option linter.unusedVariables false

set_option maxHeartbeats 400000 in
theorem specTurn_any (x : Int) (k : Nat) (w : World) (h0 : 0 ≤ x) (h1 : x ≤ 4294967295) (hk : k ≤ 32) :
    Calls Tryz.prog 99 #[.int .u32 x, .int .u64 k] w fun e w' => e = .returned (.int .u32 (turnR x k)) ∧ w' = w := by
  go_enter Tryz.func99, Tryz.ntmps99
  go_wp2
  go_ret
  exact ⟨rfl, rfl⟩

theorem specTurn_c (x c : Int) (w : World) (h0 : 0 ≤ x) (h1 : x ≤ 4294967295) (c0 : 0 ≤ c) (c1 : c ≤ 32) :
    Calls Tryz.prog 99 #[.int .u32 x, .int .u64 c] w fun e w' => e = .returned (.int .u32 (turnR x c.toNat)) ∧ w' = w := by
  obtain ⟨k, rfl⟩ : ∃ k : Nat, c = k := ⟨c.toNat, by omega⟩
  exact specTurn_any x k w h0 h1 (by omega)

set_option maxHeartbeats 1000000 in
set_option maxRecDepth 20000 in
theorem specStart_any (w : World) :
    Calls Tryz.prog 85 #[] w fun e w' => e = .returned (.slice (some ⟨w.heap.size, 0, none⟩) 8 8) ∧ w' = w.alloc (.cells (startN.map (Value.int .i64)).toArray 2) := by
  go_enter Tryz.func85, Tryz.ntmps85
  go_wp2
  go_ret
  exact ⟨rfl, rfl⟩

set_option maxHeartbeats 4000000 in
set_option maxRecDepth 20000 in
theorem specKeys_any (w : World) :
    Calls Tryz.prog 100 #[] w fun e w' => e = .returned (.slice (some ⟨w.heap.size, 0, none⟩) 64 64) ∧ w' = w.alloc (.cells (keysN.map (Value.int .u32)).toArray 100) := by
  go_enter Tryz.func100, Tryz.ntmps100
  go_wp2
  go_ret
  exact ⟨rfl, rfl⟩
end Go.Proofs.YthfecjjahoflcaaGreatDoor
