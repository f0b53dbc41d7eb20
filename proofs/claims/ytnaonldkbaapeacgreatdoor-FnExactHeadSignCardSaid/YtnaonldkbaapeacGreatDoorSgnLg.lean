/-
  What the specification's and the program's HeadSign answer of any log in memory: of a right one the signature of its head, else nothing; the answer owns its memory.
-/
import Derived.Test.YtnaonldkbaapeacGreatDoorRows
import Derived.Test.YtnaonldkbaapeacGreatDoorBytesDigMath
import Derived.Test.YtnaonldkbaapeacGreatDoorTreeMath
import Derived.Test.YtnaonldkbaapeacGreatDoorSlASlBBxKOwnSTakes
import Derived.Test.YtnaonldkbaapeacGreatDoorTimeBPutMathPutNum
import Derived.Test.YtnaonldkbaapeacGreatDoorJoinedPutTextFldMath
import Derived.Test.YtnaonldkbaapeacGreatDoorLgMathLgAtKShwK
import Derived.Test.YtnaonldkbaapeacGreatDoorLgAnsPlaceIEq18ImplGn
import Derived.Test.YtnaonldkbaapeacGreatDoorSignMathLgRtWide2Mac2
import Derived.Test.YtnaonldkbaapeacGreatDoorSignVPathISignIMSignIASignIB
import Derived.Test.YtnaonldkbaapeacGreatDoorSignIDgImplRightIncIImplVerImplSign
import Derived.Test.YtnaonldkbaapeacGreatDoorSpecLr
import Derived.Test.YtnaonldkbaapeacGreatDoorSpecRtImplRt
import Derived.Test.YtnaonldkbaapeacGreatDoorLogRIExtLgTabsOfTabEt
import Derived.Test.YtnaonldkbaapeacGreatDoorLawLmOpFOpLgPathMath
import Derived.Handy
import Derived.WalkSpells
import Derived.OwnWalk
namespace Go.Proofs.YtnaonldkbaapeacGreatDoor
open Go.RowKit Go.Lib
set_option linter.unusedVariables false
set_option maxRecDepth 20000

def hsK (rs : List Rw) (lv : List ByteArray) (now : Int) (seed : ByteArray) (key : Int) : Int := if lgB rs lv now = true then sgK seed key (hdB lv) else 0
def hsE (rs : List Rw) (lv : List ByteArray) (now : Int) (seed : ByteArray) (key : Int) : List ByteArray := if lgB rs lv now = true then sgE seed key (hdB lv) else []
def hsP (rs : List Rw) (lv : List ByteArray) (now : Int) (seed : ByteArray) (key : Int) : List ByteArray := if lgB rs lv now = true then sgP seed key (hdB lv) else []
theorem hdB_size (lv : List ByteArray) : 32 ≤ (hdB lv).size ∧ (hdB lv).size ≤ 1048576 := by
  unfold hdB putTextB
  have h := treeB_size lv
  have h1 : (putB (lv.length : Int)).size ≤ 10 := putB_size _
  have h2 : (putB ((treeB lv).size : Int)).size ≤ 10 := putB_size _
  rw [if_neg (by omega), ByteArray.size_append, ByteArray.size_append]
  omega
theorem hdB_ne (lv : List ByteArray) : hdB lv ≠ ByteArray.empty := fun h => by
  have := (hdB_size lv).1
  rw [h] at this
  simp at this
theorem sig_out {w y : World} (hb : Below w.heap.size w y) {g base : Nat} (hg : w.heap.size ≤ g) (hgb : g < base) {v1 v2 : Value} {E P : List ByteArray} (o1 : y.ownsRow base 9 1 v1 E.length (strRow E)) (o2 : y.ownsRow base 9 1 v2 P.length (strRow P)) (a b c : Value) :
    (((y.setCell ⟨g, 0, none⟩ a).setCell ⟨g, 1, none⟩ b).setCell ⟨g, 2, none⟩ c).ownsRow w.heap.size 9 1 v1 E.length (strRow E) ∧ (((y.setCell ⟨g, 0, none⟩ a).setCell ⟨g, 1, none⟩ b).setCell ⟨g, 2, none⟩ c).ownsRow w.heap.size 9 1 v2 P.length (strRow P) ∧ Below w.heap.size w (((y.setCell ⟨g, 0, none⟩ a).setCell ⟨g, 1, none⟩ b).setCell ⟨g, 2, none⟩ c) := by
  have hB : But (fun k => k = g) y (((y.setCell ⟨g, 0, none⟩ a).setCell ⟨g, 1, none⟩ b).setCell ⟨g, 2, none⟩ c) := (((But.refl (fun k => k = g) y).put (p := ⟨g, 0, none⟩) rfl a).put (p := ⟨g, 1, none⟩) rfl b).put (p := ⟨g, 2, none⟩) rfl c
  refine ⟨ownS_mono (ownS_but o1 hB (fun j hj e => by have := (o1.lt j hj).1; omega)) (by omega), ownS_mono (ownS_but o2 hB (fun j hj e => by have := (o2.lt j hj).1; omega)) (by omega), below_set3 hb hg _ _ _⟩
theorem sig_none (w y : World) : y.ownsRow w.heap.size 9 1 (.slice none 0 0) ([] : List ByteArray).length (strRow []) := World.ownsRow_nil _ _ _ _
set_option maxHeartbeats 2000000 in
theorem specHeadSign_any (p : Option Addr) (lv : List ByteArray) (cp : Nat) (q : Option Addr) (rs : List Rw) (cq : Nat) (now : Int) (seed : ByteArray) (key : Int) (w : World) (hs : seed.size ≤ 1048576) (hA : LgAt p lv cp q rs cq w) :
    Calls Tryz.prog 7 #[.agg #[.slice q rs.length cq, .slice p lv.length cp, .int .i64 now], .string seed, .int .i64 key] w fun e w' => ∃ v1 v2, e = .returned (.agg #[.int .i64 (hsK rs lv now seed key), v1, v2]) ∧ w'.ownsRow w.heap.size 9 1 v1 (hsE rs lv now seed key).length (strRow (hsE rs lv now seed key)) ∧ w'.ownsRow w.heap.size 9 1 v2 (hsP rs lv now seed key).length (strRow (hsP rs lv now seed key)) ∧ (v1.ownBlock = none ∨ v1.ownBlock ≠ v2.ownBlock) ∧ Below w.heap.size w w' := by
  obtain ⟨W2, hW2⟩ : ∃ W2, W2 = (w.alloc (.cells #[.slice q rs.length cq, .slice p lv.length cp, .int .i64 now] 32)).alloc (.cells #[.int .i64 0, .slice none 0 0, .slice none 0 0] 28) := ⟨_, rfl⟩
  have HW2 : Hid (W2 = (w.alloc (.cells #[.slice q rs.length cq, .slice p lv.length cp, .int .i64 now] 32)).alloc (.cells #[.int .i64 0, .slice none 0 0, .slice none 0 0] 28)) := hW2
  have B2 : Hid (Below w.heap.size w W2) := by rw [hW2]; exact ((Below.refl _ _).alloc (Nat.le_refl _) _).alloc (by simp) _
  have K1 : Hid (Bxs W2 w.heap.size 32 #[.slice q rs.length cq, .slice p lv.length cp, .int .i64 now]) := by rw [hW2]; exact (Bxs.new _ _ _).alloc _
  have K2 : Hid (Bxs W2 (w.heap.size + 1) 28 #[.int .i64 0, .slice none 0 0, .slice none 0 0]) := by
    rw [hW2]
    have := Bxs.new (w.alloc (.cells #[.slice q rs.length cq, .slice p lv.length cp, .int .i64 now] 32)) 28 #[.int .i64 0, .slice none 0 0, .slice none 0 0]
    rwa [szA] at this
  have hh := hdB_size lv
  have HSg : Hid (∀ x, Below w.heap.size w x → Calls Tryz.prog 28 #[.string seed, .int .i64 key, .string (hdB lv)] x fun e w' => ∃ v1 v2, e = .returned (.agg #[.int .i64 (sgK seed key (hdB lv)), v1, v2]) ∧ w'.ownsRow x.heap.size 9 1 v1 (sgE seed key (hdB lv)).length (strRow (sgE seed key (hdB lv))) ∧ w'.ownsRow x.heap.size 9 1 v2 (sgP seed key (hdB lv)).length (strRow (sgP seed key (hdB lv))) ∧ (v1.ownBlock = none ∨ v1.ownBlock ≠ v2.ownBlock) ∧ Below x.heap.size x w') := fun x hb => specSign_any seed key (hdB lv) x hs hh.2
  have hR := specLogRight_any p lv cp q rs cq now W2 (hA.below B2.out)
  have HH : Hid (lgB rs lv now = true → ∀ x, Below w.heap.size w x → Calls Tryz.prog 29 #[.agg #[.slice q rs.length cq, .slice p lv.length cp, .int .i64 now]] x fun e w' => e = .returned (.string (hdB lv)) ∧ Below x.heap.size x w') := fun hg x hb => l09Head_any p lv cp q rs cq now x (hA.below hb) (lg_small hg)
  have HK : Hid (∀ y, Below W2.heap.size W2 y → (y.cell? ⟨w.heap.size, 0, none⟩ = some (.slice q rs.length cq) ∧ y.cell? ⟨w.heap.size, 1, none⟩ = some (.slice p lv.length cp) ∧ y.cell? ⟨w.heap.size, 2, none⟩ = some (.int .i64 now)) ∧ (y.cell? ⟨w.heap.size + 1, 0, none⟩ = some (.int .i64 0) ∧ y.cell? ⟨w.heap.size + 1, 1, none⟩ = some (.slice none 0 0) ∧ y.cell? ⟨w.heap.size + 1, 2, none⟩ = some (.slice none 0 0)) ∧ y.frozen? ⟨w.heap.size + 1, 0, none⟩ = false ∧ y.frozen? ⟨w.heap.size + 1, 1, none⟩ = false ∧ y.frozen? ⟨w.heap.size + 1, 2, none⟩ = false) := fun y hb => ⟨⟨(K1.out.below hb).cell 0, (K1.out.below hb).cell 1, (K1.out.below hb).cell 2⟩, ⟨(K2.out.below hb).cell 0, (K2.out.below hb).cell 1, (K2.out.below hb).cell 2⟩, (K2.out.below hb).fr 0, (K2.out.below hb).fr 1, (K2.out.below hb).fr 2⟩
  have HZ : Hid (w.heap.size + 1 < W2.heap.size) := K2.out.lt
  obtain ⟨⟨x0, x1, x2⟩, -⟩ := HK.out W2 (Below.refl _ _)
  rw [HW2.out] at x0 x1 x2
  unfold hsK hsE hsP
  clear hW2 hA K1 K2 hh
  cases hg : lgB rs lv now with
  | false =>
    rw [hg] at hR
    rw [if_neg Bool.false_ne_true, if_neg Bool.false_ne_true, if_neg Bool.false_ne_true]
    clear HSg HH
    go_enter Tryz.func7, Tryz.ntmps7
    go_wp2_with fail
    rw [← HW2.out]
    refine hR.mono ?_
    rintro e y ⟨rfl, by_⟩
    obtain ⟨-, ⟨r0, r1, r2⟩, f0, f1, f2⟩ := HK.out y by_
    have HB : Hid (∀ a b c : Value, Below w.heap.size w (((y.setCell ⟨w.heap.size + 1, 0, none⟩ a).setCell ⟨w.heap.size + 1, 1, none⟩ b).setCell ⟨w.heap.size + 1, 2, none⟩ c)) := fun a b c => below_set3 (chainB B2.out by_) (Nat.le_add_right _ _) _ _ _
    clear hR x0 x1 x2 HW2 HK B2 by_
    go_wp2_with fail
    refine bodyPost_ret (v := .agg #[.int .i64 0, .slice none 0 0, .slice none 0 0]) (by simp [results, Tryz.results7, go_sem, r0, r1, r2]) rfl ?_
    exact ⟨_, _, rfl, sig_none _ _, sig_none _ _, .inl rfl, HB.out _ _ _⟩
  | true =>
    rw [hg] at hR
    rw [if_pos rfl, if_pos rfl, if_pos rfl]
    have HH2 : Hid (∀ x, Below w.heap.size w x → Calls Tryz.prog 29 #[.agg #[.slice q rs.length cq, .slice p lv.length cp, .int .i64 now]] x fun e w' => e = .returned (.string (hdB lv)) ∧ Below x.heap.size x w') := HH.out hg
    clear HH hg
    generalize hdB lv = HD at *
    generalize sgK seed key HD = K at *
    generalize sgE seed key HD = E at *
    generalize sgP seed key HD = P at *
    go_enter Tryz.func7, Tryz.ntmps7
    go_wp2_with fail
    rw [← HW2.out]
    refine hR.mono ?_
    rintro e y ⟨rfl, by_⟩
    obtain ⟨⟨x0, x1, x2⟩, -⟩ := HK.out y by_
    have hH := HH2.out y (chainB B2.out by_)
    clear hR HH2 HW2
    go_wp2_with fail
    refine hH.mono ?_
    rintro e y1 ⟨rfl, b1⟩
    have by1 : Below W2.heap.size W2 y1 := chainB by_ b1
    clear hH x0 x1 x2 by_ b1
    have hG := HSg.out y1 (chainB B2.out by1)
    clear HSg
    go_wp2_with fail
    refine hG.mono ?_
    rintro e y2 ⟨v1, v2, rfl, o1, o2, hne, b2⟩
    obtain ⟨p1, c1, rfl, m1, -⟩ := ownS_form o1
    obtain ⟨p2, c2, rfl, m2, -⟩ := ownS_form o2
    have by2 : Below W2.heap.size W2 y2 := chainB by1 b2
    obtain ⟨-, ⟨r0, r1, r2⟩, f0, f1, f2⟩ := HK.out y2 by2
    have hz := HZ.out
    have hz1 := by1.size
    have HO : Hid (∀ a b c : Value, _) := fun a b c => sig_out (chainB B2.out by2) (g := w.heap.size + 1) (by omega) (by omega) o1 o2 a b c
    have HNE : Hid ((Value.slice p1 E.length c1).ownBlock = none ∨ (Value.slice p1 E.length c1).ownBlock ≠ (Value.slice p2 P.length c2).ownBlock) := hne
    clear hG by1 b2 by2 HK B2 o1 o2 hne hz hz1 HZ
    go_wp2_with fail
    refine bodyPost_ret (v := .agg #[.int .i64 K, .slice p1 E.length c1, .slice p2 P.length c2]) (by simp [results, Tryz.results7, go_sem, r0, r1, r2]) rfl ?_
    obtain ⟨h1, h2, h3⟩ := HO.out (.int .i64 K) (.slice p1 E.length c1) (.slice p2 P.length c2)
    exact ⟨_, _, rfl, h1, h2, HNE.out, h3⟩
set_option maxHeartbeats 2000000 in
theorem implHeadSign_any (p : Option Addr) (lv : List ByteArray) (cp : Nat) (q : Option Addr) (rs : List Rw) (cq : Nat) (now : Int) (seed : ByteArray) (key : Int) (w : World) (hT : Tabs w) (hg : Laid w) (hs : seed.size ≤ 1048576) (hA : LgAt p lv cp q rs cq w) :
    Calls Tryz.prog 9 #[.agg #[.slice q rs.length cq, .slice p lv.length cp, .int .i64 now], .string seed, .int .i64 key] w fun e w' => ∃ v1 v2, e = .returned (.agg #[.int .i64 (hsK rs lv now seed key), v1, v2]) ∧ w'.ownsRow w.heap.size 9 1 v1 (hsE rs lv now seed key).length (strRow (hsE rs lv now seed key)) ∧ w'.ownsRow w.heap.size 9 1 v2 (hsP rs lv now seed key).length (strRow (hsP rs lv now seed key)) ∧ (v1.ownBlock = none ∨ v1.ownBlock ≠ v2.ownBlock) ∧ Below w.heap.size w w' := by
  obtain ⟨W2, hW2⟩ : ∃ W2, W2 = (w.alloc (.cells #[.slice q rs.length cq, .slice p lv.length cp, .int .i64 now] 32)).alloc (.cells #[.int .i64 0, .slice none 0 0, .slice none 0 0] 28) := ⟨_, rfl⟩
  have HW2 : Hid (W2 = (w.alloc (.cells #[.slice q rs.length cq, .slice p lv.length cp, .int .i64 now] 32)).alloc (.cells #[.int .i64 0, .slice none 0 0, .slice none 0 0] 28)) := hW2
  have B2 : Hid (Below w.heap.size w W2) := by rw [hW2]; exact ((Below.refl _ _).alloc (Nat.le_refl _) _).alloc (by simp) _
  have K1 : Hid (Bxs W2 w.heap.size 32 #[.slice q rs.length cq, .slice p lv.length cp, .int .i64 now]) := by rw [hW2]; exact (Bxs.new _ _ _).alloc _
  have K2 : Hid (Bxs W2 (w.heap.size + 1) 28 #[.int .i64 0, .slice none 0 0, .slice none 0 0]) := by
    rw [hW2]
    have := Bxs.new (w.alloc (.cells #[.slice q rs.length cq, .slice p lv.length cp, .int .i64 now] 32)) 28 #[.int .i64 0, .slice none 0 0, .slice none 0 0]
    rwa [szA] at this
  have hh := hdB_size lv
  have HSg : Hid (∀ x, Below w.heap.size w x → Calls Tryz.prog 33 #[.string seed, .int .i64 key, .string (hdB lv)] x fun e w' => ∃ v1 v2, e = .returned (.agg #[.int .i64 (sgK seed key (hdB lv)), v1, v2]) ∧ w'.ownsRow x.heap.size 9 1 v1 (sgE seed key (hdB lv)).length (strRow (sgE seed key (hdB lv))) ∧ w'.ownsRow x.heap.size 9 1 v2 (sgP seed key (hdB lv)).length (strRow (sgP seed key (hdB lv))) ∧ (v1.ownBlock = none ∨ v1.ownBlock ≠ v2.ownBlock) ∧ Below x.heap.size x w') := fun x hb => implSign_any seed key (hdB lv) x (hT.to hb) hs hh.2
  have hR := implHeadText_any p lv cp q rs cq now W2 (hT.to B2.out) (hg.below B2.out) (hA.below B2.out)
  have HNe : Hid (hdB lv ≠ ⟨#[]⟩) := hdB_ne lv
  unfold hdO at hR
  have HK : Hid (∀ y, Below W2.heap.size W2 y → (y.cell? ⟨w.heap.size, 0, none⟩ = some (.slice q rs.length cq) ∧ y.cell? ⟨w.heap.size, 1, none⟩ = some (.slice p lv.length cp) ∧ y.cell? ⟨w.heap.size, 2, none⟩ = some (.int .i64 now)) ∧ (y.cell? ⟨w.heap.size + 1, 0, none⟩ = some (.int .i64 0) ∧ y.cell? ⟨w.heap.size + 1, 1, none⟩ = some (.slice none 0 0) ∧ y.cell? ⟨w.heap.size + 1, 2, none⟩ = some (.slice none 0 0)) ∧ y.frozen? ⟨w.heap.size + 1, 0, none⟩ = false ∧ y.frozen? ⟨w.heap.size + 1, 1, none⟩ = false ∧ y.frozen? ⟨w.heap.size + 1, 2, none⟩ = false) := fun y hb => ⟨⟨(K1.out.below hb).cell 0, (K1.out.below hb).cell 1, (K1.out.below hb).cell 2⟩, ⟨(K2.out.below hb).cell 0, (K2.out.below hb).cell 1, (K2.out.below hb).cell 2⟩, (K2.out.below hb).fr 0, (K2.out.below hb).fr 1, (K2.out.below hb).fr 2⟩
  have HZ : Hid (w.heap.size + 1 < W2.heap.size) := K2.out.lt
  obtain ⟨⟨x0, x1, x2⟩, -⟩ := HK.out W2 (Below.refl _ _)
  rw [HW2.out] at x0 x1 x2
  unfold hsK hsE hsP
  clear hW2 hA K1 K2 hh hT hg
  cases hg : lgB rs lv now with
  | false =>
    rw [hg] at hR
    rw [if_neg Bool.false_ne_true, if_neg Bool.false_ne_true, if_neg Bool.false_ne_true]
    rw [if_neg Bool.false_ne_true] at hR
    clear HSg HNe
    go_enter Tryz.func9, Tryz.ntmps9
    go_wp2_with fail
    rw [← HW2.out]
    refine hR.mono ?_
    rintro e y ⟨rfl, by_⟩
    obtain ⟨-, ⟨r0, r1, r2⟩, f0, f1, f2⟩ := HK.out y by_
    have HB : Hid (∀ a b c : Value, Below w.heap.size w (((y.setCell ⟨w.heap.size + 1, 0, none⟩ a).setCell ⟨w.heap.size + 1, 1, none⟩ b).setCell ⟨w.heap.size + 1, 2, none⟩ c)) := fun a b c => below_set3 (chainB B2.out by_) (Nat.le_add_right _ _) _ _ _
    clear hR x0 x1 x2 HW2 HK B2 by_
    go_wp2_with fail
    refine bodyPost_ret (v := .agg #[.int .i64 0, .slice none 0 0, .slice none 0 0]) (by simp [results, Tryz.results9, go_sem, r0, r1, r2]) rfl ?_
    exact ⟨_, _, rfl, sig_none _ _, sig_none _ _, .inl rfl, HB.out _ _ _⟩
  | true =>
    rw [hg] at hR
    rw [if_pos rfl, if_pos rfl, if_pos rfl]
    rw [if_pos rfl] at hR
    clear hg
    generalize hdB lv = HD at *
    generalize sgK seed key HD = K at *
    generalize sgE seed key HD = E at *
    generalize sgP seed key HD = P at *
    go_enter Tryz.func9, Tryz.ntmps9
    go_wp2_with fail
    rw [← HW2.out]
    refine hR.mono ?_
    rintro e y ⟨rfl, by_⟩
    have by1 := by_
    obtain ⟨y1, rfl⟩ : ∃ y1, y1 = y := ⟨_, rfl⟩
    have n0 : HD ≠ ⟨#[]⟩ := HNe.out
    have d0 : (HD.toList == (⟨#[]⟩ : ByteArray).toList) = false := by
      rw [beq_eq_false_iff_ne]
      exact fun h => n0 (toList_inj h)
    have e0 : (⟨#[]⟩ : ByteArray).toList = [] := by rw [ByteArray.toList_eq]
    have d1 : (HD.toList == []) = false := by rw [← e0]; exact d0
    have d2 : HD.toList ≠ [] := by rw [← e0]; exact fun h => n0 (toList_inj h)
    clear e0
    clear hR x0 x1 x2 HW2 by_
    have hG := HSg.out y1 (chainB B2.out by1)
    clear HSg
    go_wp2_with fail
    refine hG.mono ?_
    rintro e y2 ⟨v1, v2, rfl, o1, o2, hne, b2⟩
    obtain ⟨p1, c1, rfl, m1, -⟩ := ownS_form o1
    obtain ⟨p2, c2, rfl, m2, -⟩ := ownS_form o2
    have by2 : Below W2.heap.size W2 y2 := chainB by1 b2
    obtain ⟨-, ⟨r0, r1, r2⟩, f0, f1, f2⟩ := HK.out y2 by2
    have hz := HZ.out
    have hz1 := by1.size
    have HO : Hid (∀ a b c : Value, _) := fun a b c => sig_out (chainB B2.out by2) (g := w.heap.size + 1) (by omega) (by omega) o1 o2 a b c
    have HNE : Hid ((Value.slice p1 E.length c1).ownBlock = none ∨ (Value.slice p1 E.length c1).ownBlock ≠ (Value.slice p2 P.length c2).ownBlock) := hne
    clear hG by1 b2 by2 HK B2 o1 o2 hne hz hz1 HZ
    go_wp2_with fail
    refine bodyPost_ret (v := .agg #[.int .i64 K, .slice p1 E.length c1, .slice p2 P.length c2]) (by simp [results, Tryz.results9, go_sem, r0, r1, r2]) rfl ?_
    obtain ⟨h1, h2, h3⟩ := HO.out (.int .i64 K) (.slice p1 E.length c1) (.slice p2 P.length c2)
    exact ⟨_, _, rfl, h1, h2, HNE.out, h3⟩
end Go.Proofs.YtnaonldkbaapeacGreatDoor
