/-
  What the specification's HeadRead answers: Size and Root of a head's text.
-/
import Derived.Test.YtfdihkgkiiekcaaDoorRows
import Derived.Test.YtfdihkgkiiekcaaDoorBytesDigMath
import Derived.Test.YtfdihkgkiiekcaaDoorSlASlBBxK
import Derived.Test.YtfdihkgkiiekcaaDoorTakesLTillTwo
import Derived.Test.YtfdihkgkiiekcaaDoorTimeBFldIsAudSGrKSpecGN
import Derived.Test.YtfdihkgkiiekcaaDoorGetValGetTxtFldRdHdMath
import Derived.Test.YtfdihkgkiiekcaaDoorFldN
import Derived.Test.YtfdihkgkiiekcaaDoorLawSigLAudMathScanMath
import Derived.Handy
import Derived.WalkSpells
import Derived.OwnWalk
import Derived.Deep.RegionHeld3
import Derived.Deep.Cut
import Derived.Deep.CutRange
namespace Go.Proofs.YtfdihkgkiiekcaaDoor
open Go.RowKit Go.Lib
set_option linter.unusedVariables false
set_option maxRecDepth 20000

/-- The answer's box, the reader's, and that of what was read so far. -/
structure HdS (w : World) (E : Nat) (t : ByteArray) (a : Int) (bd : Bool) (s : Int) (r : ByteArray) (x : World) : Prop where
  rd : Bxs x (w.heap.size + 1) 54 #[.string t, .int .i64 a, .bool bd]
  bx : Bxs x E 30 #[.string ByteArray.empty, .int .i64 s, .string r]
  rs : Bxs x w.heap.size 32 #[.string ByteArray.empty, .int .i64 0, .string ByteArray.empty, .int .i64 0]
  bel : Below w.heap.size w x
  eb : w.heap.size + 1 < E
theorem HdS.call {w x y : World} {E : Nat} {t : ByteArray} {a a' : Int} {bd bd' : Bool} {s : Int} {r : ByteArray} (h : HdS w E t a bd s r x) (hr : Bxs y (w.heap.size + 1) 54 #[.string t, .int .i64 a', .bool bd']) (hg : x.grownBy y (some (w.heap.size + 1))) : HdS w E t a' bd' s r y :=
  ⟨hr, h.bx.grown hg (by have := h.eb; simp; omega), h.rs.grown hg (by simp), below_turned h.bel hg h.bel.size (by omega), h.eb⟩
theorem HdS.root {w x : World} {E : Nat} {t : ByteArray} {a : Int} {bd : Bool} {s : Int} {r r' : ByteArray} (h : HdS w E t a bd s r x) : HdS w E t a bd s r' (x.setCell ⟨E, 2, none⟩ (.string r')) :=
  ⟨h.rd.other E 2 (by have := h.eb; omega) _, h.bx.set 2 _, h.rs.other E 2 (by have := h.eb; omega) _, h.bel.setCell (p := ⟨E, 2, none⟩) (by have := h.eb; show _ ≤ E; omega) _, h.eb⟩
theorem HdS.end4 {w x : World} {E : Nat} {t : ByteArray} {a : Int} {bd : Bool} {s : Int} {r : ByteArray} (h : HdS w E t a bd s r x) (v0 v1 v2 v3 : Value) :
    Bxs ((((x.setCell ⟨w.heap.size, 0, none⟩ v0).setCell ⟨w.heap.size, 1, none⟩ v1).setCell ⟨w.heap.size, 2, none⟩ v2).setCell ⟨w.heap.size, 3, none⟩ v3) w.heap.size 32 #[v0, v1, v2, v3] ∧ Below w.heap.size w ((((x.setCell ⟨w.heap.size, 0, none⟩ v0).setCell ⟨w.heap.size, 1, none⟩ v1).setCell ⟨w.heap.size, 2, none⟩ v2).setCell ⟨w.heap.size, 3, none⟩ v3) :=
  ⟨(((h.rs.set 0 _).set 1 _).set 2 _).set 3 _, below_set4 h.bel (Nat.le_refl _) _ _ _ _⟩
set_option maxHeartbeats 4000000 in
theorem specHead_any (t : ByteArray) (w : World) (ht : t.size ≤ maxLen) :
    Calls Tryd.prog 19 #[.string t] w fun e w' => e = .returned (.agg #[.string ByteArray.empty, .int .i64 (heaS t), .string (heaR t), .int .i64 (heaC t)]) ∧ Below w.heap.size w w' := by
  unfold maxLen at ht
  by_cases h1 : 8000 < t.size
  case pos =>
    obtain ⟨e1, e2, e3⟩ := hea_long h1
    rw [e1, e2, e3]
    have d1 : decide (8000 < (t.size : Int)) = true := decide_eq_true (by omega)
    clear h1 e1 e2 e3
    have HE : Hid (Below w.heap.size w (w.alloc (.cells #[.string ByteArray.empty, .int .i64 0, .string ByteArray.empty, .int .i64 2] 32))) := (Below.refl _ _).alloc (Nat.le_refl _) _
    go_enter Tryd.func19, Tryd.ntmps19
    go_wp2_with fail
    refine bodyPost_ret (v := .agg #[.string ByteArray.empty, .int .i64 0, .string ByteArray.empty, .int .i64 2]) (by simp [results, Tryd.results19, go_sem]; try rfl) rfl ?_
    exact ⟨rfl, HE.out⟩
  have d1 : decide (8000 < (t.size : Int)) = false := decide_eq_false (by omega)
  have ht8 : t.size ≤ 8000 := by omega
  have HC : Hid (∀ b, heaB t = b → heaC t = (if b = true then 0 else 3) ∧ heaS t = (if b = true then haS t else 0) ∧ heaR t = (if b = true then haR t else ByteArray.empty)) := fun b hb => by
    cases b with
    | true => exact hea_good h1 hb
    | false => exact hea_bad h1 hb
  have hle := ha_le t ht8
  obtain ⟨W2, hW2⟩ : ∃ W2, W2 = (w.alloc (.cells #[.string ⟨#[]⟩, .int .i64 0, .string ⟨#[]⟩, .int .i64 0] 32)).alloc (.cells #[.string t, .int .i64 0, .bool false] 54) := ⟨_, rfl⟩
  have HW2 : Hid (W2 = (w.alloc (.cells #[.string ⟨#[]⟩, .int .i64 0, .string ⟨#[]⟩, .int .i64 0] 32)).alloc (.cells #[.string t, .int .i64 0, .bool false] 54)) := hW2
  have S2 : Hid (W2.heap.size = w.heap.size + 2) := by show _ = _; rw [hW2, szA, szA]
  have B2 : Hid (Below w.heap.size w W2) := by rw [hW2]; exact alB ((Below.refl _ _).alloc (Nat.le_refl _) _) _
  have R2 : Hid (Bxs W2 w.heap.size 32 #[.string ByteArray.empty, .int .i64 0, .string ByteArray.empty, .int .i64 0]) := by rw [hW2]; exact (Bxs.new _ _ _).alloc _
  have K2 : Hid (Bxs W2 (w.heap.size + 1) 54 #[.string t, .int .i64 0, .bool false]) := by
    rw [hW2]
    have h := Bxs.new (w.alloc (.cells #[.string ⟨#[]⟩, .int .i64 0, .string ⟨#[]⟩, .int .i64 0] 32)) 54 #[.string t, .int .i64 0, .bool false]
    rwa [szA] at h
  have HN : Hid (∀ x, Below W2.heap.size W2 x → Calls Tryd.prog 30 #[.pointer (some ⟨w.heap.size + 1, 0, none⟩)] x fun e w' => e = .returned (.int .i64 (haS t)) ∧ Bxs w' (w.heap.size + 1) 54 #[.string t, .int .i64 (haA t), .bool (haB t)] ∧ x.grownBy w' (some (w.heap.size + 1))) := fun x hx => rdNum_any (w.heap.size + 1) t 0 false x (K2.out.below hx) ht8 (by omega)
  have HT : Hid (∀ x, Bxs x (w.heap.size + 1) 54 #[.string t, .int .i64 (haA t), .bool (haB t)] → Calls Tryd.prog 31 #[.pointer (some ⟨w.heap.size + 1, 0, none⟩)] x fun e w' => e = .returned (.string (haR t)) ∧ Bxs w' (w.heap.size + 1) 54 #[.string t, .int .i64 (haE t), .bool (haF t)] ∧ x.grownBy w' (some (w.heap.size + 1))) := fun x hx => rdText_any (w.heap.size + 1) t (haA t) (haB t) x hx ht8 (by omega)
  have HEa : Hid (∀ y, Bxs y (w.heap.size + 1) 54 #[.string t, .int .i64 (haA t), .bool (haB t)] → W2.grownBy y (some (w.heap.size + 1)) → HdS w y.heap.size t (haA t) (haB t) (haS t) ByteArray.empty (y.alloc (.cells #[.string ⟨#[]⟩, .int .i64 (haS t), .string ⟨#[]⟩] 30))) := fun y hy hg => by
    have h2 := S2.out
    have h3 := hg.size
    have hb : Below w.heap.size w y := below_turned B2.out hg B2.out.size (by omega)
    exact ⟨hy.alloc _, Bxs.new _ _ _, (R2.out.grown hg (by simp)).alloc _, alB hb _, by omega⟩
  have HI : Hid (∀ x, Calls Tryd.prog 29 #[.int .i64 (haS t), .int .i64 1, .int .i64 64] x fun e w' => e = .returned (.bool (decide (1 ≤ haS t ∧ haS t ≤ 64))) ∧ w' = x) := fun x => l07Is_any _ _ _ x
  have HB0 : Hid (heaB t = (!(haF t) && ((decide (1 ≤ haS t ∧ haS t ≤ 64) && decide ((haR t).size = 32)) && (haE t == (t.size : Int))))) := rfl
  clear hW2 h1 K2
  generalize haS t = NS at *
  generalize haR t = TR at *
  generalize haE t = AE at *
  generalize haF t = FE at *
  generalize haA t = AA at *
  generalize haB t = AB at *
  generalize heaB t = HB at *
  generalize heaC t = HCc at *
  generalize heaS t = HSs at *
  generalize heaR t = HRr at *
  go_enter Tryd.func19, Tryd.ntmps19
  go_upto_region 4 with fail
  rw [← HW2.out]
  go_wp2_with fail
  with_reducible refine (HN.out W2 (Below.refl _ _)).mono ?_
  rintro e y ⟨rfl, hy, hg⟩
  have HE : Hid _ := HEa.out y hy hg
  clear hy hg
  go_upto_region 5 with fail
  obtain ⟨E, hE⟩ : ∃ E, E = y.heap.size := ⟨_, rfl⟩
  have hE2 : y.heap.size = E := hE.symm
  rw [hE2] at HE ⊢
  clear hE
  generalize y.alloc (.cells #[.string ⟨#[]⟩, .int .i64 NS, .string ⟨#[]⟩] 30) = y4 at *
  clear hE2
  go_wp2_with fail
  with_reducible refine (HT.out y4 HE.out.rd).mono ?_
  rintro e z ⟨rfl, hz, hg⟩
  have HF : Hid _ := HE.out.call hz hg
  clear hz hg HE
  have c2 := HF.out.bx.cell 2
  have f2 := HF.out.bx.fr 2
  simp at c2
  have HG : Hid _ := HF.out.root (r' := TR)
  clear HF
  go_upto_region 6 with fail
  generalize z.setCell ⟨E, 2, none⟩ (.string TR) = z5 at *
  clear c2 f2
  have hI := HI.out z5
  have b1 : z5.cell? ⟨E, 1, none⟩ = some (.int .i64 NS) := HG.out.bx.cell 1
  have b2 : z5.cell? ⟨E, 2, none⟩ = some (.string TR) := HG.out.bx.cell 2
  have r1 : z5.cell? ⟨w.heap.size + 1, 1, none⟩ = some (.int .i64 AE) := HG.out.rd.cell 1
  have r2 : z5.cell? ⟨w.heap.size + 1, 2, none⟩ = some (.bool FE) := HG.out.rd.cell 2
  have g0 := HG.out.rs.fr 0
  have g1 := HG.out.rs.fr 1
  have g2 := HG.out.rs.fr 2
  have g3 := HG.out.rs.fr 3
  have q0 : z5.cell? ⟨w.heap.size, 0, none⟩ = some (.string ByteArray.empty) := HG.out.rs.cell 0
  have q1 : z5.cell? ⟨w.heap.size, 1, none⟩ = some (.int .i64 0) := HG.out.rs.cell 1
  have q2 : z5.cell? ⟨w.heap.size, 2, none⟩ = some (.string ByteArray.empty) := HG.out.rs.cell 2
  have q3 : z5.cell? ⟨w.heap.size, 3, none⟩ = some (.int .i64 0) := HG.out.rs.cell 3
  have b0 : z5.cell? ⟨E, 0, none⟩ = some (.string ByteArray.empty) := HG.out.bx.cell 0
  have d4 : (AE == (t.size : Int)) = decide (AE = (t.size : Int)) := by
    by_cases h : AE = (t.size : Int)
    · rw [decide_eq_true h]; exact beq_iff_eq.2 h
    · rw [decide_eq_false h]; exact beq_eq_false_iff_ne.2 h
  cases hF : FE
  case true =>
    rw [hF] at r2
    have hb : HB = false := by rw [HB0.out]; rw [hF]; rfl
    obtain ⟨e1, e2, e3⟩ := HC.out _ hb
    simp only [Bool.false_eq_true, if_false] at e1 e2 e3
    subst e1 e2 e3
    go_wp2_with fail
    obtain ⟨K, HEd⟩ := HG.out.end4 (.string ⟨#[]⟩) (.int .i64 0) (.string ⟨#[]⟩) (.int .i64 3)
    generalize ((((z5.setCell ⟨w.heap.size, 0, none⟩ (.string ⟨#[]⟩)).setCell ⟨w.heap.size, 1, none⟩ (.int .i64 0)).setCell ⟨w.heap.size, 2, none⟩ (.string ⟨#[]⟩)).setCell ⟨w.heap.size, 3, none⟩ (.int .i64 3)) = zz at *
    have HEn : Hid (Below w.heap.size w zz) := HEd
    have k0 : zz.cell? ⟨w.heap.size, 0, none⟩ = some (.string ByteArray.empty) := K.cell 0
    have k1 : zz.cell? ⟨w.heap.size, 1, none⟩ = some (.int .i64 0) := K.cell 1
    have k2 : zz.cell? ⟨w.heap.size, 2, none⟩ = some (.string ByteArray.empty) := K.cell 2
    have k3 : zz.cell? ⟨w.heap.size, 3, none⟩ = some (.int .i64 3) := K.cell 3
    refine bodyPost_ret (v := .agg #[.string ByteArray.empty, .int .i64 0, .string ByteArray.empty, .int .i64 3]) (by simp [results, Tryd.results19, go_sem, k0, k1, k2, k3]) rfl ?_
    exact ⟨rfl, HEn.out⟩
  rw [hF] at r2 HB0
  generalize decide (1 ≤ NS ∧ NS ≤ 64) = IB at *
  cases IB
  case false =>
    have hb : HB = false := by rw [HB0.out]; simp
    obtain ⟨e1, e2, e3⟩ := HC.out _ hb
    simp only [Bool.false_eq_true, if_false] at e1 e2 e3
    subst e1 e2 e3
    go_wp2_with fail
    refine hI.mono ?_
    rintro e z6 ⟨rfl, rfl⟩
    go_wp2_with fail
    obtain ⟨K, HEd⟩ := HG.out.end4 (.string ⟨#[]⟩) (.int .i64 0) (.string ⟨#[]⟩) (.int .i64 3)
    generalize ((((z6.setCell ⟨w.heap.size, 0, none⟩ (.string ⟨#[]⟩)).setCell ⟨w.heap.size, 1, none⟩ (.int .i64 0)).setCell ⟨w.heap.size, 2, none⟩ (.string ⟨#[]⟩)).setCell ⟨w.heap.size, 3, none⟩ (.int .i64 3)) = zz at *
    have HEn : Hid (Below w.heap.size w zz) := HEd
    have k0 : zz.cell? ⟨w.heap.size, 0, none⟩ = some (.string ByteArray.empty) := K.cell 0
    have k1 : zz.cell? ⟨w.heap.size, 1, none⟩ = some (.int .i64 0) := K.cell 1
    have k2 : zz.cell? ⟨w.heap.size, 2, none⟩ = some (.string ByteArray.empty) := K.cell 2
    have k3 : zz.cell? ⟨w.heap.size, 3, none⟩ = some (.int .i64 3) := K.cell 3
    refine bodyPost_ret (v := .agg #[.string ByteArray.empty, .int .i64 0, .string ByteArray.empty, .int .i64 3]) (by simp [results, Tryd.results19, go_sem, k0, k1, k2, k3]) rfl ?_
    exact ⟨rfl, HEn.out⟩
  by_cases c4 : TR.size = 32
  case neg =>
    have f4 : ¬ (TR.size : Int) = 32 := by omega
    have hb : HB = false := by rw [HB0.out]; rw [decide_eq_false c4]; simp
    obtain ⟨e1, e2, e3⟩ := HC.out _ hb
    simp only [Bool.false_eq_true, if_false] at e1 e2 e3
    subst e1 e2 e3
    go_wp2_with fail
    refine hI.mono ?_
    rintro e z6 ⟨rfl, rfl⟩
    go_wp2_with fail
    obtain ⟨K, HEd⟩ := HG.out.end4 (.string ⟨#[]⟩) (.int .i64 0) (.string ⟨#[]⟩) (.int .i64 3)
    generalize ((((z6.setCell ⟨w.heap.size, 0, none⟩ (.string ⟨#[]⟩)).setCell ⟨w.heap.size, 1, none⟩ (.int .i64 0)).setCell ⟨w.heap.size, 2, none⟩ (.string ⟨#[]⟩)).setCell ⟨w.heap.size, 3, none⟩ (.int .i64 3)) = zz at *
    have HEn : Hid (Below w.heap.size w zz) := HEd
    have k0 : zz.cell? ⟨w.heap.size, 0, none⟩ = some (.string ByteArray.empty) := K.cell 0
    have k1 : zz.cell? ⟨w.heap.size, 1, none⟩ = some (.int .i64 0) := K.cell 1
    have k2 : zz.cell? ⟨w.heap.size, 2, none⟩ = some (.string ByteArray.empty) := K.cell 2
    have k3 : zz.cell? ⟨w.heap.size, 3, none⟩ = some (.int .i64 3) := K.cell 3
    refine bodyPost_ret (v := .agg #[.string ByteArray.empty, .int .i64 0, .string ByteArray.empty, .int .i64 3]) (by simp [results, Tryd.results19, go_sem, k0, k1, k2, k3]) rfl ?_
    exact ⟨rfl, HEn.out⟩
  have f4 : (TR.size : Int) = 32 := by omega
  by_cases c5 : AE = (t.size : Int)
  case neg =>
    rw [decide_eq_false c5] at d4
    have hb : HB = false := by rw [HB0.out]; rw [d4]; simp
    obtain ⟨e1, e2, e3⟩ := HC.out _ hb
    simp only [Bool.false_eq_true, if_false] at e1 e2 e3
    subst e1 e2 e3
    go_wp2_with fail
    refine hI.mono ?_
    rintro e z6 ⟨rfl, rfl⟩
    go_wp2_with fail
    obtain ⟨K, HEd⟩ := HG.out.end4 (.string ⟨#[]⟩) (.int .i64 0) (.string ⟨#[]⟩) (.int .i64 3)
    generalize ((((z6.setCell ⟨w.heap.size, 0, none⟩ (.string ⟨#[]⟩)).setCell ⟨w.heap.size, 1, none⟩ (.int .i64 0)).setCell ⟨w.heap.size, 2, none⟩ (.string ⟨#[]⟩)).setCell ⟨w.heap.size, 3, none⟩ (.int .i64 3)) = zz at *
    have HEn : Hid (Below w.heap.size w zz) := HEd
    have k0 : zz.cell? ⟨w.heap.size, 0, none⟩ = some (.string ByteArray.empty) := K.cell 0
    have k1 : zz.cell? ⟨w.heap.size, 1, none⟩ = some (.int .i64 0) := K.cell 1
    have k2 : zz.cell? ⟨w.heap.size, 2, none⟩ = some (.string ByteArray.empty) := K.cell 2
    have k3 : zz.cell? ⟨w.heap.size, 3, none⟩ = some (.int .i64 3) := K.cell 3
    refine bodyPost_ret (v := .agg #[.string ByteArray.empty, .int .i64 0, .string ByteArray.empty, .int .i64 3]) (by simp [results, Tryd.results19, go_sem, k0, k1, k2, k3]) rfl ?_
    exact ⟨rfl, HEn.out⟩
  have hb : HB = true := by rw [HB0.out, d4, decide_eq_true c4, decide_eq_true c5]; rfl
  rw [decide_eq_true c5] at d4
  obtain ⟨e1, e2, e3⟩ := HC.out _ hb
  simp only [if_true] at e1 e2 e3
  replace e2 := e2.symm
  replace e3 := e3.symm
  subst e1 e2 e3
  go_wp2_with fail
  refine hI.mono ?_
  rintro e z6 ⟨rfl, rfl⟩
  go_wp2_with fail
  obtain ⟨K, HEd⟩ := HG.out.end4 (.string ByteArray.empty) (.int .i64 NS) (.string TR) (.int .i64 0)
  generalize ((((z6.setCell ⟨w.heap.size, 0, none⟩ (.string ByteArray.empty)).setCell ⟨w.heap.size, 1, none⟩ (.int .i64 NS)).setCell ⟨w.heap.size, 2, none⟩ (.string TR)).setCell ⟨w.heap.size, 3, none⟩ (.int .i64 0)) = zz at *
  have HEn : Hid (Below w.heap.size w zz) := HEd
  have k0 : zz.cell? ⟨w.heap.size, 0, none⟩ = some (.string ByteArray.empty) := K.cell 0
  have k1 : zz.cell? ⟨w.heap.size, 1, none⟩ = some (.int .i64 NS) := K.cell 1
  have k2 : zz.cell? ⟨w.heap.size, 2, none⟩ = some (.string TR) := K.cell 2
  have k3 : zz.cell? ⟨w.heap.size, 3, none⟩ = some (.int .i64 0) := K.cell 3
  refine bodyPost_ret (v := .agg #[.string ByteArray.empty, .int .i64 NS, .string TR, .int .i64 0]) (by simp [results, Tryd.results19, go_sem, k0, k1, k2, k3]) rfl ?_
  exact ⟨rfl, HEn.out⟩
end Go.Proofs.YtfdihkgkiiekcaaDoor
