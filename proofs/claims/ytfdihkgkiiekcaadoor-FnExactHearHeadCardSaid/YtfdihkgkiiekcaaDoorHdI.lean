/-
  What the program's HeadRead answers: Size and Root of a head's text.
-/
import Derived.Test.YtfdihkgkiiekcaaDoorRows
import Derived.Test.YtfdihkgkiiekcaaDoorBytesDigMath
import Derived.Test.YtfdihkgkiiekcaaDoorSlASlBBxK
import Derived.Test.YtfdihkgkiiekcaaDoorTimeBFldIsAudSGrKSpecGN
import Derived.Test.YtfdihkgkiiekcaaDoorGetValGetTxtFldRdHdMath
import Derived.Test.YtfdihkgkiiekcaaDoorImplBr
import Derived.Test.YtfdihkgkiiekcaaDoorLawSigLAudMathScanMath
import Derived.Test.YtfdihkgkiiekcaaDoorAudIScopes
import Derived.Handy
import Derived.WalkSpells
import Derived.OwnWalk
import Derived.Deep.RegionHeld3
import Derived.Deep.Cut
namespace Go.Proofs.YtfdihkgkiiekcaaDoor
open Go.RowKit Go.Lib
set_option linter.unusedVariables false
set_option maxRecDepth 20000

theorem Rdr.grown {w w' : World} {P : Nat} {t : ByteArray} {a : Int} {bd : Bool} (h : Rdr w P t a bd) {row : Option Nat} (hg : w.grownBy w' row) (hne : some P ≠ row) : Rdr w' P t a bd := by
  obtain ⟨a', ev, hb, h1, h2⟩ := h
  exact ⟨a', ev, hb.grown hg hne, h1, h2⟩
/-- The answer's box, the reader's, and that of what was read so far. -/
structure HdI (w : World) (t : ByteArray) (a : Int) (bd : Bool) (s : Int) (r : ByteArray) (x : World) : Prop where
  rd : Rdr x (w.heap.size + 1) t a bd
  bx : Bxs x (w.heap.size + 2) 30 #[.string ByteArray.empty, .int .i64 s, .string r]
  rs : Bxs x w.heap.size 32 #[.string ByteArray.empty, .int .i64 0, .string ByteArray.empty, .int .i64 0]
  bel : Below w.heap.size w x
theorem HdI.call {w x y : World} {t : ByteArray} {a a' : Int} {bd bd' : Bool} {s : Int} {r : ByteArray} (h : HdI w t a bd s r x) (hr : Rdr y (w.heap.size + 1) t a' bd') (hg : x.grownBy y (some (w.heap.size + 1))) : HdI w t a' bd' s r y :=
  ⟨hr, h.bx.grown hg (by simp), h.rs.grown hg (by simp), below_turned h.bel hg h.bel.size (by omega)⟩
theorem HdI.size {w x : World} {t : ByteArray} {a : Int} {bd : Bool} {s s' : Int} {r : ByteArray} (h : HdI w t a bd s r x) : HdI w t a bd s' r (x.setCell ⟨w.heap.size + 2, 1, none⟩ (.int .i64 s')) :=
  ⟨h.rd.other _ 1 (by omega) _, h.bx.set 1 _, h.rs.other _ 1 (by omega) _, h.bel.setCell (p := ⟨w.heap.size + 2, 1, none⟩) (by show _ ≤ w.heap.size + 2; omega) _⟩
theorem HdI.root {w x : World} {t : ByteArray} {a : Int} {bd : Bool} {s : Int} {r r' : ByteArray} (h : HdI w t a bd s r x) : HdI w t a bd s r' (x.setCell ⟨w.heap.size + 2, 2, none⟩ (.string r')) :=
  ⟨h.rd.other _ 2 (by omega) _, h.bx.set 2 _, h.rs.other _ 2 (by omega) _, h.bel.setCell (p := ⟨w.heap.size + 2, 2, none⟩) (by show _ ≤ w.heap.size + 2; omega) _⟩
theorem HdI.below {w x y : World} {t : ByteArray} {a : Int} {bd : Bool} {s : Int} {r : ByteArray} (h : HdI w t a bd s r x) (hb : Below x.heap.size x y) : HdI w t a bd s r y :=
  ⟨h.rd.below hb, h.bx.below hb, h.rs.below hb, chainB h.bel hb⟩
theorem HdI.end4 {w x : World} {t : ByteArray} {a : Int} {bd : Bool} {s : Int} {r : ByteArray} (h : HdI w t a bd s r x) (v0 v1 v2 v3 : Value) :
    Bxs ((((x.setCell ⟨w.heap.size, 0, none⟩ v0).setCell ⟨w.heap.size, 1, none⟩ v1).setCell ⟨w.heap.size, 2, none⟩ v2).setCell ⟨w.heap.size, 3, none⟩ v3) w.heap.size 32 #[v0, v1, v2, v3] ∧ Below w.heap.size w ((((x.setCell ⟨w.heap.size, 0, none⟩ v0).setCell ⟨w.heap.size, 1, none⟩ v1).setCell ⟨w.heap.size, 2, none⟩ v2).setCell ⟨w.heap.size, 3, none⟩ v3) :=
  ⟨(((h.rs.set 0 _).set 1 _).set 2 _).set 3 _, below_set4 h.bel (Nat.le_refl _) _ _ _ _⟩
set_option maxHeartbeats 4000000 in
theorem implHead_any (t : ByteArray) (w : World) (ht : t.size ≤ maxLen) :
    Calls Tryd.prog 23 #[.string t] w fun e w' => e = .returned (.agg #[.string ByteArray.empty, .int .i64 (heaS t), .string (heaR t), .int .i64 (heaC t)]) ∧ Below w.heap.size w w' := by
  unfold maxLen at ht
  by_cases h1 : 8000 < t.size
  case pos =>
    obtain ⟨e1, e2, e3⟩ := hea_long h1
    rw [e1, e2, e3]
    have d1 : decide (8000 < (t.size : Int)) = true := decide_eq_true (by omega)
    clear h1 e1 e2 e3
    have HE : Hid (Below w.heap.size w (w.alloc (.cells #[.string ByteArray.empty, .int .i64 0, .string ByteArray.empty, .int .i64 2] 32))) := (Below.refl _ _).alloc (Nat.le_refl _) _
    go_enter Tryd.func23, Tryd.ntmps23
    go_wp2_with fail
    refine bodyPost_ret (v := .agg #[.string ByteArray.empty, .int .i64 0, .string ByteArray.empty, .int .i64 2]) (by simp [results, Tryd.results23, go_sem]; try rfl) rfl ?_
    exact ⟨rfl, HE.out⟩
  have d1 : decide (8000 < (t.size : Int)) = false := decide_eq_false (by omega)
  have ht8 : t.size ≤ 8000 := by omega
  have HC : Hid (∀ b, heaB t = b → heaC t = (if b = true then 0 else 3) ∧ heaS t = (if b = true then haS t else 0) ∧ heaR t = (if b = true then haR t else ByteArray.empty)) := fun b hb => by
    cases b with
    | true => exact hea_good h1 hb
    | false => exact hea_bad h1 hb
  have hle := ha_le t ht8
  have HFb : Hid (haF t = true → sizB (haS t) (haR t) = false) := ha_bad
  have HB0 : Hid (heaB t = (!(haF t) && (sizB (haS t) (haR t) && (haE t == (t.size : Int))))) := rfl
  obtain ⟨W3, hW3⟩ : ∃ W3, W3 = ((w.alloc (.cells #[.string ⟨#[]⟩, .int .i64 0, .string ⟨#[]⟩, .int .i64 0] 32)).alloc (.cells #[.string t, .int .i64 0, .nilIface] 69)).alloc (.cells #[.string ⟨#[]⟩, .int .i64 0, .string ⟨#[]⟩] 30) := ⟨_, rfl⟩
  have HW3 : Hid (W3 = ((w.alloc (.cells #[.string ⟨#[]⟩, .int .i64 0, .string ⟨#[]⟩, .int .i64 0] 32)).alloc (.cells #[.string t, .int .i64 0, .nilIface] 69)).alloc (.cells #[.string ⟨#[]⟩, .int .i64 0, .string ⟨#[]⟩] 30)) := hW3
  have H3 : Hid (HdI w t 0 false 0 ByteArray.empty W3) := by
    rw [hW3]
    have h := Bxs.new (w.alloc (.cells #[.string ⟨#[]⟩, .int .i64 0, .string ⟨#[]⟩, .int .i64 0] 32)) 69 #[.string t, .int .i64 0, .nilIface]
    rw [szA] at h
    have k := Bxs.new ((w.alloc (.cells #[.string ⟨#[]⟩, .int .i64 0, .string ⟨#[]⟩, .int .i64 0] 32)).alloc (.cells #[.string t, .int .i64 0, .nilIface] 69)) 30 #[.string ⟨#[]⟩, .int .i64 0, .string ⟨#[]⟩]
    rw [szA, szA] at k
    exact ⟨⟨0, .nilIface, h.alloc _, fun _ => ⟨rfl, rfl⟩, fun h => by cases h⟩, k, ((Bxs.new _ _ _).alloc _).alloc _, alB (alB ((Below.refl _ _).alloc (Nat.le_refl _) _) _) _⟩
  have HN := brNum_any (w.heap.size + 1) t 0 false W3 H3.out.rd ht8 (by omega)
  have HT : Hid (∀ x, Rdr x (w.heap.size + 1) t (haA t) (haB t) → Calls Tryd.prog 43 #[.pointer (some ⟨w.heap.size + 1, 0, none⟩)] x fun e w' => e = .returned (.string (haR t)) ∧ Rdr w' (w.heap.size + 1) t (haE t) (haF t) ∧ x.grownBy w' (some (w.heap.size + 1))) := fun x hx => brText_any (w.heap.size + 1) t (haA t) (haB t) x hx ht8 (by omega)
  have HS : Hid (∀ x, Calls Tryd.prog 44 #[.agg #[.string ByteArray.empty, .int .i64 (haS t), .string (haR t)]] x fun e w' => e = .returned (.bool (sizB (haS t) (haR t))) ∧ Below x.heap.size x w') := fun x => sizedRight_any ByteArray.empty (haS t) (haR t) x
  rw [show rnN t 0 false = haS t from rfl, show rnA t 0 false = haA t from rfl, show rnB t 0 false = haB t from rfl] at HN
  clear hW3 h1
  generalize haS t = NS at *
  generalize haR t = TR at *
  generalize haE t = AE at *
  generalize haF t = FE at *
  generalize haA t = AA at *
  generalize haB t = AB at *
  generalize heaB t = HB at *
  generalize heaC t = HCc at *
  generalize heaS t = HSs at *
  generalize heaR t = HRr at *
  generalize sizB NS TR = SB at *
  go_enter Tryd.func23, Tryd.ntmps23
  go_upto_region 5 with fail
  rw [← HW3.out]
  go_wp2_with fail
  with_reducible refine HN.mono ?_
  rintro e y ⟨rfl, hy, hg⟩
  have HE : Hid _ := H3.out.call hy hg
  clear hy hg H3
  have c1 := HE.out.bx.cell 1
  have f1 := HE.out.bx.fr 1
  simp at c1
  have H4 : Hid _ := HE.out.size (s' := NS)
  clear HE
  go_upto_region 6 with fail
  generalize y.setCell ⟨w.heap.size + 2, 1, none⟩ (.int .i64 NS) = y4 at *
  clear c1 f1
  go_wp2_with fail
  with_reducible refine (HT.out y4 H4.out.rd).mono ?_
  rintro e z ⟨rfl, hz, hg⟩
  have HF : Hid _ := H4.out.call hz hg
  clear hz hg H4
  have c2 := HF.out.bx.cell 2
  have f2 := HF.out.bx.fr 2
  simp at c2
  have HG0 : Hid _ := HF.out.root (r' := TR)
  clear HF
  go_upto_region 7 with fail
  generalize z.setCell ⟨w.heap.size + 2, 2, none⟩ (.string TR) = z5 at *
  clear c2 f2
  obtain ⟨a', ev, hrd, ha1, ha2⟩ := HG0.out.rd
  have r1 : z5.cell? ⟨w.heap.size + 1, 1, none⟩ = some (.int .i64 a') := hrd.cell 1
  have HA1 : Hid (FE = false → a' = AE) := fun h => (ha1 h).1
  clear hrd ha1 ha2
  have b0 : z5.cell? ⟨w.heap.size + 2, 0, none⟩ = some (.string ByteArray.empty) := HG0.out.bx.cell 0
  have b1 : z5.cell? ⟨w.heap.size + 2, 1, none⟩ = some (.int .i64 NS) := HG0.out.bx.cell 1
  have b2 : z5.cell? ⟨w.heap.size + 2, 2, none⟩ = some (.string TR) := HG0.out.bx.cell 2
  have HQ : Hid (∀ x, Below z5.heap.size z5 x → (HdI w t AE FE NS TR x) ∧ x.cell? ⟨w.heap.size, 0, none⟩ = some (.string ByteArray.empty) ∧ x.cell? ⟨w.heap.size, 1, none⟩ = some (.int .i64 0) ∧ x.cell? ⟨w.heap.size, 2, none⟩ = some (.string ByteArray.empty) ∧ x.cell? ⟨w.heap.size, 3, none⟩ = some (.int .i64 0) ∧ x.frozen? ⟨w.heap.size, 0, none⟩ = false ∧ x.frozen? ⟨w.heap.size, 1, none⟩ = false ∧ x.frozen? ⟨w.heap.size, 2, none⟩ = false ∧ x.frozen? ⟨w.heap.size, 3, none⟩ = false ∧ x.cell? ⟨w.heap.size + 2, 0, none⟩ = some (.string ByteArray.empty) ∧ x.cell? ⟨w.heap.size + 2, 1, none⟩ = some (.int .i64 NS) ∧ x.cell? ⟨w.heap.size + 2, 2, none⟩ = some (.string TR)) := fun x hb => by
    have h := HG0.out.below hb
    exact ⟨h, h.rs.cell 0, h.rs.cell 1, h.rs.cell 2, h.rs.cell 3, h.rs.fr 0, h.rs.fr 1, h.rs.fr 2, h.rs.fr 3, h.bx.cell 0, h.bx.cell 1, h.bx.cell 2⟩
  clear HG0
  have hS := HS.out z5
  by_cases c5 : a' = (t.size : Int)
  case neg =>
    have hb : HB = false := by
      rw [HB0.out]
      cases hF : FE with
      | true => rfl
      | false =>
        have e := HA1.out hF
        rw [beq_eq_false_iff_ne.2 (show AE ≠ (t.size : Int) by omega)]
        simp
    obtain ⟨e1, e2, e3⟩ := HC.out _ hb
    simp only [Bool.false_eq_true, if_false] at e1 e2 e3
    subst e1 e2 e3
    clear b0 b1 b2
    obtain ⟨hG, q0, q1, q2, q3, g0, g1, g2, g3, b0, b1, b2⟩ := HQ.out z5 (Below.refl _ _)
    have HG : Hid _ := hG
    clear hG
    go_wp2_with fail
    obtain ⟨K, HEd⟩ := HG.out.end4 (.string ⟨#[]⟩) (.int .i64 0) (.string ⟨#[]⟩) (.int .i64 3)
    generalize (((z5.setCell ⟨w.heap.size, 0, none⟩ (.string ⟨#[]⟩)).setCell ⟨w.heap.size, 1, none⟩ (.int .i64 0)).setCell ⟨w.heap.size, 2, none⟩ (.string ⟨#[]⟩)).setCell ⟨w.heap.size, 3, none⟩ (.int .i64 3) = zz at *
    have HEn : Hid (Below w.heap.size w zz) := HEd
    have k0 : zz.cell? ⟨w.heap.size, 0, none⟩ = some (.string ByteArray.empty) := K.cell 0
    have k1 : zz.cell? ⟨w.heap.size, 1, none⟩ = some (.int .i64 0) := K.cell 1
    have k2 : zz.cell? ⟨w.heap.size, 2, none⟩ = some (.string ByteArray.empty) := K.cell 2
    have k3 : zz.cell? ⟨w.heap.size, 3, none⟩ = some (.int .i64 3) := K.cell 3
    refine bodyPost_ret (v := .agg #[.string ByteArray.empty, .int .i64 0, .string ByteArray.empty, .int .i64 3]) (by simp [results, Tryd.results23, go_sem, k0, k1, k2, k3]) rfl ?_
    exact ⟨rfl, HEn.out⟩
  cases SB
  case false =>
    have hb : HB = false := by rw [HB0.out]; simp
    obtain ⟨e1, e2, e3⟩ := HC.out _ hb
    simp only [Bool.false_eq_true, if_false] at e1 e2 e3
    subst e1 e2 e3
    go_wp2_with fail
    with_reducible refine hS.mono ?_
    rintro e z6 ⟨rfl, zb⟩
    clear b0 b1 b2 r1
    obtain ⟨hG, q0, q1, q2, q3, g0, g1, g2, g3, b0, b1, b2⟩ := HQ.out z6 (zb)
    have HG : Hid _ := hG
    clear hG
    go_wp2_with fail
    obtain ⟨K, HEd⟩ := HG.out.end4 (.string ⟨#[]⟩) (.int .i64 0) (.string ⟨#[]⟩) (.int .i64 3)
    generalize (((z6.setCell ⟨w.heap.size, 0, none⟩ (.string ⟨#[]⟩)).setCell ⟨w.heap.size, 1, none⟩ (.int .i64 0)).setCell ⟨w.heap.size, 2, none⟩ (.string ⟨#[]⟩)).setCell ⟨w.heap.size, 3, none⟩ (.int .i64 3) = zz at *
    have HEn : Hid (Below w.heap.size w zz) := HEd
    have k0 : zz.cell? ⟨w.heap.size, 0, none⟩ = some (.string ByteArray.empty) := K.cell 0
    have k1 : zz.cell? ⟨w.heap.size, 1, none⟩ = some (.int .i64 0) := K.cell 1
    have k2 : zz.cell? ⟨w.heap.size, 2, none⟩ = some (.string ByteArray.empty) := K.cell 2
    have k3 : zz.cell? ⟨w.heap.size, 3, none⟩ = some (.int .i64 3) := K.cell 3
    refine bodyPost_ret (v := .agg #[.string ByteArray.empty, .int .i64 0, .string ByteArray.empty, .int .i64 3]) (by simp [results, Tryd.results23, go_sem, k0, k1, k2, k3]) rfl ?_
    exact ⟨rfl, HEn.out⟩
  have hF : FE = false := by
    cases h : FE with
    | false => rfl
    | true => exact absurd (HFb.out h) (by simp)
  have hb : HB = true := by
    have e := HA1.out hF
    rw [HB0.out, hF, beq_iff_eq.2 (show AE = (t.size : Int) by omega)]
    rfl
  obtain ⟨e1, e2, e3⟩ := HC.out _ hb
  simp only [if_true] at e1 e2 e3
  replace e2 := e2.symm
  replace e3 := e3.symm
  subst e1 e2 e3
  go_wp2_with fail
  with_reducible refine hS.mono ?_
  rintro e z6 ⟨rfl, zb⟩
  clear b0 b1 b2 r1
  obtain ⟨hG, q0, q1, q2, q3, g0, g1, g2, g3, b0, b1, b2⟩ := HQ.out z6 (zb)
  have HG : Hid _ := hG
  clear hG
  go_wp2_with fail
  obtain ⟨K, HEd⟩ := HG.out.end4 (.string ByteArray.empty) (.int .i64 NS) (.string TR) (.int .i64 0)
  generalize (((z6.setCell ⟨w.heap.size, 0, none⟩ (.string ByteArray.empty)).setCell ⟨w.heap.size, 1, none⟩ (.int .i64 NS)).setCell ⟨w.heap.size, 2, none⟩ (.string TR)).setCell ⟨w.heap.size, 3, none⟩ (.int .i64 0) = zz at *
  have HEn : Hid (Below w.heap.size w zz) := HEd
  have k0 : zz.cell? ⟨w.heap.size, 0, none⟩ = some (.string ByteArray.empty) := K.cell 0
  have k1 : zz.cell? ⟨w.heap.size, 1, none⟩ = some (.int .i64 NS) := K.cell 1
  have k2 : zz.cell? ⟨w.heap.size, 2, none⟩ = some (.string TR) := K.cell 2
  have k3 : zz.cell? ⟨w.heap.size, 3, none⟩ = some (.int .i64 0) := K.cell 3
  refine bodyPost_ret (v := .agg #[.string ByteArray.empty, .int .i64 NS, .string TR, .int .i64 0]) (by simp [results, Tryd.results23, go_sem, k0, k1, k2, k3]) rfl ?_
  exact ⟨rfl, HEn.out⟩
end Go.Proofs.YtfdihkgkiiekcaaDoor
