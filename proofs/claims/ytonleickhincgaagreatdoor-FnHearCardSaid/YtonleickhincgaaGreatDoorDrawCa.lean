/-
  What l12Case draws: a log and an Auditor of small texts.
  Conditions: the source is one ('Src').
-/
import Derived.Test.YtonleickhincgaaGreatDoorRows
import Derived.Test.YtonleickhincgaaGreatDoorBytesDigMath
import Derived.Test.YtonleickhincgaaGreatDoorTreeMathSlABxKSlBOwnS
import Derived.Test.YtonleickhincgaaGreatDoorLgLawTakesTakesLPutterPathI
import Derived.Test.YtonleickhincgaaGreatDoorFldIsTimeIGrKSpecGNSpecGTTillTwoFldN
import Derived.Test.YtonleickhincgaaGreatDoorMac2AppSSrcDrawsDrawKitSomeIsInSignSSignDWide2StepAppPath2DigestDrawTreeSpoil
import Derived.Test.YtonleickhincgaaGreatDoorTimeBPutMathPutNumJoinedPutTextFldMath
import Derived.Test.YtonleickhincgaaGreatDoorGetValGetTxtNumMathFldRdNumFromTmbMathLgMath
import Derived.Test.YtonleickhincgaaGreatDoorLgAtKLgAnsLgRtAudMathHdMathClaMathHearMathFldGOneKFldBlkRwBlkRowOps
import Derived.Test.YtonleickhincgaaGreatDoorLgOLtMathLfMathLaMath
import Derived.Test.YtonleickhincgaaGreatDoorLfSDrawLoDrawLoMSpoilT
import Derived.Test.YtonleickhincgaaGreatDoorDrawLog
import Derived.Test.YtonleickhincgaaGreatDoorAll2LeafNode
import Derived.Test.YtonleickhincgaaGreatDoorSpecLr
import Derived.Test.YtonleickhincgaaGreatDoorDrawLkDrawCkSpecRtDrawPg
import Derived.Handy
import Derived.WalkSpells
import Derived.OwnWalk
import Derived.Deep.RegionWith
import Derived.Deep.RegionHeld3
import Derived.Deep.Cut
import Derived.Deep.CutRange
namespace Go.Proofs.YtonleickhincgaaGreatDoor
open Go.RowKit Go.Lib
set_option linter.unusedVariables false
set_option maxRecDepth 20000

def DrawnCa (B p : Nat) (a : Option Addr) (len cap : Nat) (w : World) (e : Ending) (w' : World) : Prop :=
  (∃ (q : Option Addr) (cq : Nat) (rs : List Rw) (p' : Option Addr) (cp : Nat) (lv : List ByteArray) (now : Int) (ak : ByteArray) (az : Int) (ar : ByteArray), e = .returned (.tuple #[.agg #[.slice q rs.length cq, .slice p' lv.length cp, .int .i64 now], .agg #[.string ak, .int .i64 az, .string ar]]) ∧ LgHi w.heap.size p' lv cp q rs cq w' ∧ LoF rs lv now ∧ AudZ ak az ar) ∧ Src 126 B p a len cap w' ∧ w.grownBy w' (some p)
set_option maxHeartbeats 8000000 in
theorem l12Case_drawn (B p : Nat) (a : Option Addr) (len cap : Nat) (w : World) (hs0 : Src 126 B p a len cap w) :
    Calls Tryz.prog 28 #[.pointer (some ⟨p, 0, none⟩)] w (DrawnCa B p a len cap w) := by
  have hp := hs0.lt
  obtain ⟨W1, hW1⟩ : ∃ W1, W1 = (w.alloc (.cells #[.slice none 0 0, .slice none 0 0, .int .i64 0] 41)).alloc (.cells #[.string ⟨#[]⟩, .int .i64 0, .string ⟨#[]⟩] 24) := ⟨_, rfl⟩
  have HW1 : Hid (W1 = (w.alloc (.cells #[.slice none 0 0, .slice none 0 0, .int .i64 0] 41)).alloc (.cells #[.string ⟨#[]⟩, .int .i64 0, .string ⟨#[]⟩] 24)) := hW1
  have b1 : Below w.heap.size w W1 := by rw [hW1]; exact alB ((Below.refl _ _).alloc (Nat.le_refl _) _) _
  have R1 : Bxs W1 w.heap.size 41 #[.slice none 0 0, .slice none 0 0, .int .i64 0] := by rw [hW1]; exact (Bxs.new _ _ _).alloc _
  have R2 : Bxs W1 (w.heap.size + 1) 24 #[.string ⟨#[]⟩, .int .i64 0, .string ⟨#[]⟩] := by
    rw [hW1]
    have h := Bxs.new (w.alloc (.cells #[.slice none 0 0, .slice none 0 0, .int .i64 0] 41)) 24 #[.string ⟨#[]⟩, .int .i64 0, .string ⟨#[]⟩]
    rwa [szA] at h
  have z1 : Hid (W1.heap.size = w.heap.size + 1 + 1) := by rw [hW1]; show _ = _; rw [szA, szA]
  have hs1 : Hid (Src 126 B p a len cap W1) := hs0.below b1
  have HRes : Hid (∀ x, W1.grownBy x (some p) → Bxs x w.heap.size 41 #[.slice none 0 0, .slice none 0 0, .int .i64 0] ∧ Bxs x (w.heap.size + 1) 24 #[.string ⟨#[]⟩, .int .i64 0, .string ⟨#[]⟩]) := fun x hg => ⟨R1.grown hg (fun e => by cases e; omega), R2.grown hg (fun e => by cases e; omega)⟩
  have HG1 : Hid (w.grownBy W1 (some p)) := grown_below b1
  clear hW1 R1 R2 b1 hs0
  go_enter Tryz.func28, Tryz.ntmps28
  go_wp2_with fail
  rw [← HW1.out]
  refine (l09Log_drawn B p a len cap _ hs1.out).mono ?_
  rintro e y1 ⟨⟨q, cq, rs, p', cp, lv, now, rfl, hi, hf⟩, s2, g2⟩
  obtain ⟨y2, hy2⟩ : ∃ y2, y2 = y1.alloc (.cells #[.slice q rs.length cq, .slice p' lv.length cp, .int .i64 now] 41) := ⟨_, rfl⟩
  have HY2 : Hid (y2 = y1.alloc (.cells #[.slice q rs.length cq, .slice p' lv.length cp, .int .i64 now] 41)) := hy2
  clear HW1
  go_wp2_with fail
  rw [← HY2.out]
  refine (specAll_any ⟨#[107]⟩ y2 (by decide)).mono ?_
  rintro e y3 ⟨rfl, b3⟩
  obtain ⟨y4, hy4⟩ : ∃ y4, y4 = y3.alloc (.cells #[.string (digB ⟨#[107]⟩), .int .i64 0, .string ⟨#[]⟩] 24) := ⟨_, rfl⟩
  have HY4 : Hid (y4 = y3.alloc (.cells #[.string (digB ⟨#[107]⟩), .int .i64 0, .string ⟨#[]⟩] 24)) := hy4
  obtain ⟨X, hX⟩ : ∃ X, X = y1.heap.size := ⟨_, rfl⟩
  have HX0 : Hid (X = y1.heap.size) := hX
  obtain ⟨A, hA⟩ : ∃ A, A = y3.heap.size := ⟨_, rfl⟩
  have HA0 : Hid (A = y3.heap.size) := hA
  have S4 : Hid (LkS W1 B p a len cap X q cq rs p' cp lv now A (digB ⟨#[107]⟩) 0 ⟨#[]⟩ y4) := by
    rw [hX]
    exact LkS.new hs1.out s2 g2 hi hy2 (chainB b3 (by rw [hy4]; exact (Below.refl _ _).alloc (Nat.le_refl _) _)) (by rw [hy4, hA]; exact Bxs.new _ _ _) (by rw [hA]; exact b3.size)
  have HK32 : Hid ((digB ⟨#[107]⟩).size = 32) := digB_size _
  have HF : Hid (LoF rs lv now) := hf
  have HSz : Hid (p < W1.heap.size) := hs1.out.lt
  clear hX hA hy4 hy2 b3 hi s2 g2 hs1 hf
  generalize digB ⟨#[107]⟩ = ak at *
  have HEnd : Hid (∀ (ak2 : ByteArray) (as2 : Int) (ar2 : ByteArray) (x : World) (u0 u1 u2 u3 u4 u5 : Value), LkS W1 B p a len cap X q cq rs p' cp lv now A ak2 as2 ar2 x → AudZ ak2 as2 ar2 → DrawnCa B p a len cap w (.returned (.tuple #[.agg #[.slice q rs.length cq, .slice p' lv.length cp, .int .i64 now], .agg #[.string ak2, .int .i64 as2, .string ar2]])) ((((((x.setCell ⟨w.heap.size, 0, none⟩ u0).setCell ⟨w.heap.size, 1, none⟩ u1).setCell ⟨w.heap.size, 2, none⟩ u2).setCell ⟨w.heap.size + 1, 0, none⟩ u3).setCell ⟨w.heap.size + 1, 1, none⟩ u4).setCell ⟨w.heap.size + 1, 2, none⟩ u5)) := fun ak2 as2 ar2 x u0 u1 u2 u3 u4 u5 h hz => by
    have e1 := z1.out
    have g1 := touch_set (touch_set (set_grw x w.heap.size 0 u0) 1 u1) 2 u2
    have g2 := touch_set (touch_set (set_grw (((x.setCell ⟨w.heap.size, 0, none⟩ u0).setCell ⟨w.heap.size, 1, none⟩ u1).setCell ⟨w.heap.size, 2, none⟩ u2) (w.heap.size + 1) 0 u3) 1 u4) 2 u5
    have hi := (h.hi.grown g1 (fun j hj => by cases hj; exact .inl (by omega))).grown g2 (fun j hj => by cases hj; exact .inl (by omega))
    have s := (h.src.other g1 (fun j hj => by cases hj; omega)).other g2 (fun j hj => by cases hj; omega)
    have g := touch_own (touch_own (touch_trans HG1.out h.gr) g1 (fun j hj => by cases hj; exact Nat.le_refl _)) g2 (fun j hj => by cases hj; exact Nat.le_succ _)
    exact ⟨⟨q, cq, rs, p', cp, lv, now, ak2, as2, ar2, rfl, hi.hi (by omega), HF.out, hz⟩, s, g⟩
  go_upto_region 3 with fail
  rw [← HY4.out, ← HX0.out, ← HA0.out]
  obtain ⟨⟨x0, x1, x2⟩, -, -⟩ := S4.out.six
  have hl66 := lof_m HF.out
  go_wp2_with fail
  refine (n_any B p a len cap ((lv.length : Int) + 1) _ S4.out.src (by omega)).mono ?_
  rintro e y5 ⟨⟨n, rfl, n0, n1, n2⟩, ss, gg⟩
  have hn : n ≤ lv.length := by rcases Nat.eq_zero_or_pos lv.length with h | h; (have := n2 (by omega); omega); (have := n1 (by omega); omega)
  have S5 : Hid (LkS W1 B p a len cap X q cq rs p' cp lv now A ak 0 ⟨#[]⟩ y5) := S4.out.step ss gg
  clear ss gg S4 n1 n2 x0 x1 x2 HY2 HY4 HX0 HA0
  obtain ⟨⟨x0, x1, x2⟩, ⟨a0, a1, a2⟩, f0, f1, f2⟩ := S5.out.six
  have hR := specLogRight_any p' lv cp q rs cq now y5 S5.out.at
  have hz0 : (⟨#[]⟩ : ByteArray).size = 0 := rfl
  by_cases hn0 : 0 < n
  case neg =>
    have d0 : decide (0 < n) = false := decide_eq_false hn0
    clear hR
    go_wp2_with fail
    refine (one_any B p a len cap 12 _ S5.out.src (by omega)).mono ?_
    rintro e c7 ⟨⟨b7, rfl⟩, ss, gg⟩
    have S7 : Hid (LkS W1 B p a len cap X q cq rs p' cp lv now A ak 0 ⟨#[]⟩ c7) := S5.out.step ss gg
    clear ss gg S5
    cases b7 with
    | false =>
      go_upto_region 14 with fail
      have z120 : (⟨#[120]⟩ : ByteArray).size = 1 := rfl
      have SD : Hid (LkS W1 B p a len cap X q cq rs p' cp lv now A (ak) (0) (⟨#[]⟩) c7.drew) := S7.out.below (Below.refl _ _).drew
      have HE : Hid _ := fun u0 u1 u2 u3 u4 u5 => HEnd.out (ak) (0) (⟨#[]⟩) _ u0 u1 u2 u3 u4 u5 SD.out ⟨by have := HK32.out; (try rw [ByteArray.size_append]); (first | omega | (simp; omega)), by omega, by omega⟩
      obtain ⟨r1, r2⟩ := HRes.out _ SD.out.gr
      obtain ⟨d0, d1, d2, f0, f1, f2⟩ := res3 r1
      obtain ⟨e0', e1', e2', g0, g1, g2⟩ := res3 r2
      have hn4 : (w.heap.size ≠ A ∧ w.heap.size + 1 ≠ A) ∧ w.heap.size ≠ X ∧ w.heap.size + 1 ≠ X := by have := SD.out.hA; have := SD.out.hX; have := z1.out; omega
      have kx := SD.out.box
      have ka := SD.out.aud
      have kx1 := ((kx.other w.heap.size 0 hn4.2.1 (.slice q rs.length cq)).other w.heap.size 1 hn4.2.1 (.slice p' lv.length cp)).other w.heap.size 2 hn4.2.1 (.int .i64 now)
      have ka1 := ((ka.other w.heap.size 0 hn4.1.1 (.slice q rs.length cq)).other w.heap.size 1 hn4.1.1 (.slice p' lv.length cp)).other w.heap.size 2 hn4.1.1 (.int .i64 now)
      have kx2 := ((kx1.other (w.heap.size + 1) 0 hn4.2.2 (.string (ak))).other (w.heap.size + 1) 1 hn4.2.2 (.int .i64 (0))).other (w.heap.size + 1) 2 hn4.2.2 (.string (⟨#[]⟩))
      have ka2 := ((ka1.other (w.heap.size + 1) 0 hn4.1.2 (.string (ak))).other (w.heap.size + 1) 1 hn4.1.2 (.int .i64 (0))).other (w.heap.size + 1) 2 hn4.1.2 (.string (⟨#[]⟩))
      have HC0 : Hid (_ ∧ _) := And.intro (And.intro (kx.cell 0) (And.intro (kx.cell 1) (kx.cell 2))) (And.intro (ka.cell 0) (And.intro (ka.cell 1) (ka.cell 2)))
      have HC1 : Hid (_ ∧ _) := And.intro (And.intro (kx1.cell 0) (And.intro (kx1.cell 1) (kx1.cell 2))) (And.intro (ka1.cell 0) (And.intro (ka1.cell 1) (ka1.cell 2)))
      have HC2 : Hid (_ ∧ _) := And.intro (And.intro (kx2.cell 0) (And.intro (kx2.cell 1) (kx2.cell 2))) (And.intro (ka2.cell 0) (And.intro (ka2.cell 1) (ka2.cell 2)))
      clear HEnd S7 SD r1 r2 kx ka kx1 ka1 kx2 ka2 hn4
      refine wp_region_held_drew (S := fun w' => (w'.cell? ⟨X, 0, none⟩ = some (.slice q rs.length cq) ∧ w'.cell? ⟨X, 1, none⟩ = some (.slice p' lv.length cp) ∧ w'.cell? ⟨X, 2, none⟩ = some (.int .i64 now)) ∧ w'.cell? ⟨A, 0, none⟩ = some (.string (ak)) ∧ w'.cell? ⟨A, 1, none⟩ = some (.int .i64 (0)) ∧ w'.cell? ⟨A, 2, none⟩ = some (.string (⟨#[]⟩))) (by kernel_rfl) (HC0.out) (fun hHeld => ?_)
      generalize c7.drew = xd at *
      refine take_at 0 (v := ?_) rfl (by kernel_rfl) (by kernel_rfl) (by kernel_rfl) (fun _ _ _ h => h) hHeld (Or.inl ⟨by rfl, ?_⟩) ?_
      rotate_left
      · (intro w hSw; (try dsimp only at hSw); go_simp; try with_reducible rfl)
      simp only [Act.put, List.setIfInBounds_toArray, List.set_cons_zero, List.set_cons_succ]
      refine take_at 1 (v := ?_) rfl (by kernel_rfl) (by kernel_rfl) (by kernel_rfl) (fun _ _ _ h => h) hHeld (Or.inl ⟨by rfl, ?_⟩) ?_
      rotate_left
      · (intro w hSw; (try dsimp only at hSw); go_simp; try with_reducible rfl)
      simp only [Act.put, List.setIfInBounds_toArray, List.set_cons_zero, List.set_cons_succ]
      refine ready_at 2 rfl (by kernel_rfl) (fun K hK => ?_)
      go_simp
      refine hK.out _ _ (HC1.out) (fun hHeld => ?_)
      clear hK K
      try simp only [Act.put, List.setIfInBounds_toArray, List.set_cons_zero, List.set_cons_succ]
      refine ready_at 3 rfl (by kernel_rfl) (fun K hK => ?_)
      go_simp
      refine hK.out _ _ (HC2.out) (fun hHeld => ?_)
      clear hK K
      try simp only [Act.put, List.setIfInBounds_toArray, List.set_cons_zero, List.set_cons_succ]
      refine wpAnyH_done (by kernel_rfl) ?_ _
      clear hHeld HC0 HC1 HC2
      go_wp2_with fail
      refine bodyPost_ret (v := .tuple #[.agg #[.slice q rs.length cq, .slice p' lv.length cp, .int .i64 now], .agg #[.string (ak), .int .i64 (0), .string (⟨#[]⟩)]]) (by simp [results, Tryz.results28, go_sem, d0, d1, d2, e0', e1', e2']) rfl ?_
      exact HE.out _ _ _ _ _ _
    | true =>
      go_wp2_with fail
      refine (n_any B p a len cap 3 _ S7.out.src (by omega)).mono ?_
      rintro e c8 ⟨⟨m, rfl, m0, m1, -⟩, ss, gg⟩
      have S8 : Hid (LkS W1 B p a len cap X q cq rs p' cp lv now A ak 0 ⟨#[]⟩ c8) := S7.out.step ss gg
      have m2 := m1 (by omega)
      clear ss gg S7 m1
      obtain ⟨-, ⟨a0, a1, a2⟩, f0, f1, f2⟩ := S8.out.six
      by_cases hm0 : m = 0
      · subst hm0
        clear m0 m2
        have hak := HK32.out
        have S9 : Hid (LkS W1 B p a len cap X q cq rs p' cp lv now A (ak ++ ⟨#[120]⟩) 0 ⟨#[]⟩ (c8.setCell ⟨A, 0, none⟩ (.string (ak ++ ⟨#[120]⟩)))) := S8.out.set0 _
        clear S8
        go_upto_region 14 with fail
        clear a0 a1 a2 f0 f1 f2
        generalize c8.setCell ⟨A, 0, none⟩ (.string (ak ++ ⟨#[120]⟩)) = v9 at *
        have z120 : (⟨#[120]⟩ : ByteArray).size = 1 := rfl
        have SD : Hid (LkS W1 B p a len cap X q cq rs p' cp lv now A (ak ++ ⟨#[120]⟩) (0) (⟨#[]⟩) v9.drew) := S9.out.below (Below.refl _ _).drew
        have HE : Hid _ := fun u0 u1 u2 u3 u4 u5 => HEnd.out (ak ++ ⟨#[120]⟩) (0) (⟨#[]⟩) _ u0 u1 u2 u3 u4 u5 SD.out ⟨by have := HK32.out; (try rw [ByteArray.size_append]); (first | omega | (simp; omega)), by omega, by omega⟩
        obtain ⟨r1, r2⟩ := HRes.out _ SD.out.gr
        obtain ⟨d0, d1, d2, f0, f1, f2⟩ := res3 r1
        obtain ⟨e0', e1', e2', g0, g1, g2⟩ := res3 r2
        have hn4 : (w.heap.size ≠ A ∧ w.heap.size + 1 ≠ A) ∧ w.heap.size ≠ X ∧ w.heap.size + 1 ≠ X := by have := SD.out.hA; have := SD.out.hX; have := z1.out; omega
        have kx := SD.out.box
        have ka := SD.out.aud
        have kx1 := ((kx.other w.heap.size 0 hn4.2.1 (.slice q rs.length cq)).other w.heap.size 1 hn4.2.1 (.slice p' lv.length cp)).other w.heap.size 2 hn4.2.1 (.int .i64 now)
        have ka1 := ((ka.other w.heap.size 0 hn4.1.1 (.slice q rs.length cq)).other w.heap.size 1 hn4.1.1 (.slice p' lv.length cp)).other w.heap.size 2 hn4.1.1 (.int .i64 now)
        have kx2 := ((kx1.other (w.heap.size + 1) 0 hn4.2.2 (.string (ak ++ ⟨#[120]⟩))).other (w.heap.size + 1) 1 hn4.2.2 (.int .i64 (0))).other (w.heap.size + 1) 2 hn4.2.2 (.string (⟨#[]⟩))
        have ka2 := ((ka1.other (w.heap.size + 1) 0 hn4.1.2 (.string (ak ++ ⟨#[120]⟩))).other (w.heap.size + 1) 1 hn4.1.2 (.int .i64 (0))).other (w.heap.size + 1) 2 hn4.1.2 (.string (⟨#[]⟩))
        have HC0 : Hid (_ ∧ _) := And.intro (And.intro (kx.cell 0) (And.intro (kx.cell 1) (kx.cell 2))) (And.intro (ka.cell 0) (And.intro (ka.cell 1) (ka.cell 2)))
        have HC1 : Hid (_ ∧ _) := And.intro (And.intro (kx1.cell 0) (And.intro (kx1.cell 1) (kx1.cell 2))) (And.intro (ka1.cell 0) (And.intro (ka1.cell 1) (ka1.cell 2)))
        have HC2 : Hid (_ ∧ _) := And.intro (And.intro (kx2.cell 0) (And.intro (kx2.cell 1) (kx2.cell 2))) (And.intro (ka2.cell 0) (And.intro (ka2.cell 1) (ka2.cell 2)))
        clear HEnd S9 SD r1 r2 kx ka kx1 ka1 kx2 ka2 hn4
        refine wp_region_held_drew (S := fun w' => (w'.cell? ⟨X, 0, none⟩ = some (.slice q rs.length cq) ∧ w'.cell? ⟨X, 1, none⟩ = some (.slice p' lv.length cp) ∧ w'.cell? ⟨X, 2, none⟩ = some (.int .i64 now)) ∧ w'.cell? ⟨A, 0, none⟩ = some (.string (ak ++ ⟨#[120]⟩)) ∧ w'.cell? ⟨A, 1, none⟩ = some (.int .i64 (0)) ∧ w'.cell? ⟨A, 2, none⟩ = some (.string (⟨#[]⟩))) (by kernel_rfl) (HC0.out) (fun hHeld => ?_)
        generalize v9.drew = xd at *
        refine take_at 0 (v := ?_) rfl (by kernel_rfl) (by kernel_rfl) (by kernel_rfl) (fun _ _ _ h => h) hHeld (Or.inl ⟨by rfl, ?_⟩) ?_
        rotate_left
        · (intro w hSw; (try dsimp only at hSw); go_simp; try with_reducible rfl)
        simp only [Act.put, List.setIfInBounds_toArray, List.set_cons_zero, List.set_cons_succ]
        refine take_at 1 (v := ?_) rfl (by kernel_rfl) (by kernel_rfl) (by kernel_rfl) (fun _ _ _ h => h) hHeld (Or.inl ⟨by rfl, ?_⟩) ?_
        rotate_left
        · (intro w hSw; (try dsimp only at hSw); go_simp; try with_reducible rfl)
        simp only [Act.put, List.setIfInBounds_toArray, List.set_cons_zero, List.set_cons_succ]
        refine ready_at 2 rfl (by kernel_rfl) (fun K hK => ?_)
        go_simp
        refine hK.out _ _ (HC1.out) (fun hHeld => ?_)
        clear hK K
        try simp only [Act.put, List.setIfInBounds_toArray, List.set_cons_zero, List.set_cons_succ]
        refine ready_at 3 rfl (by kernel_rfl) (fun K hK => ?_)
        go_simp
        refine hK.out _ _ (HC2.out) (fun hHeld => ?_)
        clear hK K
        try simp only [Act.put, List.setIfInBounds_toArray, List.set_cons_zero, List.set_cons_succ]
        refine wpAnyH_done (by kernel_rfl) ?_ _
        clear hHeld HC0 HC1 HC2
        go_wp2_with fail
        refine bodyPost_ret (v := .tuple #[.agg #[.slice q rs.length cq, .slice p' lv.length cp, .int .i64 now], .agg #[.string (ak ++ ⟨#[120]⟩), .int .i64 (0), .string (⟨#[]⟩)]]) (by simp [results, Tryz.results28, go_sem, d0, d1, d2, e0', e1', e2']) rfl ?_
        exact HE.out _ _ _ _ _ _
      have e0 : (m == 0) = false := beq_eq_false_iff_ne.2 hm0
      by_cases hm1 : m = 1
      · subst hm1
        clear m0 m2 hm0 e0
        have S9 : Hid (LkS W1 B p a len cap X q cq rs p' cp lv now A ak (1) ⟨#[]⟩ (c8.setCell ⟨A, 1, none⟩ (.int .i64 (1)))) := S8.out.set1 _
        clear S8
        go_upto_region 14 with fail
        clear a0 a1 a2 f0 f1 f2
        generalize c8.setCell ⟨A, 1, none⟩ (.int .i64 (1)) = v9 at *
        have z120 : (⟨#[120]⟩ : ByteArray).size = 1 := rfl
        have SD : Hid (LkS W1 B p a len cap X q cq rs p' cp lv now A (ak) (1) (⟨#[]⟩) v9.drew) := S9.out.below (Below.refl _ _).drew
        have HE : Hid _ := fun u0 u1 u2 u3 u4 u5 => HEnd.out (ak) (1) (⟨#[]⟩) _ u0 u1 u2 u3 u4 u5 SD.out ⟨by have := HK32.out; (try rw [ByteArray.size_append]); (first | omega | (simp; omega)), by omega, by omega⟩
        obtain ⟨r1, r2⟩ := HRes.out _ SD.out.gr
        obtain ⟨d0, d1, d2, f0, f1, f2⟩ := res3 r1
        obtain ⟨e0', e1', e2', g0, g1, g2⟩ := res3 r2
        have hn4 : (w.heap.size ≠ A ∧ w.heap.size + 1 ≠ A) ∧ w.heap.size ≠ X ∧ w.heap.size + 1 ≠ X := by have := SD.out.hA; have := SD.out.hX; have := z1.out; omega
        have kx := SD.out.box
        have ka := SD.out.aud
        have kx1 := ((kx.other w.heap.size 0 hn4.2.1 (.slice q rs.length cq)).other w.heap.size 1 hn4.2.1 (.slice p' lv.length cp)).other w.heap.size 2 hn4.2.1 (.int .i64 now)
        have ka1 := ((ka.other w.heap.size 0 hn4.1.1 (.slice q rs.length cq)).other w.heap.size 1 hn4.1.1 (.slice p' lv.length cp)).other w.heap.size 2 hn4.1.1 (.int .i64 now)
        have kx2 := ((kx1.other (w.heap.size + 1) 0 hn4.2.2 (.string (ak))).other (w.heap.size + 1) 1 hn4.2.2 (.int .i64 (1))).other (w.heap.size + 1) 2 hn4.2.2 (.string (⟨#[]⟩))
        have ka2 := ((ka1.other (w.heap.size + 1) 0 hn4.1.2 (.string (ak))).other (w.heap.size + 1) 1 hn4.1.2 (.int .i64 (1))).other (w.heap.size + 1) 2 hn4.1.2 (.string (⟨#[]⟩))
        have HC0 : Hid (_ ∧ _) := And.intro (And.intro (kx.cell 0) (And.intro (kx.cell 1) (kx.cell 2))) (And.intro (ka.cell 0) (And.intro (ka.cell 1) (ka.cell 2)))
        have HC1 : Hid (_ ∧ _) := And.intro (And.intro (kx1.cell 0) (And.intro (kx1.cell 1) (kx1.cell 2))) (And.intro (ka1.cell 0) (And.intro (ka1.cell 1) (ka1.cell 2)))
        have HC2 : Hid (_ ∧ _) := And.intro (And.intro (kx2.cell 0) (And.intro (kx2.cell 1) (kx2.cell 2))) (And.intro (ka2.cell 0) (And.intro (ka2.cell 1) (ka2.cell 2)))
        clear HEnd S9 SD r1 r2 kx ka kx1 ka1 kx2 ka2 hn4
        refine wp_region_held_drew (S := fun w' => (w'.cell? ⟨X, 0, none⟩ = some (.slice q rs.length cq) ∧ w'.cell? ⟨X, 1, none⟩ = some (.slice p' lv.length cp) ∧ w'.cell? ⟨X, 2, none⟩ = some (.int .i64 now)) ∧ w'.cell? ⟨A, 0, none⟩ = some (.string (ak)) ∧ w'.cell? ⟨A, 1, none⟩ = some (.int .i64 (1)) ∧ w'.cell? ⟨A, 2, none⟩ = some (.string (⟨#[]⟩))) (by kernel_rfl) (HC0.out) (fun hHeld => ?_)
        generalize v9.drew = xd at *
        refine take_at 0 (v := ?_) rfl (by kernel_rfl) (by kernel_rfl) (by kernel_rfl) (fun _ _ _ h => h) hHeld (Or.inl ⟨by rfl, ?_⟩) ?_
        rotate_left
        · (intro w hSw; (try dsimp only at hSw); go_simp; try with_reducible rfl)
        simp only [Act.put, List.setIfInBounds_toArray, List.set_cons_zero, List.set_cons_succ]
        refine take_at 1 (v := ?_) rfl (by kernel_rfl) (by kernel_rfl) (by kernel_rfl) (fun _ _ _ h => h) hHeld (Or.inl ⟨by rfl, ?_⟩) ?_
        rotate_left
        · (intro w hSw; (try dsimp only at hSw); go_simp; try with_reducible rfl)
        simp only [Act.put, List.setIfInBounds_toArray, List.set_cons_zero, List.set_cons_succ]
        refine ready_at 2 rfl (by kernel_rfl) (fun K hK => ?_)
        go_simp
        refine hK.out _ _ (HC1.out) (fun hHeld => ?_)
        clear hK K
        try simp only [Act.put, List.setIfInBounds_toArray, List.set_cons_zero, List.set_cons_succ]
        refine ready_at 3 rfl (by kernel_rfl) (fun K hK => ?_)
        go_simp
        refine hK.out _ _ (HC2.out) (fun hHeld => ?_)
        clear hK K
        try simp only [Act.put, List.setIfInBounds_toArray, List.set_cons_zero, List.set_cons_succ]
        refine wpAnyH_done (by kernel_rfl) ?_ _
        clear hHeld HC0 HC1 HC2
        go_wp2_with fail
        refine bodyPost_ret (v := .tuple #[.agg #[.slice q rs.length cq, .slice p' lv.length cp, .int .i64 now], .agg #[.string (ak), .int .i64 (1), .string (⟨#[]⟩)]]) (by simp [results, Tryz.results28, go_sem, d0, d1, d2, e0', e1', e2']) rfl ?_
        exact HE.out _ _ _ _ _ _
      have e1 : (m == 1) = false := beq_eq_false_iff_ne.2 hm1
      clear m0 m2 hm0 hm1
      go_wp2_with fail
      refine (spoilT_any B p a len cap (⟨#[]⟩) _ S8.out.src (by omega)).mono ?_
      rintro e c9 ⟨⟨u, rfl, hu⟩, ss, gg⟩
      have S9 : Hid (LkS W1 B p a len cap X q cq rs p' cp lv now A ak 0 ⟨#[]⟩ c9) := S8.out.step ss gg
      have S10 : Hid (LkS W1 B p a len cap X q cq rs p' cp lv now A ak 0 u (c9.setCell ⟨A, 2, none⟩ (.string u))) := S9.out.set2 _
      clear ss gg S8 a0 a1 a2 f0 f1 f2
      obtain ⟨-, ⟨a0, a1, a2⟩, f0, f1, f2⟩ := S9.out.six
      clear S9
      go_upto_region 14 with fail
      clear a0 a1 a2 f0 f1 f2 e0 e1
      generalize c9.setCell ⟨A, 2, none⟩ (.string u) = v9 at *
      have z120 : (⟨#[120]⟩ : ByteArray).size = 1 := rfl
      have SD : Hid (LkS W1 B p a len cap X q cq rs p' cp lv now A (ak) (0) (u) v9.drew) := S10.out.below (Below.refl _ _).drew
      have HE : Hid _ := fun u0 u1 u2 u3 u4 u5 => HEnd.out (ak) (0) (u) _ u0 u1 u2 u3 u4 u5 SD.out ⟨by have := HK32.out; (try rw [ByteArray.size_append]); (first | omega | (simp; omega)), by omega, by omega⟩
      obtain ⟨r1, r2⟩ := HRes.out _ SD.out.gr
      obtain ⟨d0, d1, d2, f0, f1, f2⟩ := res3 r1
      obtain ⟨e0', e1', e2', g0, g1, g2⟩ := res3 r2
      have hn4 : (w.heap.size ≠ A ∧ w.heap.size + 1 ≠ A) ∧ w.heap.size ≠ X ∧ w.heap.size + 1 ≠ X := by have := SD.out.hA; have := SD.out.hX; have := z1.out; omega
      have kx := SD.out.box
      have ka := SD.out.aud
      have kx1 := ((kx.other w.heap.size 0 hn4.2.1 (.slice q rs.length cq)).other w.heap.size 1 hn4.2.1 (.slice p' lv.length cp)).other w.heap.size 2 hn4.2.1 (.int .i64 now)
      have ka1 := ((ka.other w.heap.size 0 hn4.1.1 (.slice q rs.length cq)).other w.heap.size 1 hn4.1.1 (.slice p' lv.length cp)).other w.heap.size 2 hn4.1.1 (.int .i64 now)
      have kx2 := ((kx1.other (w.heap.size + 1) 0 hn4.2.2 (.string (ak))).other (w.heap.size + 1) 1 hn4.2.2 (.int .i64 (0))).other (w.heap.size + 1) 2 hn4.2.2 (.string (u))
      have ka2 := ((ka1.other (w.heap.size + 1) 0 hn4.1.2 (.string (ak))).other (w.heap.size + 1) 1 hn4.1.2 (.int .i64 (0))).other (w.heap.size + 1) 2 hn4.1.2 (.string (u))
      have HC0 : Hid (_ ∧ _) := And.intro (And.intro (kx.cell 0) (And.intro (kx.cell 1) (kx.cell 2))) (And.intro (ka.cell 0) (And.intro (ka.cell 1) (ka.cell 2)))
      have HC1 : Hid (_ ∧ _) := And.intro (And.intro (kx1.cell 0) (And.intro (kx1.cell 1) (kx1.cell 2))) (And.intro (ka1.cell 0) (And.intro (ka1.cell 1) (ka1.cell 2)))
      have HC2 : Hid (_ ∧ _) := And.intro (And.intro (kx2.cell 0) (And.intro (kx2.cell 1) (kx2.cell 2))) (And.intro (ka2.cell 0) (And.intro (ka2.cell 1) (ka2.cell 2)))
      clear HEnd S10 SD r1 r2 kx ka kx1 ka1 kx2 ka2 hn4
      refine wp_region_held_drew (S := fun w' => (w'.cell? ⟨X, 0, none⟩ = some (.slice q rs.length cq) ∧ w'.cell? ⟨X, 1, none⟩ = some (.slice p' lv.length cp) ∧ w'.cell? ⟨X, 2, none⟩ = some (.int .i64 now)) ∧ w'.cell? ⟨A, 0, none⟩ = some (.string (ak)) ∧ w'.cell? ⟨A, 1, none⟩ = some (.int .i64 (0)) ∧ w'.cell? ⟨A, 2, none⟩ = some (.string (u))) (by kernel_rfl) (HC0.out) (fun hHeld => ?_)
      generalize v9.drew = xd at *
      refine take_at 0 (v := ?_) rfl (by kernel_rfl) (by kernel_rfl) (by kernel_rfl) (fun _ _ _ h => h) hHeld (Or.inl ⟨by rfl, ?_⟩) ?_
      rotate_left
      · (intro w hSw; (try dsimp only at hSw); go_simp; try with_reducible rfl)
      simp only [Act.put, List.setIfInBounds_toArray, List.set_cons_zero, List.set_cons_succ]
      refine take_at 1 (v := ?_) rfl (by kernel_rfl) (by kernel_rfl) (by kernel_rfl) (fun _ _ _ h => h) hHeld (Or.inl ⟨by rfl, ?_⟩) ?_
      rotate_left
      · (intro w hSw; (try dsimp only at hSw); go_simp; try with_reducible rfl)
      simp only [Act.put, List.setIfInBounds_toArray, List.set_cons_zero, List.set_cons_succ]
      refine ready_at 2 rfl (by kernel_rfl) (fun K hK => ?_)
      go_simp
      refine hK.out _ _ (HC1.out) (fun hHeld => ?_)
      clear hK K
      try simp only [Act.put, List.setIfInBounds_toArray, List.set_cons_zero, List.set_cons_succ]
      refine ready_at 3 rfl (by kernel_rfl) (fun K hK => ?_)
      go_simp
      refine hK.out _ _ (HC2.out) (fun hHeld => ?_)
      clear hK K
      try simp only [Act.put, List.setIfInBounds_toArray, List.set_cons_zero, List.set_cons_succ]
      refine wpAnyH_done (by kernel_rfl) ?_ _
      clear hHeld HC0 HC1 HC2
      go_wp2_with fail
      refine bodyPost_ret (v := .tuple #[.agg #[.slice q rs.length cq, .slice p' lv.length cp, .int .i64 now], .agg #[.string (ak), .int .i64 (0), .string (u)]]) (by simp [results, Tryz.results28, go_sem, d0, d1, d2, e0', e1', e2']) rfl ?_
      exact HE.out _ _ _ _ _ _
  have d0 : decide (0 < n) = true := decide_eq_true hn0
  go_wp2_with fail
  refine hR.mono ?_
  rintro e y6 ⟨rfl, b6⟩
  have S6 : Hid (LkS W1 B p a len cap X q cq rs p' cp lv now A ak 0 ⟨#[]⟩ y6) := S5.out.below b6
  clear b6 hR S5 x0 x1 x2 a0 a1 a2 f0 f1 f2
  obtain ⟨⟨x0, x1, x2⟩, ⟨a0, a1, a2⟩, f0, f1, f2⟩ := S6.out.six
  cases hlg : lgB rs lv now with
  | false =>
    clear x0 x1 x2 a0 a1 a2 f0 f1 f2 d0
    go_wp2_with fail
    refine (one_any B p a len cap 12 _ S6.out.src (by omega)).mono ?_
    rintro e d7 ⟨⟨b7, rfl⟩, ss, gg⟩
    have S7 : Hid (LkS W1 B p a len cap X q cq rs p' cp lv now A ak 0 ⟨#[]⟩ d7) := S6.out.step ss gg
    clear ss gg S6
    cases b7 with
    | false =>
      go_upto_region 14 with fail
      have z120 : (⟨#[120]⟩ : ByteArray).size = 1 := rfl
      have SD : Hid (LkS W1 B p a len cap X q cq rs p' cp lv now A (ak) (0) (⟨#[]⟩) d7.drew) := S7.out.below (Below.refl _ _).drew
      have HE : Hid _ := fun u0 u1 u2 u3 u4 u5 => HEnd.out (ak) (0) (⟨#[]⟩) _ u0 u1 u2 u3 u4 u5 SD.out ⟨by have := HK32.out; (try rw [ByteArray.size_append]); (first | omega | (simp; omega)), by omega, by omega⟩
      obtain ⟨r1, r2⟩ := HRes.out _ SD.out.gr
      obtain ⟨d0, d1, d2, f0, f1, f2⟩ := res3 r1
      obtain ⟨e0', e1', e2', g0, g1, g2⟩ := res3 r2
      have hn4 : (w.heap.size ≠ A ∧ w.heap.size + 1 ≠ A) ∧ w.heap.size ≠ X ∧ w.heap.size + 1 ≠ X := by have := SD.out.hA; have := SD.out.hX; have := z1.out; omega
      have kx := SD.out.box
      have ka := SD.out.aud
      have kx1 := ((kx.other w.heap.size 0 hn4.2.1 (.slice q rs.length cq)).other w.heap.size 1 hn4.2.1 (.slice p' lv.length cp)).other w.heap.size 2 hn4.2.1 (.int .i64 now)
      have ka1 := ((ka.other w.heap.size 0 hn4.1.1 (.slice q rs.length cq)).other w.heap.size 1 hn4.1.1 (.slice p' lv.length cp)).other w.heap.size 2 hn4.1.1 (.int .i64 now)
      have kx2 := ((kx1.other (w.heap.size + 1) 0 hn4.2.2 (.string (ak))).other (w.heap.size + 1) 1 hn4.2.2 (.int .i64 (0))).other (w.heap.size + 1) 2 hn4.2.2 (.string (⟨#[]⟩))
      have ka2 := ((ka1.other (w.heap.size + 1) 0 hn4.1.2 (.string (ak))).other (w.heap.size + 1) 1 hn4.1.2 (.int .i64 (0))).other (w.heap.size + 1) 2 hn4.1.2 (.string (⟨#[]⟩))
      have HC0 : Hid (_ ∧ _) := And.intro (And.intro (kx.cell 0) (And.intro (kx.cell 1) (kx.cell 2))) (And.intro (ka.cell 0) (And.intro (ka.cell 1) (ka.cell 2)))
      have HC1 : Hid (_ ∧ _) := And.intro (And.intro (kx1.cell 0) (And.intro (kx1.cell 1) (kx1.cell 2))) (And.intro (ka1.cell 0) (And.intro (ka1.cell 1) (ka1.cell 2)))
      have HC2 : Hid (_ ∧ _) := And.intro (And.intro (kx2.cell 0) (And.intro (kx2.cell 1) (kx2.cell 2))) (And.intro (ka2.cell 0) (And.intro (ka2.cell 1) (ka2.cell 2)))
      clear HEnd S7 SD r1 r2 kx ka kx1 ka1 kx2 ka2 hn4
      refine wp_region_held_drew (S := fun w' => (w'.cell? ⟨X, 0, none⟩ = some (.slice q rs.length cq) ∧ w'.cell? ⟨X, 1, none⟩ = some (.slice p' lv.length cp) ∧ w'.cell? ⟨X, 2, none⟩ = some (.int .i64 now)) ∧ w'.cell? ⟨A, 0, none⟩ = some (.string (ak)) ∧ w'.cell? ⟨A, 1, none⟩ = some (.int .i64 (0)) ∧ w'.cell? ⟨A, 2, none⟩ = some (.string (⟨#[]⟩))) (by kernel_rfl) (HC0.out) (fun hHeld => ?_)
      generalize d7.drew = xd at *
      refine take_at 0 (v := ?_) rfl (by kernel_rfl) (by kernel_rfl) (by kernel_rfl) (fun _ _ _ h => h) hHeld (Or.inl ⟨by rfl, ?_⟩) ?_
      rotate_left
      · (intro w hSw; (try dsimp only at hSw); go_simp; try with_reducible rfl)
      simp only [Act.put, List.setIfInBounds_toArray, List.set_cons_zero, List.set_cons_succ]
      refine take_at 1 (v := ?_) rfl (by kernel_rfl) (by kernel_rfl) (by kernel_rfl) (fun _ _ _ h => h) hHeld (Or.inl ⟨by rfl, ?_⟩) ?_
      rotate_left
      · (intro w hSw; (try dsimp only at hSw); go_simp; try with_reducible rfl)
      simp only [Act.put, List.setIfInBounds_toArray, List.set_cons_zero, List.set_cons_succ]
      refine ready_at 2 rfl (by kernel_rfl) (fun K hK => ?_)
      go_simp
      refine hK.out _ _ (HC1.out) (fun hHeld => ?_)
      clear hK K
      try simp only [Act.put, List.setIfInBounds_toArray, List.set_cons_zero, List.set_cons_succ]
      refine ready_at 3 rfl (by kernel_rfl) (fun K hK => ?_)
      go_simp
      refine hK.out _ _ (HC2.out) (fun hHeld => ?_)
      clear hK K
      try simp only [Act.put, List.setIfInBounds_toArray, List.set_cons_zero, List.set_cons_succ]
      refine wpAnyH_done (by kernel_rfl) ?_ _
      clear hHeld HC0 HC1 HC2
      go_wp2_with fail
      refine bodyPost_ret (v := .tuple #[.agg #[.slice q rs.length cq, .slice p' lv.length cp, .int .i64 now], .agg #[.string (ak), .int .i64 (0), .string (⟨#[]⟩)]]) (by simp [results, Tryz.results28, go_sem, d0, d1, d2, e0', e1', e2']) rfl ?_
      exact HE.out _ _ _ _ _ _
    | true =>
      go_wp2_with fail
      refine (n_any B p a len cap 3 _ S7.out.src (by omega)).mono ?_
      rintro e d8 ⟨⟨m, rfl, m0, m1, -⟩, ss, gg⟩
      have S8 : Hid (LkS W1 B p a len cap X q cq rs p' cp lv now A ak 0 ⟨#[]⟩ d8) := S7.out.step ss gg
      have m2 := m1 (by omega)
      clear ss gg S7 m1
      obtain ⟨-, ⟨a0, a1, a2⟩, f0, f1, f2⟩ := S8.out.six
      by_cases hm0 : m = 0
      · subst hm0
        clear m0 m2
        have hak := HK32.out
        have S9 : Hid (LkS W1 B p a len cap X q cq rs p' cp lv now A (ak ++ ⟨#[120]⟩) 0 ⟨#[]⟩ (d8.setCell ⟨A, 0, none⟩ (.string (ak ++ ⟨#[120]⟩)))) := S8.out.set0 _
        clear S8
        go_upto_region 14 with fail
        clear a0 a1 a2 f0 f1 f2
        generalize d8.setCell ⟨A, 0, none⟩ (.string (ak ++ ⟨#[120]⟩)) = v9 at *
        have z120 : (⟨#[120]⟩ : ByteArray).size = 1 := rfl
        have SD : Hid (LkS W1 B p a len cap X q cq rs p' cp lv now A (ak ++ ⟨#[120]⟩) (0) (⟨#[]⟩) v9.drew) := S9.out.below (Below.refl _ _).drew
        have HE : Hid _ := fun u0 u1 u2 u3 u4 u5 => HEnd.out (ak ++ ⟨#[120]⟩) (0) (⟨#[]⟩) _ u0 u1 u2 u3 u4 u5 SD.out ⟨by have := HK32.out; (try rw [ByteArray.size_append]); (first | omega | (simp; omega)), by omega, by omega⟩
        obtain ⟨r1, r2⟩ := HRes.out _ SD.out.gr
        obtain ⟨d0, d1, d2, f0, f1, f2⟩ := res3 r1
        obtain ⟨e0', e1', e2', g0, g1, g2⟩ := res3 r2
        have hn4 : (w.heap.size ≠ A ∧ w.heap.size + 1 ≠ A) ∧ w.heap.size ≠ X ∧ w.heap.size + 1 ≠ X := by have := SD.out.hA; have := SD.out.hX; have := z1.out; omega
        have kx := SD.out.box
        have ka := SD.out.aud
        have kx1 := ((kx.other w.heap.size 0 hn4.2.1 (.slice q rs.length cq)).other w.heap.size 1 hn4.2.1 (.slice p' lv.length cp)).other w.heap.size 2 hn4.2.1 (.int .i64 now)
        have ka1 := ((ka.other w.heap.size 0 hn4.1.1 (.slice q rs.length cq)).other w.heap.size 1 hn4.1.1 (.slice p' lv.length cp)).other w.heap.size 2 hn4.1.1 (.int .i64 now)
        have kx2 := ((kx1.other (w.heap.size + 1) 0 hn4.2.2 (.string (ak ++ ⟨#[120]⟩))).other (w.heap.size + 1) 1 hn4.2.2 (.int .i64 (0))).other (w.heap.size + 1) 2 hn4.2.2 (.string (⟨#[]⟩))
        have ka2 := ((ka1.other (w.heap.size + 1) 0 hn4.1.2 (.string (ak ++ ⟨#[120]⟩))).other (w.heap.size + 1) 1 hn4.1.2 (.int .i64 (0))).other (w.heap.size + 1) 2 hn4.1.2 (.string (⟨#[]⟩))
        have HC0 : Hid (_ ∧ _) := And.intro (And.intro (kx.cell 0) (And.intro (kx.cell 1) (kx.cell 2))) (And.intro (ka.cell 0) (And.intro (ka.cell 1) (ka.cell 2)))
        have HC1 : Hid (_ ∧ _) := And.intro (And.intro (kx1.cell 0) (And.intro (kx1.cell 1) (kx1.cell 2))) (And.intro (ka1.cell 0) (And.intro (ka1.cell 1) (ka1.cell 2)))
        have HC2 : Hid (_ ∧ _) := And.intro (And.intro (kx2.cell 0) (And.intro (kx2.cell 1) (kx2.cell 2))) (And.intro (ka2.cell 0) (And.intro (ka2.cell 1) (ka2.cell 2)))
        clear HEnd S9 SD r1 r2 kx ka kx1 ka1 kx2 ka2 hn4
        refine wp_region_held_drew (S := fun w' => (w'.cell? ⟨X, 0, none⟩ = some (.slice q rs.length cq) ∧ w'.cell? ⟨X, 1, none⟩ = some (.slice p' lv.length cp) ∧ w'.cell? ⟨X, 2, none⟩ = some (.int .i64 now)) ∧ w'.cell? ⟨A, 0, none⟩ = some (.string (ak ++ ⟨#[120]⟩)) ∧ w'.cell? ⟨A, 1, none⟩ = some (.int .i64 (0)) ∧ w'.cell? ⟨A, 2, none⟩ = some (.string (⟨#[]⟩))) (by kernel_rfl) (HC0.out) (fun hHeld => ?_)
        generalize v9.drew = xd at *
        refine take_at 0 (v := ?_) rfl (by kernel_rfl) (by kernel_rfl) (by kernel_rfl) (fun _ _ _ h => h) hHeld (Or.inl ⟨by rfl, ?_⟩) ?_
        rotate_left
        · (intro w hSw; (try dsimp only at hSw); go_simp; try with_reducible rfl)
        simp only [Act.put, List.setIfInBounds_toArray, List.set_cons_zero, List.set_cons_succ]
        refine take_at 1 (v := ?_) rfl (by kernel_rfl) (by kernel_rfl) (by kernel_rfl) (fun _ _ _ h => h) hHeld (Or.inl ⟨by rfl, ?_⟩) ?_
        rotate_left
        · (intro w hSw; (try dsimp only at hSw); go_simp; try with_reducible rfl)
        simp only [Act.put, List.setIfInBounds_toArray, List.set_cons_zero, List.set_cons_succ]
        refine ready_at 2 rfl (by kernel_rfl) (fun K hK => ?_)
        go_simp
        refine hK.out _ _ (HC1.out) (fun hHeld => ?_)
        clear hK K
        try simp only [Act.put, List.setIfInBounds_toArray, List.set_cons_zero, List.set_cons_succ]
        refine ready_at 3 rfl (by kernel_rfl) (fun K hK => ?_)
        go_simp
        refine hK.out _ _ (HC2.out) (fun hHeld => ?_)
        clear hK K
        try simp only [Act.put, List.setIfInBounds_toArray, List.set_cons_zero, List.set_cons_succ]
        refine wpAnyH_done (by kernel_rfl) ?_ _
        clear hHeld HC0 HC1 HC2
        go_wp2_with fail
        refine bodyPost_ret (v := .tuple #[.agg #[.slice q rs.length cq, .slice p' lv.length cp, .int .i64 now], .agg #[.string (ak ++ ⟨#[120]⟩), .int .i64 (0), .string (⟨#[]⟩)]]) (by simp [results, Tryz.results28, go_sem, d0, d1, d2, e0', e1', e2']) rfl ?_
        exact HE.out _ _ _ _ _ _
      have e0 : (m == 0) = false := beq_eq_false_iff_ne.2 hm0
      by_cases hm1 : m = 1
      · subst hm1
        clear m0 m2 hm0 e0
        have S9 : Hid (LkS W1 B p a len cap X q cq rs p' cp lv now A ak (1) ⟨#[]⟩ (d8.setCell ⟨A, 1, none⟩ (.int .i64 (1)))) := S8.out.set1 _
        clear S8
        go_upto_region 14 with fail
        clear a0 a1 a2 f0 f1 f2
        generalize d8.setCell ⟨A, 1, none⟩ (.int .i64 (1)) = v9 at *
        have z120 : (⟨#[120]⟩ : ByteArray).size = 1 := rfl
        have SD : Hid (LkS W1 B p a len cap X q cq rs p' cp lv now A (ak) (1) (⟨#[]⟩) v9.drew) := S9.out.below (Below.refl _ _).drew
        have HE : Hid _ := fun u0 u1 u2 u3 u4 u5 => HEnd.out (ak) (1) (⟨#[]⟩) _ u0 u1 u2 u3 u4 u5 SD.out ⟨by have := HK32.out; (try rw [ByteArray.size_append]); (first | omega | (simp; omega)), by omega, by omega⟩
        obtain ⟨r1, r2⟩ := HRes.out _ SD.out.gr
        obtain ⟨d0, d1, d2, f0, f1, f2⟩ := res3 r1
        obtain ⟨e0', e1', e2', g0, g1, g2⟩ := res3 r2
        have hn4 : (w.heap.size ≠ A ∧ w.heap.size + 1 ≠ A) ∧ w.heap.size ≠ X ∧ w.heap.size + 1 ≠ X := by have := SD.out.hA; have := SD.out.hX; have := z1.out; omega
        have kx := SD.out.box
        have ka := SD.out.aud
        have kx1 := ((kx.other w.heap.size 0 hn4.2.1 (.slice q rs.length cq)).other w.heap.size 1 hn4.2.1 (.slice p' lv.length cp)).other w.heap.size 2 hn4.2.1 (.int .i64 now)
        have ka1 := ((ka.other w.heap.size 0 hn4.1.1 (.slice q rs.length cq)).other w.heap.size 1 hn4.1.1 (.slice p' lv.length cp)).other w.heap.size 2 hn4.1.1 (.int .i64 now)
        have kx2 := ((kx1.other (w.heap.size + 1) 0 hn4.2.2 (.string (ak))).other (w.heap.size + 1) 1 hn4.2.2 (.int .i64 (1))).other (w.heap.size + 1) 2 hn4.2.2 (.string (⟨#[]⟩))
        have ka2 := ((ka1.other (w.heap.size + 1) 0 hn4.1.2 (.string (ak))).other (w.heap.size + 1) 1 hn4.1.2 (.int .i64 (1))).other (w.heap.size + 1) 2 hn4.1.2 (.string (⟨#[]⟩))
        have HC0 : Hid (_ ∧ _) := And.intro (And.intro (kx.cell 0) (And.intro (kx.cell 1) (kx.cell 2))) (And.intro (ka.cell 0) (And.intro (ka.cell 1) (ka.cell 2)))
        have HC1 : Hid (_ ∧ _) := And.intro (And.intro (kx1.cell 0) (And.intro (kx1.cell 1) (kx1.cell 2))) (And.intro (ka1.cell 0) (And.intro (ka1.cell 1) (ka1.cell 2)))
        have HC2 : Hid (_ ∧ _) := And.intro (And.intro (kx2.cell 0) (And.intro (kx2.cell 1) (kx2.cell 2))) (And.intro (ka2.cell 0) (And.intro (ka2.cell 1) (ka2.cell 2)))
        clear HEnd S9 SD r1 r2 kx ka kx1 ka1 kx2 ka2 hn4
        refine wp_region_held_drew (S := fun w' => (w'.cell? ⟨X, 0, none⟩ = some (.slice q rs.length cq) ∧ w'.cell? ⟨X, 1, none⟩ = some (.slice p' lv.length cp) ∧ w'.cell? ⟨X, 2, none⟩ = some (.int .i64 now)) ∧ w'.cell? ⟨A, 0, none⟩ = some (.string (ak)) ∧ w'.cell? ⟨A, 1, none⟩ = some (.int .i64 (1)) ∧ w'.cell? ⟨A, 2, none⟩ = some (.string (⟨#[]⟩))) (by kernel_rfl) (HC0.out) (fun hHeld => ?_)
        generalize v9.drew = xd at *
        refine take_at 0 (v := ?_) rfl (by kernel_rfl) (by kernel_rfl) (by kernel_rfl) (fun _ _ _ h => h) hHeld (Or.inl ⟨by rfl, ?_⟩) ?_
        rotate_left
        · (intro w hSw; (try dsimp only at hSw); go_simp; try with_reducible rfl)
        simp only [Act.put, List.setIfInBounds_toArray, List.set_cons_zero, List.set_cons_succ]
        refine take_at 1 (v := ?_) rfl (by kernel_rfl) (by kernel_rfl) (by kernel_rfl) (fun _ _ _ h => h) hHeld (Or.inl ⟨by rfl, ?_⟩) ?_
        rotate_left
        · (intro w hSw; (try dsimp only at hSw); go_simp; try with_reducible rfl)
        simp only [Act.put, List.setIfInBounds_toArray, List.set_cons_zero, List.set_cons_succ]
        refine ready_at 2 rfl (by kernel_rfl) (fun K hK => ?_)
        go_simp
        refine hK.out _ _ (HC1.out) (fun hHeld => ?_)
        clear hK K
        try simp only [Act.put, List.setIfInBounds_toArray, List.set_cons_zero, List.set_cons_succ]
        refine ready_at 3 rfl (by kernel_rfl) (fun K hK => ?_)
        go_simp
        refine hK.out _ _ (HC2.out) (fun hHeld => ?_)
        clear hK K
        try simp only [Act.put, List.setIfInBounds_toArray, List.set_cons_zero, List.set_cons_succ]
        refine wpAnyH_done (by kernel_rfl) ?_ _
        clear hHeld HC0 HC1 HC2
        go_wp2_with fail
        refine bodyPost_ret (v := .tuple #[.agg #[.slice q rs.length cq, .slice p' lv.length cp, .int .i64 now], .agg #[.string (ak), .int .i64 (1), .string (⟨#[]⟩)]]) (by simp [results, Tryz.results28, go_sem, d0, d1, d2, e0', e1', e2']) rfl ?_
        exact HE.out _ _ _ _ _ _
      have e1 : (m == 1) = false := beq_eq_false_iff_ne.2 hm1
      clear m0 m2 hm0 hm1
      go_wp2_with fail
      refine (spoilT_any B p a len cap (⟨#[]⟩) _ S8.out.src (by omega)).mono ?_
      rintro e d9 ⟨⟨u, rfl, hu⟩, ss, gg⟩
      have S9 : Hid (LkS W1 B p a len cap X q cq rs p' cp lv now A ak 0 ⟨#[]⟩ d9) := S8.out.step ss gg
      have S10 : Hid (LkS W1 B p a len cap X q cq rs p' cp lv now A ak 0 u (d9.setCell ⟨A, 2, none⟩ (.string u))) := S9.out.set2 _
      clear ss gg S8 a0 a1 a2 f0 f1 f2
      obtain ⟨-, ⟨a0, a1, a2⟩, f0, f1, f2⟩ := S9.out.six
      clear S9
      go_upto_region 14 with fail
      clear a0 a1 a2 f0 f1 f2 e0 e1
      generalize d9.setCell ⟨A, 2, none⟩ (.string u) = v9 at *
      have z120 : (⟨#[120]⟩ : ByteArray).size = 1 := rfl
      have SD : Hid (LkS W1 B p a len cap X q cq rs p' cp lv now A (ak) (0) (u) v9.drew) := S10.out.below (Below.refl _ _).drew
      have HE : Hid _ := fun u0 u1 u2 u3 u4 u5 => HEnd.out (ak) (0) (u) _ u0 u1 u2 u3 u4 u5 SD.out ⟨by have := HK32.out; (try rw [ByteArray.size_append]); (first | omega | (simp; omega)), by omega, by omega⟩
      obtain ⟨r1, r2⟩ := HRes.out _ SD.out.gr
      obtain ⟨d0, d1, d2, f0, f1, f2⟩ := res3 r1
      obtain ⟨e0', e1', e2', g0, g1, g2⟩ := res3 r2
      have hn4 : (w.heap.size ≠ A ∧ w.heap.size + 1 ≠ A) ∧ w.heap.size ≠ X ∧ w.heap.size + 1 ≠ X := by have := SD.out.hA; have := SD.out.hX; have := z1.out; omega
      have kx := SD.out.box
      have ka := SD.out.aud
      have kx1 := ((kx.other w.heap.size 0 hn4.2.1 (.slice q rs.length cq)).other w.heap.size 1 hn4.2.1 (.slice p' lv.length cp)).other w.heap.size 2 hn4.2.1 (.int .i64 now)
      have ka1 := ((ka.other w.heap.size 0 hn4.1.1 (.slice q rs.length cq)).other w.heap.size 1 hn4.1.1 (.slice p' lv.length cp)).other w.heap.size 2 hn4.1.1 (.int .i64 now)
      have kx2 := ((kx1.other (w.heap.size + 1) 0 hn4.2.2 (.string (ak))).other (w.heap.size + 1) 1 hn4.2.2 (.int .i64 (0))).other (w.heap.size + 1) 2 hn4.2.2 (.string (u))
      have ka2 := ((ka1.other (w.heap.size + 1) 0 hn4.1.2 (.string (ak))).other (w.heap.size + 1) 1 hn4.1.2 (.int .i64 (0))).other (w.heap.size + 1) 2 hn4.1.2 (.string (u))
      have HC0 : Hid (_ ∧ _) := And.intro (And.intro (kx.cell 0) (And.intro (kx.cell 1) (kx.cell 2))) (And.intro (ka.cell 0) (And.intro (ka.cell 1) (ka.cell 2)))
      have HC1 : Hid (_ ∧ _) := And.intro (And.intro (kx1.cell 0) (And.intro (kx1.cell 1) (kx1.cell 2))) (And.intro (ka1.cell 0) (And.intro (ka1.cell 1) (ka1.cell 2)))
      have HC2 : Hid (_ ∧ _) := And.intro (And.intro (kx2.cell 0) (And.intro (kx2.cell 1) (kx2.cell 2))) (And.intro (ka2.cell 0) (And.intro (ka2.cell 1) (ka2.cell 2)))
      clear HEnd S10 SD r1 r2 kx ka kx1 ka1 kx2 ka2 hn4
      refine wp_region_held_drew (S := fun w' => (w'.cell? ⟨X, 0, none⟩ = some (.slice q rs.length cq) ∧ w'.cell? ⟨X, 1, none⟩ = some (.slice p' lv.length cp) ∧ w'.cell? ⟨X, 2, none⟩ = some (.int .i64 now)) ∧ w'.cell? ⟨A, 0, none⟩ = some (.string (ak)) ∧ w'.cell? ⟨A, 1, none⟩ = some (.int .i64 (0)) ∧ w'.cell? ⟨A, 2, none⟩ = some (.string (u))) (by kernel_rfl) (HC0.out) (fun hHeld => ?_)
      generalize v9.drew = xd at *
      refine take_at 0 (v := ?_) rfl (by kernel_rfl) (by kernel_rfl) (by kernel_rfl) (fun _ _ _ h => h) hHeld (Or.inl ⟨by rfl, ?_⟩) ?_
      rotate_left
      · (intro w hSw; (try dsimp only at hSw); go_simp; try with_reducible rfl)
      simp only [Act.put, List.setIfInBounds_toArray, List.set_cons_zero, List.set_cons_succ]
      refine take_at 1 (v := ?_) rfl (by kernel_rfl) (by kernel_rfl) (by kernel_rfl) (fun _ _ _ h => h) hHeld (Or.inl ⟨by rfl, ?_⟩) ?_
      rotate_left
      · (intro w hSw; (try dsimp only at hSw); go_simp; try with_reducible rfl)
      simp only [Act.put, List.setIfInBounds_toArray, List.set_cons_zero, List.set_cons_succ]
      refine ready_at 2 rfl (by kernel_rfl) (fun K hK => ?_)
      go_simp
      refine hK.out _ _ (HC1.out) (fun hHeld => ?_)
      clear hK K
      try simp only [Act.put, List.setIfInBounds_toArray, List.set_cons_zero, List.set_cons_succ]
      refine ready_at 3 rfl (by kernel_rfl) (fun K hK => ?_)
      go_simp
      refine hK.out _ _ (HC2.out) (fun hHeld => ?_)
      clear hK K
      try simp only [Act.put, List.setIfInBounds_toArray, List.set_cons_zero, List.set_cons_succ]
      refine wpAnyH_done (by kernel_rfl) ?_ _
      clear hHeld HC0 HC1 HC2
      go_wp2_with fail
      refine bodyPost_ret (v := .tuple #[.agg #[.slice q rs.length cq, .slice p' lv.length cp, .int .i64 now], .agg #[.string (ak), .int .i64 (0), .string (u)]]) (by simp [results, Tryz.results28, go_sem, d0, d1, d2, e0', e1', e2']) rfl ?_
      exact HE.out _ _ _ _ _ _
  | true =>
    have S7 : Hid (LkS W1 B p a len cap X q cq rs p' cp lv now A ak n ⟨#[]⟩ (y6.setCell ⟨A, 1, none⟩ (.int .i64 n))) := S6.out.set1 n
    clear S6 d0
    go_upto_region 6 with fail
    clear x0 x1 x2 a0 a1 a2 f0 f1 f2
    generalize y6.setCell ⟨A, 1, none⟩ (.int .i64 n) = y7 at *
    obtain ⟨⟨x0, x1, x2⟩, ⟨a0, a1, a2⟩, f0, f1, f2⟩ := S7.out.six
    have hRo := specRootOf_any p' lv cp q rs cq now n y7 S7.out.at
    have hrz := ro_size rs lv now n
    generalize roO rs lv now n = rt at *
    go_wp2_with fail
    refine hRo.mono ?_
    rintro e y8 ⟨rfl, b8⟩
    have S8' : Hid (LkS W1 B p a len cap X q cq rs p' cp lv now A ak n ⟨#[]⟩ y8) := S7.out.below b8
    have S6 : Hid (LkS W1 B p a len cap X q cq rs p' cp lv now A ak n rt (y8.setCell ⟨A, 2, none⟩ (.string rt))) := S8'.out.set2 rt
    clear hRo b8 S7 x0 x1 x2 a0 a1 a2 f0 f1 f2
    obtain ⟨-, ⟨a0, a1, a2⟩, f0, f1, f2⟩ := S8'.out.six
    clear S8'
    go_upto_region 7 with fail
    clear a0 a1 a2 f0 f1 f2
    generalize y8.setCell ⟨A, 2, none⟩ (.string rt) = y9 at *
    go_wp2_with fail
    refine (one_any B p a len cap 12 _ S6.out.src (by omega)).mono ?_
    rintro e f7 ⟨⟨b7, rfl⟩, ss, gg⟩
    have S7 : Hid (LkS W1 B p a len cap X q cq rs p' cp lv now A ak n rt f7) := S6.out.step ss gg
    clear ss gg S6
    cases b7 with
    | false =>
      go_upto_region 14 with fail
      have z120 : (⟨#[120]⟩ : ByteArray).size = 1 := rfl
      have SD : Hid (LkS W1 B p a len cap X q cq rs p' cp lv now A (ak) (n) (rt) f7.drew) := S7.out.below (Below.refl _ _).drew
      have HE : Hid _ := fun u0 u1 u2 u3 u4 u5 => HEnd.out (ak) (n) (rt) _ u0 u1 u2 u3 u4 u5 SD.out ⟨by have := HK32.out; (try rw [ByteArray.size_append]); (first | omega | (simp; omega)), by omega, by omega⟩
      obtain ⟨r1, r2⟩ := HRes.out _ SD.out.gr
      obtain ⟨d0, d1, d2, f0, f1, f2⟩ := res3 r1
      obtain ⟨e0', e1', e2', g0, g1, g2⟩ := res3 r2
      have hn4 : (w.heap.size ≠ A ∧ w.heap.size + 1 ≠ A) ∧ w.heap.size ≠ X ∧ w.heap.size + 1 ≠ X := by have := SD.out.hA; have := SD.out.hX; have := z1.out; omega
      have kx := SD.out.box
      have ka := SD.out.aud
      have kx1 := ((kx.other w.heap.size 0 hn4.2.1 (.slice q rs.length cq)).other w.heap.size 1 hn4.2.1 (.slice p' lv.length cp)).other w.heap.size 2 hn4.2.1 (.int .i64 now)
      have ka1 := ((ka.other w.heap.size 0 hn4.1.1 (.slice q rs.length cq)).other w.heap.size 1 hn4.1.1 (.slice p' lv.length cp)).other w.heap.size 2 hn4.1.1 (.int .i64 now)
      have kx2 := ((kx1.other (w.heap.size + 1) 0 hn4.2.2 (.string (ak))).other (w.heap.size + 1) 1 hn4.2.2 (.int .i64 (n))).other (w.heap.size + 1) 2 hn4.2.2 (.string (rt))
      have ka2 := ((ka1.other (w.heap.size + 1) 0 hn4.1.2 (.string (ak))).other (w.heap.size + 1) 1 hn4.1.2 (.int .i64 (n))).other (w.heap.size + 1) 2 hn4.1.2 (.string (rt))
      have HC0 : Hid (_ ∧ _) := And.intro (And.intro (kx.cell 0) (And.intro (kx.cell 1) (kx.cell 2))) (And.intro (ka.cell 0) (And.intro (ka.cell 1) (ka.cell 2)))
      have HC1 : Hid (_ ∧ _) := And.intro (And.intro (kx1.cell 0) (And.intro (kx1.cell 1) (kx1.cell 2))) (And.intro (ka1.cell 0) (And.intro (ka1.cell 1) (ka1.cell 2)))
      have HC2 : Hid (_ ∧ _) := And.intro (And.intro (kx2.cell 0) (And.intro (kx2.cell 1) (kx2.cell 2))) (And.intro (ka2.cell 0) (And.intro (ka2.cell 1) (ka2.cell 2)))
      clear HEnd S7 SD r1 r2 kx ka kx1 ka1 kx2 ka2 hn4
      refine wp_region_held_drew (S := fun w' => (w'.cell? ⟨X, 0, none⟩ = some (.slice q rs.length cq) ∧ w'.cell? ⟨X, 1, none⟩ = some (.slice p' lv.length cp) ∧ w'.cell? ⟨X, 2, none⟩ = some (.int .i64 now)) ∧ w'.cell? ⟨A, 0, none⟩ = some (.string (ak)) ∧ w'.cell? ⟨A, 1, none⟩ = some (.int .i64 (n)) ∧ w'.cell? ⟨A, 2, none⟩ = some (.string (rt))) (by kernel_rfl) (HC0.out) (fun hHeld => ?_)
      generalize f7.drew = xd at *
      refine take_at 0 (v := ?_) rfl (by kernel_rfl) (by kernel_rfl) (by kernel_rfl) (fun _ _ _ h => h) hHeld (Or.inl ⟨by rfl, ?_⟩) ?_
      rotate_left
      · (intro w hSw; (try dsimp only at hSw); go_simp; try with_reducible rfl)
      simp only [Act.put, List.setIfInBounds_toArray, List.set_cons_zero, List.set_cons_succ]
      refine take_at 1 (v := ?_) rfl (by kernel_rfl) (by kernel_rfl) (by kernel_rfl) (fun _ _ _ h => h) hHeld (Or.inl ⟨by rfl, ?_⟩) ?_
      rotate_left
      · (intro w hSw; (try dsimp only at hSw); go_simp; try with_reducible rfl)
      simp only [Act.put, List.setIfInBounds_toArray, List.set_cons_zero, List.set_cons_succ]
      refine ready_at 2 rfl (by kernel_rfl) (fun K hK => ?_)
      go_simp
      refine hK.out _ _ (HC1.out) (fun hHeld => ?_)
      clear hK K
      try simp only [Act.put, List.setIfInBounds_toArray, List.set_cons_zero, List.set_cons_succ]
      refine ready_at 3 rfl (by kernel_rfl) (fun K hK => ?_)
      go_simp
      refine hK.out _ _ (HC2.out) (fun hHeld => ?_)
      clear hK K
      try simp only [Act.put, List.setIfInBounds_toArray, List.set_cons_zero, List.set_cons_succ]
      refine wpAnyH_done (by kernel_rfl) ?_ _
      clear hHeld HC0 HC1 HC2
      go_wp2_with fail
      refine bodyPost_ret (v := .tuple #[.agg #[.slice q rs.length cq, .slice p' lv.length cp, .int .i64 now], .agg #[.string (ak), .int .i64 (n), .string (rt)]]) (by simp [results, Tryz.results28, go_sem, d0, d1, d2, e0', e1', e2']) rfl ?_
      exact HE.out _ _ _ _ _ _
    | true =>
      go_wp2_with fail
      refine (n_any B p a len cap 3 _ S7.out.src (by omega)).mono ?_
      rintro e f8 ⟨⟨m, rfl, m0, m1, -⟩, ss, gg⟩
      have S8 : Hid (LkS W1 B p a len cap X q cq rs p' cp lv now A ak n rt f8) := S7.out.step ss gg
      have m2 := m1 (by omega)
      clear ss gg S7 m1
      obtain ⟨-, ⟨a0, a1, a2⟩, f0, f1, f2⟩ := S8.out.six
      by_cases hm0 : m = 0
      · subst hm0
        clear m0 m2
        have hak := HK32.out
        have S9 : Hid (LkS W1 B p a len cap X q cq rs p' cp lv now A (ak ++ ⟨#[120]⟩) n rt (f8.setCell ⟨A, 0, none⟩ (.string (ak ++ ⟨#[120]⟩)))) := S8.out.set0 _
        clear S8
        go_upto_region 14 with fail
        clear a0 a1 a2 f0 f1 f2
        generalize f8.setCell ⟨A, 0, none⟩ (.string (ak ++ ⟨#[120]⟩)) = v9 at *
        have z120 : (⟨#[120]⟩ : ByteArray).size = 1 := rfl
        have SD : Hid (LkS W1 B p a len cap X q cq rs p' cp lv now A (ak ++ ⟨#[120]⟩) (n) (rt) v9.drew) := S9.out.below (Below.refl _ _).drew
        have HE : Hid _ := fun u0 u1 u2 u3 u4 u5 => HEnd.out (ak ++ ⟨#[120]⟩) (n) (rt) _ u0 u1 u2 u3 u4 u5 SD.out ⟨by have := HK32.out; (try rw [ByteArray.size_append]); (first | omega | (simp; omega)), by omega, by omega⟩
        obtain ⟨r1, r2⟩ := HRes.out _ SD.out.gr
        obtain ⟨d0, d1, d2, f0, f1, f2⟩ := res3 r1
        obtain ⟨e0', e1', e2', g0, g1, g2⟩ := res3 r2
        have hn4 : (w.heap.size ≠ A ∧ w.heap.size + 1 ≠ A) ∧ w.heap.size ≠ X ∧ w.heap.size + 1 ≠ X := by have := SD.out.hA; have := SD.out.hX; have := z1.out; omega
        have kx := SD.out.box
        have ka := SD.out.aud
        have kx1 := ((kx.other w.heap.size 0 hn4.2.1 (.slice q rs.length cq)).other w.heap.size 1 hn4.2.1 (.slice p' lv.length cp)).other w.heap.size 2 hn4.2.1 (.int .i64 now)
        have ka1 := ((ka.other w.heap.size 0 hn4.1.1 (.slice q rs.length cq)).other w.heap.size 1 hn4.1.1 (.slice p' lv.length cp)).other w.heap.size 2 hn4.1.1 (.int .i64 now)
        have kx2 := ((kx1.other (w.heap.size + 1) 0 hn4.2.2 (.string (ak ++ ⟨#[120]⟩))).other (w.heap.size + 1) 1 hn4.2.2 (.int .i64 (n))).other (w.heap.size + 1) 2 hn4.2.2 (.string (rt))
        have ka2 := ((ka1.other (w.heap.size + 1) 0 hn4.1.2 (.string (ak ++ ⟨#[120]⟩))).other (w.heap.size + 1) 1 hn4.1.2 (.int .i64 (n))).other (w.heap.size + 1) 2 hn4.1.2 (.string (rt))
        have HC0 : Hid (_ ∧ _) := And.intro (And.intro (kx.cell 0) (And.intro (kx.cell 1) (kx.cell 2))) (And.intro (ka.cell 0) (And.intro (ka.cell 1) (ka.cell 2)))
        have HC1 : Hid (_ ∧ _) := And.intro (And.intro (kx1.cell 0) (And.intro (kx1.cell 1) (kx1.cell 2))) (And.intro (ka1.cell 0) (And.intro (ka1.cell 1) (ka1.cell 2)))
        have HC2 : Hid (_ ∧ _) := And.intro (And.intro (kx2.cell 0) (And.intro (kx2.cell 1) (kx2.cell 2))) (And.intro (ka2.cell 0) (And.intro (ka2.cell 1) (ka2.cell 2)))
        clear HEnd S9 SD r1 r2 kx ka kx1 ka1 kx2 ka2 hn4
        refine wp_region_held_drew (S := fun w' => (w'.cell? ⟨X, 0, none⟩ = some (.slice q rs.length cq) ∧ w'.cell? ⟨X, 1, none⟩ = some (.slice p' lv.length cp) ∧ w'.cell? ⟨X, 2, none⟩ = some (.int .i64 now)) ∧ w'.cell? ⟨A, 0, none⟩ = some (.string (ak ++ ⟨#[120]⟩)) ∧ w'.cell? ⟨A, 1, none⟩ = some (.int .i64 (n)) ∧ w'.cell? ⟨A, 2, none⟩ = some (.string (rt))) (by kernel_rfl) (HC0.out) (fun hHeld => ?_)
        generalize v9.drew = xd at *
        refine take_at 0 (v := ?_) rfl (by kernel_rfl) (by kernel_rfl) (by kernel_rfl) (fun _ _ _ h => h) hHeld (Or.inl ⟨by rfl, ?_⟩) ?_
        rotate_left
        · (intro w hSw; (try dsimp only at hSw); go_simp; try with_reducible rfl)
        simp only [Act.put, List.setIfInBounds_toArray, List.set_cons_zero, List.set_cons_succ]
        refine take_at 1 (v := ?_) rfl (by kernel_rfl) (by kernel_rfl) (by kernel_rfl) (fun _ _ _ h => h) hHeld (Or.inl ⟨by rfl, ?_⟩) ?_
        rotate_left
        · (intro w hSw; (try dsimp only at hSw); go_simp; try with_reducible rfl)
        simp only [Act.put, List.setIfInBounds_toArray, List.set_cons_zero, List.set_cons_succ]
        refine ready_at 2 rfl (by kernel_rfl) (fun K hK => ?_)
        go_simp
        refine hK.out _ _ (HC1.out) (fun hHeld => ?_)
        clear hK K
        try simp only [Act.put, List.setIfInBounds_toArray, List.set_cons_zero, List.set_cons_succ]
        refine ready_at 3 rfl (by kernel_rfl) (fun K hK => ?_)
        go_simp
        refine hK.out _ _ (HC2.out) (fun hHeld => ?_)
        clear hK K
        try simp only [Act.put, List.setIfInBounds_toArray, List.set_cons_zero, List.set_cons_succ]
        refine wpAnyH_done (by kernel_rfl) ?_ _
        clear hHeld HC0 HC1 HC2
        go_wp2_with fail
        refine bodyPost_ret (v := .tuple #[.agg #[.slice q rs.length cq, .slice p' lv.length cp, .int .i64 now], .agg #[.string (ak ++ ⟨#[120]⟩), .int .i64 (n), .string (rt)]]) (by simp [results, Tryz.results28, go_sem, d0, d1, d2, e0', e1', e2']) rfl ?_
        exact HE.out _ _ _ _ _ _
      have e0 : (m == 0) = false := beq_eq_false_iff_ne.2 hm0
      by_cases hm1 : m = 1
      · subst hm1
        clear m0 m2 hm0 e0
        have S9 : Hid (LkS W1 B p a len cap X q cq rs p' cp lv now A ak (n + 1) rt (f8.setCell ⟨A, 1, none⟩ (.int .i64 (n + 1)))) := S8.out.set1 _
        clear S8
        go_upto_region 14 with fail
        clear a0 a1 a2 f0 f1 f2
        generalize f8.setCell ⟨A, 1, none⟩ (.int .i64 (n + 1)) = v9 at *
        have z120 : (⟨#[120]⟩ : ByteArray).size = 1 := rfl
        have SD : Hid (LkS W1 B p a len cap X q cq rs p' cp lv now A (ak) (n + 1) (rt) v9.drew) := S9.out.below (Below.refl _ _).drew
        have HE : Hid _ := fun u0 u1 u2 u3 u4 u5 => HEnd.out (ak) (n + 1) (rt) _ u0 u1 u2 u3 u4 u5 SD.out ⟨by have := HK32.out; (try rw [ByteArray.size_append]); (first | omega | (simp; omega)), by omega, by omega⟩
        obtain ⟨r1, r2⟩ := HRes.out _ SD.out.gr
        obtain ⟨d0, d1, d2, f0, f1, f2⟩ := res3 r1
        obtain ⟨e0', e1', e2', g0, g1, g2⟩ := res3 r2
        have hn4 : (w.heap.size ≠ A ∧ w.heap.size + 1 ≠ A) ∧ w.heap.size ≠ X ∧ w.heap.size + 1 ≠ X := by have := SD.out.hA; have := SD.out.hX; have := z1.out; omega
        have kx := SD.out.box
        have ka := SD.out.aud
        have kx1 := ((kx.other w.heap.size 0 hn4.2.1 (.slice q rs.length cq)).other w.heap.size 1 hn4.2.1 (.slice p' lv.length cp)).other w.heap.size 2 hn4.2.1 (.int .i64 now)
        have ka1 := ((ka.other w.heap.size 0 hn4.1.1 (.slice q rs.length cq)).other w.heap.size 1 hn4.1.1 (.slice p' lv.length cp)).other w.heap.size 2 hn4.1.1 (.int .i64 now)
        have kx2 := ((kx1.other (w.heap.size + 1) 0 hn4.2.2 (.string (ak))).other (w.heap.size + 1) 1 hn4.2.2 (.int .i64 (n + 1))).other (w.heap.size + 1) 2 hn4.2.2 (.string (rt))
        have ka2 := ((ka1.other (w.heap.size + 1) 0 hn4.1.2 (.string (ak))).other (w.heap.size + 1) 1 hn4.1.2 (.int .i64 (n + 1))).other (w.heap.size + 1) 2 hn4.1.2 (.string (rt))
        have HC0 : Hid (_ ∧ _) := And.intro (And.intro (kx.cell 0) (And.intro (kx.cell 1) (kx.cell 2))) (And.intro (ka.cell 0) (And.intro (ka.cell 1) (ka.cell 2)))
        have HC1 : Hid (_ ∧ _) := And.intro (And.intro (kx1.cell 0) (And.intro (kx1.cell 1) (kx1.cell 2))) (And.intro (ka1.cell 0) (And.intro (ka1.cell 1) (ka1.cell 2)))
        have HC2 : Hid (_ ∧ _) := And.intro (And.intro (kx2.cell 0) (And.intro (kx2.cell 1) (kx2.cell 2))) (And.intro (ka2.cell 0) (And.intro (ka2.cell 1) (ka2.cell 2)))
        clear HEnd S9 SD r1 r2 kx ka kx1 ka1 kx2 ka2 hn4
        refine wp_region_held_drew (S := fun w' => (w'.cell? ⟨X, 0, none⟩ = some (.slice q rs.length cq) ∧ w'.cell? ⟨X, 1, none⟩ = some (.slice p' lv.length cp) ∧ w'.cell? ⟨X, 2, none⟩ = some (.int .i64 now)) ∧ w'.cell? ⟨A, 0, none⟩ = some (.string (ak)) ∧ w'.cell? ⟨A, 1, none⟩ = some (.int .i64 (n + 1)) ∧ w'.cell? ⟨A, 2, none⟩ = some (.string (rt))) (by kernel_rfl) (HC0.out) (fun hHeld => ?_)
        generalize v9.drew = xd at *
        refine take_at 0 (v := ?_) rfl (by kernel_rfl) (by kernel_rfl) (by kernel_rfl) (fun _ _ _ h => h) hHeld (Or.inl ⟨by rfl, ?_⟩) ?_
        rotate_left
        · (intro w hSw; (try dsimp only at hSw); go_simp; try with_reducible rfl)
        simp only [Act.put, List.setIfInBounds_toArray, List.set_cons_zero, List.set_cons_succ]
        refine take_at 1 (v := ?_) rfl (by kernel_rfl) (by kernel_rfl) (by kernel_rfl) (fun _ _ _ h => h) hHeld (Or.inl ⟨by rfl, ?_⟩) ?_
        rotate_left
        · (intro w hSw; (try dsimp only at hSw); go_simp; try with_reducible rfl)
        simp only [Act.put, List.setIfInBounds_toArray, List.set_cons_zero, List.set_cons_succ]
        refine ready_at 2 rfl (by kernel_rfl) (fun K hK => ?_)
        go_simp
        refine hK.out _ _ (HC1.out) (fun hHeld => ?_)
        clear hK K
        try simp only [Act.put, List.setIfInBounds_toArray, List.set_cons_zero, List.set_cons_succ]
        refine ready_at 3 rfl (by kernel_rfl) (fun K hK => ?_)
        go_simp
        refine hK.out _ _ (HC2.out) (fun hHeld => ?_)
        clear hK K
        try simp only [Act.put, List.setIfInBounds_toArray, List.set_cons_zero, List.set_cons_succ]
        refine wpAnyH_done (by kernel_rfl) ?_ _
        clear hHeld HC0 HC1 HC2
        go_wp2_with fail
        refine bodyPost_ret (v := .tuple #[.agg #[.slice q rs.length cq, .slice p' lv.length cp, .int .i64 now], .agg #[.string (ak), .int .i64 (n + 1), .string (rt)]]) (by simp [results, Tryz.results28, go_sem, d0, d1, d2, e0', e1', e2']) rfl ?_
        exact HE.out _ _ _ _ _ _
      have e1 : (m == 1) = false := beq_eq_false_iff_ne.2 hm1
      clear m0 m2 hm0 hm1
      go_wp2_with fail
      refine (spoilT_any B p a len cap (rt) _ S8.out.src (by omega)).mono ?_
      rintro e f9 ⟨⟨u, rfl, hu⟩, ss, gg⟩
      have S9 : Hid (LkS W1 B p a len cap X q cq rs p' cp lv now A ak n rt f9) := S8.out.step ss gg
      have S10 : Hid (LkS W1 B p a len cap X q cq rs p' cp lv now A ak n u (f9.setCell ⟨A, 2, none⟩ (.string u))) := S9.out.set2 _
      clear ss gg S8 a0 a1 a2 f0 f1 f2
      obtain ⟨-, ⟨a0, a1, a2⟩, f0, f1, f2⟩ := S9.out.six
      clear S9
      go_upto_region 14 with fail
      clear a0 a1 a2 f0 f1 f2 e0 e1
      generalize f9.setCell ⟨A, 2, none⟩ (.string u) = v9 at *
      have z120 : (⟨#[120]⟩ : ByteArray).size = 1 := rfl
      have SD : Hid (LkS W1 B p a len cap X q cq rs p' cp lv now A (ak) (n) (u) v9.drew) := S10.out.below (Below.refl _ _).drew
      have HE : Hid _ := fun u0 u1 u2 u3 u4 u5 => HEnd.out (ak) (n) (u) _ u0 u1 u2 u3 u4 u5 SD.out ⟨by have := HK32.out; (try rw [ByteArray.size_append]); (first | omega | (simp; omega)), by omega, by omega⟩
      obtain ⟨r1, r2⟩ := HRes.out _ SD.out.gr
      obtain ⟨d0, d1, d2, f0, f1, f2⟩ := res3 r1
      obtain ⟨e0', e1', e2', g0, g1, g2⟩ := res3 r2
      have hn4 : (w.heap.size ≠ A ∧ w.heap.size + 1 ≠ A) ∧ w.heap.size ≠ X ∧ w.heap.size + 1 ≠ X := by have := SD.out.hA; have := SD.out.hX; have := z1.out; omega
      have kx := SD.out.box
      have ka := SD.out.aud
      have kx1 := ((kx.other w.heap.size 0 hn4.2.1 (.slice q rs.length cq)).other w.heap.size 1 hn4.2.1 (.slice p' lv.length cp)).other w.heap.size 2 hn4.2.1 (.int .i64 now)
      have ka1 := ((ka.other w.heap.size 0 hn4.1.1 (.slice q rs.length cq)).other w.heap.size 1 hn4.1.1 (.slice p' lv.length cp)).other w.heap.size 2 hn4.1.1 (.int .i64 now)
      have kx2 := ((kx1.other (w.heap.size + 1) 0 hn4.2.2 (.string (ak))).other (w.heap.size + 1) 1 hn4.2.2 (.int .i64 (n))).other (w.heap.size + 1) 2 hn4.2.2 (.string (u))
      have ka2 := ((ka1.other (w.heap.size + 1) 0 hn4.1.2 (.string (ak))).other (w.heap.size + 1) 1 hn4.1.2 (.int .i64 (n))).other (w.heap.size + 1) 2 hn4.1.2 (.string (u))
      have HC0 : Hid (_ ∧ _) := And.intro (And.intro (kx.cell 0) (And.intro (kx.cell 1) (kx.cell 2))) (And.intro (ka.cell 0) (And.intro (ka.cell 1) (ka.cell 2)))
      have HC1 : Hid (_ ∧ _) := And.intro (And.intro (kx1.cell 0) (And.intro (kx1.cell 1) (kx1.cell 2))) (And.intro (ka1.cell 0) (And.intro (ka1.cell 1) (ka1.cell 2)))
      have HC2 : Hid (_ ∧ _) := And.intro (And.intro (kx2.cell 0) (And.intro (kx2.cell 1) (kx2.cell 2))) (And.intro (ka2.cell 0) (And.intro (ka2.cell 1) (ka2.cell 2)))
      clear HEnd S10 SD r1 r2 kx ka kx1 ka1 kx2 ka2 hn4
      refine wp_region_held_drew (S := fun w' => (w'.cell? ⟨X, 0, none⟩ = some (.slice q rs.length cq) ∧ w'.cell? ⟨X, 1, none⟩ = some (.slice p' lv.length cp) ∧ w'.cell? ⟨X, 2, none⟩ = some (.int .i64 now)) ∧ w'.cell? ⟨A, 0, none⟩ = some (.string (ak)) ∧ w'.cell? ⟨A, 1, none⟩ = some (.int .i64 (n)) ∧ w'.cell? ⟨A, 2, none⟩ = some (.string (u))) (by kernel_rfl) (HC0.out) (fun hHeld => ?_)
      generalize v9.drew = xd at *
      refine take_at 0 (v := ?_) rfl (by kernel_rfl) (by kernel_rfl) (by kernel_rfl) (fun _ _ _ h => h) hHeld (Or.inl ⟨by rfl, ?_⟩) ?_
      rotate_left
      · (intro w hSw; (try dsimp only at hSw); go_simp; try with_reducible rfl)
      simp only [Act.put, List.setIfInBounds_toArray, List.set_cons_zero, List.set_cons_succ]
      refine take_at 1 (v := ?_) rfl (by kernel_rfl) (by kernel_rfl) (by kernel_rfl) (fun _ _ _ h => h) hHeld (Or.inl ⟨by rfl, ?_⟩) ?_
      rotate_left
      · (intro w hSw; (try dsimp only at hSw); go_simp; try with_reducible rfl)
      simp only [Act.put, List.setIfInBounds_toArray, List.set_cons_zero, List.set_cons_succ]
      refine ready_at 2 rfl (by kernel_rfl) (fun K hK => ?_)
      go_simp
      refine hK.out _ _ (HC1.out) (fun hHeld => ?_)
      clear hK K
      try simp only [Act.put, List.setIfInBounds_toArray, List.set_cons_zero, List.set_cons_succ]
      refine ready_at 3 rfl (by kernel_rfl) (fun K hK => ?_)
      go_simp
      refine hK.out _ _ (HC2.out) (fun hHeld => ?_)
      clear hK K
      try simp only [Act.put, List.setIfInBounds_toArray, List.set_cons_zero, List.set_cons_succ]
      refine wpAnyH_done (by kernel_rfl) ?_ _
      clear hHeld HC0 HC1 HC2
      go_wp2_with fail
      refine bodyPost_ret (v := .tuple #[.agg #[.slice q rs.length cq, .slice p' lv.length cp, .int .i64 now], .agg #[.string (ak), .int .i64 (n), .string (u)]]) (by simp [results, Tryz.results28, go_sem, d0, d1, d2, e0', e1', e2']) rfl ?_
      exact HE.out _ _ _ _ _ _
end Go.Proofs.YtonleickhincgaaGreatDoor
