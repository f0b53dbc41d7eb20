/-
  What the specification's AreaFormat answers.
  Conditions: the cells of Sectors and Pending hold the texts and the pendings.
-/
import Derived.Test.YtcbclmhkejknoaaRows
import Derived.Test.YtcbclmhkejknoaaBytes
import Derived.Test.YtcbclmhkejknoaaSlA
import Derived.Test.YtcbclmhkejknoaaSlB
import Derived.Test.YtcbclmhkejknoaaOwnS
import Derived.Test.YtcbclmhkejknoaaPutMath
import Derived.Test.YtcbclmhkejknoaaSeal
import Derived.Test.YtcbclmhkejknoaaDskMath
import Derived.Test.YtcbclmhkejknoaaDskR
import Derived.Test.YtcbclmhkejknoaaDskS
import Derived.Test.YtcbclmhkejknoaaDskA
import Derived.Test.YtcbclmhkejknoaaDskC
import Derived.Test.YtcbclmhkejknoaaDskT
import Derived.Test.YtcbclmhkejknoaaDskW
import Derived.Test.YtcbclmhkejknoaaDskF
import Derived.Test.YtcbclmhkejknoaaDskLaw
import Derived.Test.YtcbclmhkejknoaaLawD
import Derived.Test.YtcbclmhkejknoaaAreaA
import Derived.Test.YtcbclmhkejknoaaAreaF
import Derived.Handy
import Derived.WalkSpells
import Derived.OwnWalk
import Derived.Deep.RegionHeld3
import Derived.Deep.Cut
import Derived.Deep.CutRange
namespace Go.Proofs.Ytcbclmhkejknoaa
open Go.RowKit Go.Lib
set_option linter.unusedVariables false
set_option maxRecDepth 20000

def fmC (ss : List ByteArray) (ps : List Pnd) : Int := if dskB ss ps = true then (if ss.length < 3 then 9 else wrC ss ps 0 (headB 0 0 0)) else 1
def fmS (ss : List ByteArray) (ps : List Pnd) : List ByteArray := if fmC ss ps = 0 then flushB ss (ps ++ [(0, headB 0 0 0)]) else []
set_option maxHeartbeats 4000000 in
theorem specAreaFormat_any (q1 : Option Addr) (c1 : Nat) (ss : List ByteArray) (q2 : Option Addr) (c2 : Nat) (ps : List Pnd) (w : World) (h1 : TxtAt w q1 ss) (h2 : PndAt w q2 ps) (n1 : ss.length ≤ 1048576) (n2 : ps.length ≤ 1048576) (m1 : ss.length ≤ c1) (m2 : ps.length ≤ c2) :
    Calls Try.prog 9 #[.agg #[.slice q1 ss.length c1, .slice q2 ps.length c2]] w fun e w' => ∃ v1, e = .returned (.agg #[v1, .slice none 0 0, .string ByteArray.empty, .int .i64 0, .int .i64 (fmC ss ps)]) ∧ DskO w.heap.size (fmS ss ps) [] v1 (.slice none 0 0) w' ∧ Below w.heap.size w w' := by
  obtain ⟨W2, hW2⟩ : ∃ W2, W2 = (w.alloc (.cells #[.slice q1 ss.length c1, .slice q2 ps.length c2] 25)).alloc (.cells #[.slice none 0 0, .slice none 0 0, .string ⟨#[]⟩, .int .i64 0, .int .i64 0] 31) := ⟨_, rfl⟩
  have HW2 : Hid (W2 = (w.alloc (.cells #[.slice q1 ss.length c1, .slice q2 ps.length c2] 25)).alloc (.cells #[.slice none 0 0, .slice none 0 0, .string ⟨#[]⟩, .int .i64 0, .int .i64 0] 31)) := hW2
  have hs1 : (w.alloc (.cells #[.slice q1 ss.length c1, .slice q2 ps.length c2] 25)).heap.size = w.heap.size + 1 := by simp
  have S2 : W2.heap.size = w.heap.size + 2 := by rw [hW2]; simp
  have R0 : Bxs W2 w.heap.size 25 #[.slice q1 ss.length c1, .slice q2 ps.length c2] := by rw [hW2]; exact (Bxs.new _ _ _).alloc _
  have R1 : Bxs W2 (w.heap.size + 1) 31 #[.slice none 0 0, .slice none 0 0, .string ByteArray.empty, .int .i64 0, .int .i64 0] := by rw [hW2, ← hs1]; exact Bxs.new _ _ _
  have B2 : Hid (Below w.heap.size w W2) := by rw [hW2]; exact ((Below.refl _ _).alloc (Nat.le_refl _) _).alloc (by rw [hs1]; omega) _
  have T1 : Hid (TxtAt W2 q1 ss) := h1.below B2.out
  have T2 : Hid (PndAt W2 q2 ps) := h2.below B2.out
  have HX : Hid (∀ x, Below W2.heap.size W2 x → x.cell? ⟨w.heap.size, 0, none⟩ = some (.slice q1 ss.length c1) ∧ x.cell? ⟨w.heap.size, 1, none⟩ = some (.slice q2 ps.length c2)) := fun x hb => ⟨(R0.below hb).cell 0, (R0.below hb).cell 1⟩
  have HR : Hid (∀ x, Below W2.heap.size W2 x → x.cell? ⟨w.heap.size + 1, 0, none⟩ = some (.slice none 0 0) ∧ x.cell? ⟨w.heap.size + 1, 1, none⟩ = some (.slice none 0 0) ∧ x.cell? ⟨w.heap.size + 1, 2, none⟩ = some (.string ByteArray.empty) ∧ x.cell? ⟨w.heap.size + 1, 3, none⟩ = some (.int .i64 0) ∧ x.cell? ⟨w.heap.size + 1, 4, none⟩ = some (.int .i64 0) ∧ x.frozen? ⟨w.heap.size + 1, 0, none⟩ = false ∧ x.frozen? ⟨w.heap.size + 1, 1, none⟩ = false ∧ x.frozen? ⟨w.heap.size + 1, 2, none⟩ = false ∧ x.frozen? ⟨w.heap.size + 1, 3, none⟩ = false ∧ x.frozen? ⟨w.heap.size + 1, 4, none⟩ = false) := fun x hb => by
    have k := R1.below hb
    exact ⟨k.cell 0, k.cell 1, k.cell 2, k.cell 3, k.cell 4, k.fr 0, k.fr 1, k.fr 2, k.fr 3, k.fr 4⟩
  have HEr : Hid (∀ (y : World) (c : Int) (x0 x1 x2 x3 x4 : Value), Below W2.heap.size W2 y → fmC ss ps = c → c ≠ 0 → ∃ v1, Ending.returned (.agg #[.slice none 0 0, .slice none 0 0, .string ByteArray.empty, .int .i64 0, .int .i64 c]) = .returned (.agg #[v1, .slice none 0 0, .string ByteArray.empty, .int .i64 0, .int .i64 (fmC ss ps)]) ∧ DskO w.heap.size (fmS ss ps) [] v1 (.slice none 0 0) (((((y.setCell ⟨w.heap.size + 1, 0, none⟩ x0).setCell ⟨w.heap.size + 1, 1, none⟩ x1).setCell ⟨w.heap.size + 1, 2, none⟩ x2).setCell ⟨w.heap.size + 1, 3, none⟩ x3).setCell ⟨w.heap.size + 1, 4, none⟩ x4) ∧ Below w.heap.size w (((((y.setCell ⟨w.heap.size + 1, 0, none⟩ x0).setCell ⟨w.heap.size + 1, 1, none⟩ x1).setCell ⟨w.heap.size + 1, 2, none⟩ x2).setCell ⟨w.heap.size + 1, 3, none⟩ x3).setCell ⟨w.heap.size + 1, 4, none⟩ x4)) := by
    intro y c x0 x1 x2 x3 x4 hb hc hn
    have hn' : ¬ fmC ss ps = 0 := by rw [hc]; exact hn
    rw [show fmS ss ps = [] from if_neg hn', hc]
    exact ⟨_, rfl, DskO.nil _ _, below_set5 (chainB B2.out hb) (by omega) _ _ _ _ _⟩
  have hD := specDiskRight_any q1 c1 ss q2 c2 ps W2 T1.out T2.out n1 n2 m1 m2
  obtain ⟨t0, t1⟩ := HX.out W2 (Below.refl _ _)
  have HSz : Hid (W2.heap.size = w.heap.size + 2) := S2
  rw [HW2.out] at t0 t1
  clear hW2 R0 R1 h1 h2 hs1 S2
  cases hd : dskB ss ps with
  | false =>
    have hC : Hid (fmC ss ps = 1) := if_neg (by rw [hd]; exact Bool.false_ne_true)
    have hC0 : Hid ((1 : Int) ≠ 0) := by show _ ≠ _; omega
    rw [hd] at hD
    clear hd T1 T2
    go_enter Try.func9, Try.ntmps9
    go_wp2_with fail
    rw [← HW2.out]
    refine hD.mono ?_
    rintro e y1 ⟨rfl, b1⟩
    clear t0 t1
    go_wp2_with fail
    refine (l06Ill_any 1 y1).mono ?_
    rintro e yi ⟨rfl, bi⟩
    have bi := chainB b1 bi
    have HE : Hid _ := fun x0 x1 x2 x3 x4 => HEr.out yi 1 x0 x1 x2 x3 x4 bi hC.out hC0.out
    obtain ⟨r0, r1, r2, r3, r4, f0, f1, f2, f3, f4⟩ := HR.out yi bi
    clear bi HEr HR HX b1
    go_wp2_with fail
    refine bodyPost_ret (v := .agg #[.slice none 0 0, .slice none 0 0, .string ByteArray.empty, .int .i64 0, .int .i64 1]) (by simp [results, Try.results9, go_sem, r0, r1, r2, r3, r4]) rfl ?_
    exact HE.out _ _ _ _ _
  | true =>
  rw [hd] at hD
  have hF : fmC ss ps = if ss.length < 3 then 9 else wrC ss ps 0 (headB 0 0 0) := if_pos hd
  by_cases h3 : ss.length < 3
  · have hC : Hid (fmC ss ps = 9) := by show _ = _; rw [hF, if_pos h3]
    have hC0 : Hid ((9 : Int) ≠ 0) := by show _ ≠ _; omega
    have d3 : decide ((ss.length : Int) < 3) = true := decide_eq_true (by omega)
    clear hd T1 T2 hF h3
    go_enter Try.func9, Try.ntmps9
    go_wp2_with fail
    rw [← HW2.out]
    refine hD.mono ?_
    rintro e y1 ⟨rfl, b1⟩
    clear t0 t1
    obtain ⟨t0, t1⟩ := HX.out y1 b1
    go_wp2_with fail
    refine (l06Ill_any 9 y1).mono ?_
    rintro e yi ⟨rfl, bi⟩
    have bi := chainB b1 bi
    have HE : Hid _ := fun x0 x1 x2 x3 x4 => HEr.out yi 9 x0 x1 x2 x3 x4 bi hC.out hC0.out
    obtain ⟨r0, r1, r2, r3, r4, f0, f1, f2, f3, f4⟩ := HR.out yi bi
    clear bi HEr HR HX b1
    go_wp2_with fail
    refine bodyPost_ret (v := .agg #[.slice none 0 0, .slice none 0 0, .string ByteArray.empty, .int .i64 0, .int .i64 9]) (by simp [results, Try.results9, go_sem, r0, r1, r2, r3, r4]) rfl ?_
    exact HE.out _ _ _ _ _
  rw [if_neg h3] at hF
  have d3 : decide ((ss.length : Int) < 3) = false := decide_eq_false (by omega)
  have hhs := headB_small 0 0 0
  have HHd : Hid (∀ x, Calls Try.prog 22 #[.int .i64 0, .int .i64 0, .int .i64 0] x fun e x1 => e = .returned (.string (headB 0 0 0)) ∧ Below x.heap.size x x1) := fun x => l06Head_any 0 0 0 x (by omega) (by omega) (by omega) (by omega) (by omega) (by omega)
  obtain ⟨HT, hHT⟩ : ∃ HT, HT = headB 0 0 0 := ⟨_, rfl⟩
  rw [← hHT] at hF hhs HHd
  have HHT : Hid (HT = headB 0 0 0) := hHT
  obtain ⟨XS, hXS⟩ : ∃ XS, XS = wrS ss ps 0 HT := ⟨_, rfl⟩
  obtain ⟨XP, hXP⟩ : ∃ XP, XP = wrP ss ps 0 HT := ⟨_, rfl⟩
  obtain ⟨XC, hXC⟩ : ∃ XC, XC = wrC ss ps 0 HT := ⟨_, rfl⟩
  have HXE : Hid (XS = wrS ss ps 0 HT ∧ XP = wrP ss ps 0 HT ∧ XC = wrC ss ps 0 HT) := ⟨hXS, hXP, hXC⟩
  obtain ⟨⟨p1, p2⟩, p3, -, -⟩ := dskB_parts hd
  have lx1 : XS.length ≤ 64 := by rw [hXS]; unfold wrS; split; exact p2; simp
  have lx2 : XP.length ≤ 201 := by rw [hXP]; unfold wrP; split; simp; omega; simp
  have hC : Hid (fmC ss ps = XC) := by show _ = _; rw [hF, hXC]
  have QH : Hid (∀ Yo x, ArT W2 Yo x → Calls Try.prog 22 #[.int .i64 0, .int .i64 0, .int .i64 0] x fun e x1 => e = .returned (.string HT) ∧ ArT W2 Yo x1) := fun Yo x h => (HHd.out x).mono (by
    rintro e x1 ⟨rfl, b⟩
    exact ⟨rfl, h.below b⟩)
  have QW : Hid (∀ Yo x, ArT W2 Yo x → Calls Try.prog 21 #[.agg #[.slice q1 ss.length c1, .slice q2 ps.length c2], .int .i64 0, .string HT] x fun e x1 => ∃ a1 d1 a2 d2, e = .returned (.agg #[.slice a1 XS.length d1, .slice a2 XP.length d2, .string ByteArray.empty, .int .i64 XC]) ∧ (XS.length ≤ d1 ∧ XP.length ≤ d2 ∧ TxtAt x1 a1 XS ∧ PndAt x1 a2 XP) ∧ (∀ Y, Yo = some Y → (∀ b o, a1 = some ⟨b, o, none⟩ → XS ≠ [] → b ≠ Y) ∧ (∀ b o, a2 = some ⟨b, o, none⟩ → XP ≠ [] → b ≠ Y)) ∧ ArT W2 Yo x1) := fun Yo x h => by
    have h0 := specDiskWrite_any q1 c1 ss q2 c2 ps 0 HT x (T1.out.below h.bel) (T2.out.below h.bel) n1 n2 m1 m2 (by omega)
    rw [← HXE.out.1, ← HXE.out.2.1, ← HXE.out.2.2] at h0
    refine h0.mono ?_
    rintro e x1 ⟨v1, v2, rfl, ho, hb⟩
    obtain ⟨a1, d1, rfl, k1, u1⟩ := ownS_form ho.own1
    obtain ⟨a2, d2, rfl, k2, u2⟩ := ownP_form ho.own2
    refine ⟨a1, d1, a2, d2, rfl, ⟨k1, k2, u1, u2⟩, fun Y hY => ?_, h.below hb⟩
    have hl := (h.y Y hY).1.lt
    refine ⟨fun b o e _ => ?_, fun b o e _ => ?_⟩
    · subst e; have := (ho.own1.lt b rfl).1; omega
    · subst e; have := (ho.own2.lt b rfl).1; omega
  have QC : Hid (∀ Yo x, ArT W2 Yo x → x.cell? ⟨w.heap.size, 0, none⟩ = some (.slice q1 ss.length c1) ∧ x.cell? ⟨w.heap.size, 1, none⟩ = some (.slice q2 ps.length c2)) := fun Yo x h => HX.out x h.bel
  have QC4 : Hid (∀ x Y (u0 u1 u2 u3 : Value), ArT W2 (some Y) x → ((((x.setCell ⟨Y, 0, none⟩ u0).setCell ⟨Y, 1, none⟩ u1).setCell ⟨Y, 2, none⟩ u2).setCell ⟨Y, 3, none⟩ u3).cell? ⟨w.heap.size, 0, none⟩ = some (.slice q1 ss.length c1) ∧ ((((x.setCell ⟨Y, 0, none⟩ u0).setCell ⟨Y, 1, none⟩ u1).setCell ⟨Y, 2, none⟩ u2).setCell ⟨Y, 3, none⟩ u3).cell? ⟨w.heap.size, 1, none⟩ = some (.slice q2 ps.length c2)) := fun x Y u0 u1 u2 u3 h => HX.out _ (below_set4 h.bel (h.y Y rfl).2 u0 u1 u2 u3)
  clear hHT hXS hXP hXC hF hhs HHd
  go_enter Try.func9, Try.ntmps9
  go_wp2_with fail
  rw [← HW2.out]
  refine hD.mono ?_
  rintro e y1 ⟨rfl, b1⟩
  clear t0 t1
  obtain ⟨t0, t1⟩ := HX.out y1 b1
  have T0 : Hid (ArT W2 none y1) := ArT.of b1
  clear b1
  go_upto_region 5 with fail
  go_cut [3] from 14 to 16 (fun s3 wx => ∃ Y, s3 = .pointer (some ⟨Y, 0, none⟩) ∧ Hid (ArO W2 Y XS XP XC wx))
  case first =>
    go_region_held3 (fun w' => w'.cell? ⟨w.heap.size, 0, none⟩ = some (.slice q1 ss.length c1) ∧ w'.cell? ⟨w.heap.size, 1, none⟩ = some (.slice q2 ps.length c2)) ((first | with_reducible exact QC4.out _ _ _ _ _ _ tW | (refine QC.out ?_ _ ?hT; (case hT => (with_reducible repeat (first | assumption | exact T0.out | refine ArT.drew ?_ | refine ArT.al ?_ | refine ArT.alA ?_ _)))))) (first
      | (go_at_call 22; with_reducible refine (QH.out ?_ _ ?hT).mono ?_; (case hT => (with_reducible repeat (first | assumption | exact T0.out | refine ArT.drew ?_ | refine ArT.al ?_ | refine ArT.alA ?_ _))); rintro e x1 ⟨rfl, tH⟩)
      | (go_at_call 21; with_reducible refine (QW.out ?_ _ ?hT).mono ?_; (case hT => (with_reducible repeat (first | assumption | exact T0.out | refine ArT.drew ?_ | refine ArT.al ?_ | refine ArT.alA ?_ _))); rintro e x2 ⟨a1, d1, a2, d2, rfl, ⟨k1, k2, u1, u2⟩, nn, tW⟩; first | (obtain ⟨z0, z1, z2, z3, z4, z5, z6, z7⟩ := tW.outs) | skip))
    all_goals
      go_wp2_with fail
      go_meet
      refine ⟨_, rfl, ?_⟩
      first
        | with_reducible exact ArO.newH tW k1 k2 u1 u2
        | with_reducible exact ArO.putH tW k1 k2 u1 u2 nn
  case rest =>
  obtain ⟨Y, rfl, HO⟩ := hcut
  obtain ⟨a1, d1, a2, d2, kY, e1, e2, u1, u2, bY⟩ := HO.out
  have k0 := kY.cell 0
  have k1 := kY.cell 1
  have k3 := kY.cell 3
  clear QH QW QC QC4 T0 t0 t1 HO kY
  by_cases hx : XC = 0
  · have hwc : wrC ss ps 0 HT = 0 := by rw [← HXE.out.2.2]; exact hx
    have hXS : XS = ss := HXE.out.1.trans (if_pos hwc)
    have hXP : XP = ps ++ [(0, HT)] := HXE.out.2.1.trans (if_pos hwc)
    have hrt : dskB XS XP = true := by rw [hXS, hXP]; exact write_right hwc
    have HFS : Hid (fmS ss ps = flushB XS XP) := by
      show (if fmC ss ps = 0 then _ else _) = _
      rw [if_pos (by rw [hC.out]; exact hx), hXS, hXP, HHT.out]
    have hf := specDiskFlush_any a1 d1 XS a2 d2 XP wc u1 u2 (by omega) (by omega) e1 e2
    rw [show flC XS XP = 0 from if_pos hrt, show flS XS XP = flushB XS XP from if_pos hrt] at hf
    generalize flushB XS XP = FS at *
    subst hx
    clear hwc hXS hXP hrt HXE HHT
    go_wp2_with fail
    refine hf.mono ?_
    rintro e y5 ⟨v1, rfl, ho, b5⟩
    obtain ⟨f1, g1, rfl, -, -⟩ := ownS_form ho.own1
    obtain ⟨W6, hW6⟩ : ∃ W6, W6 = y5.alloc (.cells #[.slice f1 FS.length g1, .slice none 0 0, .string ByteArray.empty, .int .i64 0] 41) := ⟨_, rfl⟩
    have HW6 : Hid (W6 = y5.alloc (.cells #[.slice f1 FS.length g1, .slice none 0 0, .string ByteArray.empty, .int .i64 0] 41)) := hW6
    have b6 : Below y5.heap.size y5 W6 := by rw [hW6]; exact (Below.refl _ _).alloc (Nat.le_refl _) _
    have K6 : Bxs W6 y5.heap.size 41 #[.slice f1 FS.length g1, .slice none 0 0, .string ByteArray.empty, .int .i64 0] := by rw [hW6]; exact Bxs.new _ _ _
    have bW6 := chainB (chainB bY b5) b6
    have hz := HSz.out
    have hzy := bY.size
    have ho6 := (ho.below b6).mono (show w.heap.size + 2 ≤ wc.heap.size by omega)
    have HE : Hid (∀ x0 x1 x2 x3 x4 : Value, DskO w.heap.size FS [] (.slice f1 FS.length g1) (.slice none 0 0) (((((W6.setCell ⟨w.heap.size + 1, 0, none⟩ x0).setCell ⟨w.heap.size + 1, 1, none⟩ x1).setCell ⟨w.heap.size + 1, 2, none⟩ x2).setCell ⟨w.heap.size + 1, 3, none⟩ x3).setCell ⟨w.heap.size + 1, 4, none⟩ x4) ∧ Below w.heap.size w (((((W6.setCell ⟨w.heap.size + 1, 0, none⟩ x0).setCell ⟨w.heap.size + 1, 1, none⟩ x1).setCell ⟨w.heap.size + 1, 2, none⟩ x2).setCell ⟨w.heap.size + 1, 3, none⟩ x3).setCell ⟨w.heap.size + 1, 4, none⟩ x4)) := fun x0 x1 x2 x3 x4 => ⟨(ho6.set5 (by omega) x0 x1 x2 x3 x4).mono (by omega), below_set5 (chainB B2.out bW6) (by omega) _ _ _ _ _⟩
    obtain ⟨r0, r1, r2, r3, r4, g0, g1', g2, g3, g4⟩ := HR.out W6 bW6
    have j0 := K6.cell 0
    have j1 := K6.cell 1
    have j3 := K6.cell 3
    rw [hW6] at j0 j1 j3 r0 r1 r2 r3 r4 g0 g1' g2 g3 g4 HE
    clear hW6 b6 K6 bW6 ho6 ho b5 bY hf k0 k1 k3 HEr HR HX hz hzy
    go_wp2_with fail
    refine bodyPost_ret (v := .agg #[.slice f1 FS.length g1, .slice none 0 0, .string ByteArray.empty, .int .i64 0, .int .i64 0]) (by simp [results, Try.results9, go_sem, r0, r1, r2, r3, r4]; rfl) rfl ?_
    rw [hC.out, HFS.out]
    exact ⟨_, rfl, HE.out _ _ _ _ _⟩
  · have hC0 : Hid (XC ≠ 0) := hx
    have hb1 : (XC == 0) = false := beq_eq_false_iff_ne.2 hx
    clear hx
    go_wp2_with fail
    refine (l06Ill_any XC wc).mono ?_
    rintro e yi ⟨rfl, bi⟩
    have bi := chainB bY bi
    have HE : Hid _ := fun x0 x1 x2 x3 x4 => HEr.out yi XC x0 x1 x2 x3 x4 bi hC.out hC0.out
    obtain ⟨r0, r1, r2, r3, r4, f0, f1, f2, f3, f4⟩ := HR.out yi bi
    clear bi HEr HR HX bY
    go_wp2_with fail
    refine bodyPost_ret (v := .agg #[.slice none 0 0, .slice none 0 0, .string ByteArray.empty, .int .i64 0, .int .i64 XC]) (by simp [results, Try.results9, go_sem, r0, r1, r2, r3, r4]) rfl ?_
    exact HE.out _ _ _ _ _
end Go.Proofs.Ytcbclmhkejknoaa
