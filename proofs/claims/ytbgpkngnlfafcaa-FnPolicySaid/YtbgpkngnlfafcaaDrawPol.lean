/-
  What l10Policy draws: a policy of its own memory, of at most 7 rules and 8 numbers, no text of it greater than 21 bytes.
  Conditions: the source is one ('Src').
-/
import Derived.Test.YtbgpkngnlfafcaaRows
import Derived.Test.YtbgpkngnlfafcaaBytes
import Derived.Test.YtbgpkngnlfafcaaSlA
import Derived.Test.YtbgpkngnlfafcaaSlB
import Derived.Test.YtbgpkngnlfafcaaOwnS
import Derived.Test.YtbgpkngnlfafcaaBxK
import Derived.Test.YtbgpkngnlfafcaaStepApp
import Derived.Test.YtbgpkngnlfafcaaTakesL
import Derived.Test.YtbgpkngnlfafcaaSrc
import Derived.Test.YtbgpkngnlfafcaaDraws
import Derived.Test.YtbgpkngnlfafcaaDrawKit
import Derived.Test.YtbgpkngnlfafcaaSomeDrawFldDrawRulDrawPo
import Derived.Test.YtbgpkngnlfafcaaIntK
import Derived.Test.YtbgpkngnlfafcaaRulMath
import Derived.Test.YtbgpkngnlfafcaaRulBlk
import Derived.Test.YtbgpkngnlfafcaaPolMath
import Derived.Test.YtbgpkngnlfafcaaPolIdx
import Derived.Test.YtbgpkngnlfafcaaRulIdx
import Derived.Test.YtbgpkngnlfafcaaLawI
import Derived.Test.YtbgpkngnlfafcaaRowOps
import Derived.Test.YtbgpkngnlfafcaaPolO
import Derived.Test.YtbgpkngnlfafcaaPolAns
import Derived.Test.YtbgpkngnlfafcaaDelI
import Derived.Test.YtbgpkngnlfafcaaDelR
import Derived.Test.YtbgpkngnlfafcaaSpecHe
import Derived.Test.YtbgpkngnlfafcaaSrchIInsIImplHoImplFePolCs
import Derived.Test.YtbgpkngnlfafcaaSpecHoSpecFe
import Derived.Test.YtbgpkngnlfafcaaSpecRpSpecRd
import Derived.Handy
import Derived.WalkSpells
import Derived.OwnWalk
import Derived.Laws.OwnMore
import Derived.Deep.RegionWith
import Derived.Deep.RegionHeld3
import Derived.Deep.Cut
import Derived.Deep.CutRange
namespace Go.Proofs.Ytbgpkngnlfafcaa
open Go.RowKit Go.Lib
set_option linter.unusedVariables false
set_option maxRecDepth 20000

def DrawnP (B p : Nat) (a : Option Addr) (len cap : Nat) (w : World) (e : Ending) (w' : World) : Prop :=
  (∃ (v1 v2 : Value) (rs : List Rul) (hs : List Int), e = .returned (.agg #[v1, v2]) ∧ PolO w.heap.size rs hs v1 v2 w' ∧ PlD 7 8 rs hs) ∧ Src 68 B p a len cap w' ∧ w.grownBy w' (some p)
set_option maxHeartbeats 16000000 in
theorem l10Policy_drawn (B p : Nat) (a : Option Addr) (len cap : Nat) (w : World) (hs0 : Src 68 B p a len cap w) :
    Calls Try.prog 20 #[.pointer (some ⟨p, 0, none⟩)] w (DrawnP B p a len cap w) := by
  have hp := hs0.lt
  obtain ⟨W1, hW1⟩ : ∃ W1, W1 = w.alloc (.cells #[.slice none 0 0, .slice none 0 0] 26) := ⟨_, rfl⟩
  have HW1 : Hid (W1 = w.alloc (.cells #[.slice none 0 0, .slice none 0 0] 26)) := hW1
  have B1 : Below w.heap.size w W1 := by rw [hW1]; exact (Below.refl _ _).alloc (Nat.le_refl _) _
  have R1 : Bxs W1 w.heap.size 26 #[.slice none 0 0, .slice none 0 0] := by rw [hW1]; exact Bxs.new _ _ _
  have z1 : Hid (W1.heap.size = w.heap.size + 1) := by rw [hW1]; show _ = _; simp
  have HRes : Hid (∀ x, W1.grownBy x (some p) → x.cell? ⟨w.heap.size, 0, none⟩ = some (.slice none 0 0) ∧ x.cell? ⟨w.heap.size, 1, none⟩ = some (.slice none 0 0) ∧ x.frozen? ⟨w.heap.size, 0, none⟩ = false ∧ x.frozen? ⟨w.heap.size, 1, none⟩ = false) := fun x hg => by
    have k : Bxs x w.heap.size 26 #[.slice none 0 0, .slice none 0 0] := (hg.block w.heap.size R1.lt (fun e => by cases e; omega)).trans R1
    exact ⟨k.cell 0, k.cell 1, k.fr 0, k.fr 1⟩
  have HEnd : Hid (∀ (x : World) (v1 v2 : Value) (rs : List Rul) (hs : List Int) (y0 y1 : Value), Src 68 B p a len cap x → W1.grownBy x (some p) → PolO W1.heap.size rs hs v1 v2 x → PlD 7 8 rs hs →
      DrawnP B p a len cap w (.returned (.agg #[v1, v2])) ((x.setCell ⟨w.heap.size, 0, none⟩ y0).setCell ⟨w.heap.size, 1, none⟩ y1)) := by
    intro x v1 v2 rs hs y0 y1 hsr hgr hpo hpl
    have hg : x.grownBy ((x.setCell ⟨w.heap.size, 0, none⟩ y0).setCell ⟨w.heap.size, 1, none⟩ y1) (some w.heap.size) := touch_set (cell_grown x _ 0 y0) 1 y1
    have hz := z1.out
    refine ⟨⟨v1, v2, rs, hs, rfl, ((hpo.set (by omega) 0 y0).set (by omega) 1 y1).lower (by omega), hpl⟩, hsr.other hg (fun j hj => by cases hj; exact hp), touch_own (touch_trans (⟨B1.os, B1.tape, B1.output, B1.size, fun k hk _ => B1.block k hk⟩ : w.grownBy W1 (some p)) hgr) hg (fun j hj => by cases hj; exact Nat.le_refl _)⟩
  have hpW : p < W1.heap.size := by have := z1.out; omega
  have D0 : Hid (PoS W1 B p a len cap (w.heap.size + 1) (.slice none 0 0) (.slice none 0 0) [] [] (W1.alloc (.cells #[.slice none 0 0, .slice none 0 0] 26))) := by
    have hb := (Below.refl W1.heap.size W1).alloc (Nat.le_refl _) (.cells #[.slice none 0 0, .slice none 0 0] 26)
    have kb := Bxs.new W1 26 #[.slice none 0 0, .slice none 0 0]
    rw [z1.out] at kb
    exact ⟨(hs0.below B1).below hb, touch_below (World.grownBy.refl _ _) hb, hpW, by have := z1.out; omega, kb, PolO.nil _ _⟩
  clear hW1 hs0 B1 R1
  go_enter Try.func20, Try.ntmps20
  go_wp2_with fail
  rw [← HW1.out]
  refine (n_any B p a len cap 8 _ D0.out.src (by omega)).mono ?_
  rintro e w3 ⟨⟨k, rfl, hk0, hk1, -⟩, hs3, hg3⟩
  have hk : k < 8 := hk1 (by omega)
  have D3 : Hid (PoS W1 B p a len cap (w.heap.size + 1) (.slice none 0 0) (.slice none 0 0) [] [] w3) := D0.out.step hs3 hg3
  obtain ⟨K, rfl⟩ := Int.eq_ofNat_of_zero_le hk0
  clear D0 hs3 hg3 hk1 hk0 HW1
  obtain ⟨X, hX⟩ : ∃ X, X = w.heap.size + 1 := ⟨_, rfl⟩
  rw [← hX] at D3 ⊢
  clear hX z1
  go_wp2_with fail
  go_loopw [4] (fun i wr => ∃ (k : Nat) (v1 v2 : Value) (rs : List Rul) (hs : List Int), k ≤ 7 ∧ i = .int .i64 k ∧ Hid (PoS W1 B p a len cap X v1 v2 rs hs wr) ∧ Hid (PlD 6 7 rs hs)) (fun i _ => (intOf i).toNat)
  case atStart => exact ⟨K, _, _, [], [], by omega, rfl, D3, PlD.nil⟩
  case round =>
    clear D3
    obtain ⟨k, v1, v2, rs, hs, hk8, rfl, HD, HP⟩ := hrel
    obtain ⟨f1, e1, f2, e2, rfl, rfl, m1, m2⟩ := HD.out.pol.form
    have HL : Hid (rs.length ≤ 6 ∧ hs.length ≤ 7) := ⟨HP.out.1, HP.out.2.1⟩
    by_cases hlt : 0 < (k : Int)
    · have QR : Hid (∀ Yo x, PoA W1 B p a len cap X (.slice f1 rs.length e1) (.slice f2 hs.length e2) rs hs Yo x → Calls Try.prog 21 #[.pointer (some ⟨p, 0, none⟩)] x fun e x1 => ∃ r : Rul, e = .returned (.agg #[.string r.k, .string r.f, .int .i64 r.l, .int .i64 r.m]) ∧ RuD r ∧ PoA W1 B p a len cap X (.slice f1 rs.length e1) (.slice f2 hs.length e2) rs hs Yo x1) := fun Yo x hT => (drawnRule_any B p a len cap x hT.po.src).mono (by
        rintro e x1 ⟨⟨r, rfl, r0⟩, s1, g1⟩
        exact ⟨r, rfl, r0, hT.step s1 g1⟩)
      have QP : Hid (∀ (r : Rul) Yo x, RuD r → PoA W1 B p a len cap X (.slice f1 rs.length e1) (.slice f2 hs.length e2) rs hs Yo x → Calls Try.prog 11 #[.agg #[.slice f1 rs.length e1, .slice f2 hs.length e2], .agg #[.string r.k, .string r.f, .int .i64 r.l, .int .i64 r.m]] x fun e x1 => ∃ (o1 : Option Addr) (n1 d1 : Nat) (o2 : Option Addr) (n2 d2 : Nat) (c : Int), e = .returned (.agg #[.slice o1 n1 d1, .slice o2 n2 d2, .int .i64 c]) ∧ PoA W1 B p a len cap X (.slice f1 rs.length e1) (.slice f2 hs.length e2) rs hs Yo x1 ∧ PoU W1 (.slice o1 n1 d1) (.slice o2 n2 d2) c x1) := fun r Yo x hr hT => by
        have hrd := hT.po.pol.read
        have hL := HL.out
        refine (specRulePut_any f1 f2 e1 e2 rs hs r x hrd.1 hrd.2 (by omega) (by omega) m1 m2 HP.out.le (by unfold RuD at hr; unfold maxLen; omega) (own_ad hT.po.pol.own1)).mono ?_
        rintro e x1 ⟨u1, u2, rfl, ho, hb⟩
        obtain ⟨o1, d1, o2, d2, rfl, rfl, -, -⟩ := ho.form
        exact ⟨o1, _, d1, o2, _, d2, _, rfl, hT.below hb, _, _, ho.lower hT.po.gr.size, fun hc => rp_drawn hc⟩
      have T0 : Hid (PoA W1 B p a len cap X (.slice f1 rs.length e1) (.slice f2 hs.length e2) rs hs none wr) := PoA.of HD.out
      have QC : Hid (∀ Yo x, PoA W1 B p a len cap X (.slice f1 rs.length e1) (.slice f2 hs.length e2) rs hs Yo x → x.cell? ⟨X, 0, none⟩ = some (.slice f1 rs.length e1) ∧ x.cell? ⟨X, 1, none⟩ = some (.slice f2 hs.length e2)) := fun Yo x h => h.cells
      have d0 : decide (0 < k) = true := decide_eq_true (by omega)
      go_upto_region 5 with fail
      go_cut [5] from 14 to 17 (fun s5 wx => ∃ Y, s5 = .pointer (some ⟨Y, 0, none⟩) ∧ Hid (PoS W1 B p a len cap X (.slice f1 rs.length e1) (.slice f2 hs.length e2) rs hs wx) ∧ Hid (PoV W1 Y wx))
      case first =>
        go_region_held3 (fun w' => w'.cell? ⟨X, 0, none⟩ = some (.slice f1 rs.length e1) ∧ w'.cell? ⟨X, 1, none⟩ = some (.slice f2 hs.length e2)) ((first | with_reducible exact tW.cells3 _ _ _ | (refine QC.out ?_ _ ?hT; (case hT => (with_reducible repeat (first | assumption | exact T0.out | refine PoA.drew ?_ | refine PoA.al ?_ | refine PoA.alA ?_ _)))))) (first
          | (go_at_call 21; with_reducible refine (QR.out ?_ _ ?hT).mono ?_; (case hT => (with_reducible repeat (first | assumption | exact T0.out | refine PoA.drew ?_ | refine PoA.al ?_ | refine PoA.alA ?_ _))); rintro e x9 ⟨r9, rfl, hr9, t9⟩)
          | (go_at_call 11; with_reducible refine (QP.out _ ?_ _ hr9 ?hT).mono ?_; (case hT => (with_reducible repeat (first | assumption | exact T0.out | refine PoA.drew ?_ | refine PoA.al ?_ | refine PoA.alA ?_ _))); rintro e xw ⟨o1, n1, d1, o2, n2, d2, cw, rfl, tW, oW⟩; first | (obtain ⟨y0, y1, y2, y3, y4, y5⟩ := tW.outs) | skip))
        all_goals
          go_wp2_with fail
          go_meet
          first
            | exact ⟨_, rfl, tW.po.below ((Below.refl _ _).alloc (Nat.le_refl _) _), PoV.new tW oW⟩
            | exact ⟨_, rfl, tW.set3 _ _ _, PoV.ofT tW oW⟩
      case rest =>
        obtain ⟨Y, rfl, HDc, HOc⟩ := hcut
        clear QC T0 QR QP
        go_wp2_with fail
        refine (one_any B p a len cap 6 _ HDc.out.src (by omega)).mono ?_
        rintro e w6 ⟨⟨bo, rfl⟩, hs6, hg6⟩
        have HD6 : Hid (PoS W1 B p a len cap X (.slice f1 rs.length e1) (.slice f2 hs.length e2) rs hs w6 ∧ PoV W1 Y w6) := ⟨HDc.out.step hs6 hg6, HOc.out.touch hg6 hpW⟩
        clear HDc HOc hs6 hg6
        go_upto_if 19 with fail
        go_cut [5] from 20 to 23 (fun s5 wx => s5 = .pointer (some ⟨Y, 0, none⟩) ∧ Hid (PoS W1 B p a len cap X (.slice f1 rs.length e1) (.slice f2 hs.length e2) rs hs wx ∧ PoV W1 Y wx))
        case first =>
          cases bo
          · go_wp2_with fail
            go_meet
            exact ⟨rfl, HD6⟩
          · have QN6 : Hid (∀ x, PoS W1 B p a len cap X (.slice f1 rs.length e1) (.slice f2 hs.length e2) rs hs x → PoV W1 Y x → Calls Try.prog 28 #[.pointer (some ⟨p, 0, none⟩), .int .i64 6] x fun e x1 => ∃ q : Int, e = .returned (.int .i64 q) ∧ PoS W1 B p a len cap X (.slice f1 rs.length e1) (.slice f2 hs.length e2) rs hs x1 ∧ PoV W1 Y x1) := fun x hT hV => (n_any B p a len cap 6 x hT.src (by omega)).mono (by
              rintro e x1 ⟨⟨r, rfl, -⟩, s1, g1⟩
              exact ⟨r, rfl, hT.step s1 g1, hV.touch g1 hpW⟩)
            have QH : Hid (∀ (r : Int) x, PoS W1 B p a len cap X (.slice f1 rs.length e1) (.slice f2 hs.length e2) rs hs x → PoV W1 Y x → Calls Try.prog 14 #[.agg #[.slice f1 rs.length e1, .slice f2 hs.length e2], .int .i64 r] x fun e x1 => ∃ (o1 : Option Addr) (n1 d1 : Nat) (o2 : Option Addr) (n2 d2 : Nat) (c : Int), e = .returned (.agg #[.slice o1 n1 d1, .slice o2 n2 d2, .int .i64 c]) ∧ PoS W1 B p a len cap X (.slice f1 rs.length e1) (.slice f2 hs.length e2) rs hs x1 ∧ PoV W1 Y x1 ∧ PoU W1 (.slice o1 n1 d1) (.slice o2 n2 d2) c x1) := fun r x hT hV => by
              have hrd := hT.pol.read
              have hL := HL.out
              refine (specHold_any f1 f2 e1 e2 rs hs r x hrd.1 hrd.2 (by omega) (by omega) m1 m2 HP.out.le (own_ad hT.pol.own2)).mono ?_
              rintro e x1 ⟨u1, u2, rfl, ho, hb⟩
              obtain ⟨o1, d1, o2, d2, rfl, rfl, -, -⟩ := ho.form
              exact ⟨o1, _, d1, o2, _, d2, _, rfl, hT.below hb, hV.below hb, _, _, ho.lower hT.gr.size, fun hc => ho_drawn hc⟩
            have hD0 := And.intro HD6.out.1.drew HD6.out.2.drew
            obtain ⟨c0, c1, -, -⟩ := HD6.out.1.cells
            go_upto_region 7 with fail
            refine region_till (fun w' => w'.cell? ⟨X, 0, none⟩ = some (.slice f1 rs.length e1) ∧ w'.cell? ⟨X, 1, none⟩ = some (.slice f2 hs.length e2)) 4 (by kernel_rfl) (⟨HD6.out.1.drew.cells.1, HD6.out.1.drew.cells.2.1⟩) (fun hHeld => ?_)
            generalize w6.drew = x0 at *
            refine till_take 0 (v := ?_) rfl (by kernel_rfl) (by kernel_rfl) (by kernel_rfl) (by kernel_rfl) (fun _ _ _ h => h) hHeld (Or.inl ⟨by rfl, ?_⟩) ?_
            rotate_left
            · (intro w hSw; (try dsimp only at hSw); go_simp; try with_reducible rfl)
            simp only [Act.put, List.setIfInBounds_toArray, List.set_cons_zero, List.set_cons_succ]
            refine till_take 1 (v := ?_) rfl (by kernel_rfl) (by kernel_rfl) (by kernel_rfl) (by kernel_rfl) (fun _ _ _ h => h) hHeld (Or.inl ⟨by rfl, ?_⟩) ?_
            rotate_left
            · (intro w hSw; (try dsimp only at hSw); go_simp; try with_reducible rfl)
            simp only [Act.put, List.setIfInBounds_toArray, List.set_cons_zero, List.set_cons_succ]
            refine till_ready 2 rfl (by kernel_rfl) (fun K hK => ?_)
            go_simp; (go_at_call 28; refine (QN6.out _ hD0.1 hD0.2).mono ?_; rintro e x1 ⟨q, rfl, t1⟩)
            refine hK.out _ _ (⟨t1.1.cells.1, t1.1.cells.2.1⟩) (fun hHeld => ?_)
            clear hK K
            try simp only [Act.put, List.setIfInBounds_toArray, List.set_cons_zero, List.set_cons_succ]
            refine till_ready 3 rfl (by kernel_rfl) (fun K hK => ?_)
            go_simp; (go_at_call 14; refine (QH.out q _ t1.1 t1.2).mono ?_; rintro e x2 ⟨o1, n1, d1, o2, n2, d2, c, rfl, t2, t2v, oU⟩)
            obtain ⟨ux, uy, uc, y0, y1, y2, y3, y4, y5⟩ := t2v.outs
            refine hK.out _ _ (⟨t2.cells.1, t2.cells.2.1⟩) (fun hHeld => ?_)
            clear hK K
            try simp only [Act.put, List.setIfInBounds_toArray, List.set_cons_zero, List.set_cons_succ]
            refine till_last rfl (by kernel_rfl) (by kernel_rfl) (fun K hK => ?_)
            go_simp
            refine hK.out _ _ ?_
            clear hK K
            have HF := t2.putV t2v oU
            clear t2 t2v oU t1 QH QN6
            go_wp2_with fail
            go_meet
            exact ⟨rfl, HF⟩
        case rest =>
          clear HD6
          obtain ⟨rfl, HD7⟩ := hcut
          obtain ⟨w7, rfl⟩ : ∃ w7 : World, w7 = wc := ⟨_, rfl⟩
          obtain ⟨u1, u2, c, kY, us, uh, oP, hrt⟩ := HD7.out.2.ex
          obtain ⟨ox1, dx1, ox2, dx2, rfl, rfl, -, -⟩ := oP.form
          have k0 := kY.cell 0
          have k1 := kY.cell 1
          have k2 := kY.cell 2
          obtain ⟨c0, c1, a0, a1⟩ := HD7.out.1.cells
          have HDa : Hid (PoS W1 B p a len cap X (.slice ox1 us.length dx1) (.slice ox2 uh.length dx2) us uh ((w7.setCell ⟨X, 0, none⟩ (.slice ox1 us.length dx1)).setCell ⟨X, 1, none⟩ (.slice ox2 uh.length dx2))) := HD7.out.1.put oP
          have HDb : Hid (PoS W1 B p a len cap X (.slice f1 rs.length e1) (.slice f2 hs.length e2) rs hs w7) := HD7.out.1
          have HRt : Hid (c = 0 → PlD 6 7 us uh) := hrt
          clear HD7 kY oP hrt
          by_cases hc : c = 0
          · have hbe : (c == 0) = true := beq_iff_eq.2 hc
            have HR2 : Hid (PlD 6 7 us uh) := HRt.out hc
            clear hc HRt HDb HL HP HD
            go_wp2_with fail
            go_roundw
            case rel => exact ⟨k - 1, _, _, us, uh, by omega, by go_num, HDa, HR2⟩
            case measure => simp [intOf]; omega
          · have hbe : (c == 0) = false := beq_eq_false_iff_ne.2 hc
            clear hc HRt HDa HL HD
            go_wp2_with fail
            go_roundw
            case rel => exact ⟨k - 1, _, _, rs, hs, by omega, by go_num, HDb, HP⟩
            case measure => simp [intOf]; omega
    · obtain rfl : k = 0 := by omega
      go_wp2_with fail
      refine (one_any B p a len cap 15 _ HD.out.src (by omega)).mono ?_
      rintro e w6 ⟨⟨bo, rfl⟩, hs6, hg6⟩
      have HD6 : Hid (PoS W1 B p a len cap X (.slice f1 rs.length e1) (.slice f2 hs.length e2) rs hs w6) := HD.out.step hs6 hg6
      clear HD hs6 hg6
      cases bo
      · have HDe := HD6
        have HPe : Hid (PlD 7 8 rs hs) := ⟨by have := HL.out; omega, by have := HL.out; omega, HP.out.2.2⟩
        clear HD6 HP HL
        obtain ⟨c0, c1, -, -⟩ := HDe.out.cells
        obtain ⟨r0, r1, g0, g1⟩ := HRes.out _ HDe.out.gr
        have HE : Hid _ := fun y0 y1 => HEnd.out _ _ _ _ _ y0 y1 HDe.out.src HDe.out.gr HDe.out.pol HPe.out
        clear HRes HEnd HDe HPe
        go_wp2_with fail
        refine bodyPost_ret (by simp [results, Try.results20, go_sem, r0, r1]; rfl) rfl ?_
        exact HE.out _ _
      · go_wp2_with fail
        refine (n_any B p a len cap 3 _ HD6.out.src (by omega)).mono ?_
        rintro e w7 ⟨⟨q, rfl, q0, q1, -⟩, hs7, hg7⟩
        have q2 := q1 (by omega)
        have HD7 : Hid (PoS W1 B p a len cap X (.slice f1 rs.length e1) (.slice f2 hs.length e2) rs hs w7) := HD6.out.step hs7 hg7
        clear HD6 hs7 hg7 q1
        have hL := HL.out
        have hq : q = 0 ∨ q = 1 ∨ q = 2 := by omega
        rcases hq with rfl | rfl | rfl
        · have QN8 : Hid (∀ x, PoS W1 B p a len cap X (.slice f1 rs.length e1) (.slice f2 hs.length e2) rs hs x → Calls Try.prog 28 #[.pointer (some ⟨p, 0, none⟩), .int .i64 8] x fun e x1 => ∃ q : Int, e = .returned (.int .i64 q) ∧ 0 ≤ q ∧ q ≤ 7 ∧ PoS W1 B p a len cap X (.slice f1 rs.length e1) (.slice f2 hs.length e2) rs hs x1) := fun x hT => (n_any B p a len cap 8 x hT.src (by omega)).mono (by
            rintro e x1 ⟨⟨r, rfl, r0, r1, -⟩, s1, g1⟩
            exact ⟨r, rfl, r0, by have := r1 (by omega); omega, hT.step s1 g1⟩)
          have hD0 := HD7.out.drew
          obtain ⟨c0, c1, -, -⟩ := HD7.out.cells
          go_upto_region 17 with fail
          refine region_till (fun w' => w'.cell? ⟨X, 1, none⟩ = some (.slice f2 hs.length e2)) 8 (by kernel_rfl) (HD7.out.drew.cells.2.1) (fun hHeld => ?_)
          generalize w7.drew = x0 at *
          refine till_take 0 (v := ?_) rfl (by kernel_rfl) (by kernel_rfl) (by kernel_rfl) (by kernel_rfl) (fun _ _ _ h => h) hHeld (Or.inl ⟨by rfl, ?_⟩) ?_
          rotate_left
          · (intro w hSw; (try dsimp only at hSw); go_simp; try with_reducible rfl)
          simp only [Act.put, List.setIfInBounds_toArray, List.set_cons_zero, List.set_cons_succ]
          refine till_take 1 (v := ?_) rfl (by kernel_rfl) (by kernel_rfl) (by kernel_rfl) (by kernel_rfl) (fun _ _ _ h => h) hHeld (Or.inl ⟨by rfl, ?_⟩) ?_
          rotate_left
          · (intro w hSw; (try dsimp only at hSw); go_simp; try with_reducible rfl)
          simp only [Act.put, List.setIfInBounds_toArray, List.set_cons_zero, List.set_cons_succ]
          refine till_take 2 (v := ?_) rfl (by kernel_rfl) (by kernel_rfl) (by kernel_rfl) (by kernel_rfl) (fun _ _ _ h => h) hHeld (Or.inl ⟨by rfl, ?_⟩) ?_
          rotate_left
          · (intro w hSw; (try dsimp only at hSw); go_simp; try with_reducible rfl)
          simp only [Act.put, List.setIfInBounds_toArray, List.set_cons_zero, List.set_cons_succ]
          refine till_ready 3 rfl (by kernel_rfl) (fun K hK => ?_)
          go_simp; (go_at_call 28; refine (QN8.out _ hD0).mono ?_; rintro e x1 ⟨q, rfl, q0, q8, t1⟩)
          have hw : IntKind.i64.wrap (q - 1) = q - 1 := by rw [IntKind.wrap_i64]; omega
          obtain ⟨g3, d3, y3, hrun, T3, k3, f3⟩ := t1.appH (q - 1) (by omega)
          have c1 := t1.cells.2.1
          refine hK.out _ _ (c1) (fun hHeld => ?_)
          clear hK K
          try simp only [Act.put, List.setIfInBounds_toArray, List.set_cons_zero, List.set_cons_succ]
          refine till_take 4 (v := ?_) rfl (by kernel_rfl) (by kernel_rfl) (by kernel_rfl) (by kernel_rfl) (fun _ _ _ h => h) hHeld (Or.inl ⟨by rfl, ?_⟩) ?_
          rotate_left
          · (intro w hSw; (try dsimp only at hSw); go_simp; try with_reducible rfl)
          simp only [Act.put, List.setIfInBounds_toArray, List.set_cons_zero, List.set_cons_succ]
          refine till_ready 5 rfl (by kernel_rfl) (fun K hK => ?_)
          go_simp
          refine hK.out _ _ ((t1.below ((Below.refl _ _).alloc (Nat.le_refl _) _)).cells.2.1) (fun hHeld => ?_)
          clear hK K
          try simp only [Act.put, List.setIfInBounds_toArray, List.set_cons_zero, List.set_cons_succ]
          refine till_ready 6 rfl (by kernel_rfl) (fun K hK => ?_)
          refine step_append_run rfl _ _ 24 rfl (.slice f2 hs.length e2) (.slice (some ⟨x1.heap.size, 0, none⟩) 1 1) _ _ rfl rfl hrun ?_
          refine hK.out _ _ (k3) (fun hHeld => ?_)
          clear hK K
          try simp only [Act.put, List.setIfInBounds_toArray, List.set_cons_zero, List.set_cons_succ]
          refine till_take 7 (v := ?_) rfl (by kernel_rfl) (by kernel_rfl) (by kernel_rfl) (by kernel_rfl) (fun _ _ _ h => h) hHeld (Or.inl ⟨by rfl, ?_⟩) ?_
          rotate_left
          · (intro w hSw; (try dsimp only at hSw); go_simp; try with_reducible rfl)
          simp only [Act.put, List.setIfInBounds_toArray, List.set_cons_zero, List.set_cons_succ]
          refine till_last rfl (by kernel_rfl) (by kernel_rfl) (fun K hK => ?_)
          go_simp
          refine hK.out _ _ ?_
          clear hK K
          have HDe : Hid (PoS W1 B p a len cap X (.slice f1 rs.length e1) (.slice g3 (hs.length + 1) d3) rs (hs ++ [q - 1]) (y3.setCell ⟨X, 1, none⟩ (.slice g3 (hs.length + 1) d3))) := T3
          have HPe : Hid (PlD 7 8 rs (hs ++ [q - 1])) := ⟨by omega, by simp; omega, HP.out.2.2⟩
          clear T3 HP HL QN8 t1 hD0 HD7
          generalize (y3.setCell ⟨X, 1, none⟩ (.slice g3 (hs.length + 1) d3)) = we at *
          generalize (hs ++ [q - 1]) = hh at *
          obtain ⟨c0, c1, -, -⟩ := HDe.out.cells
          obtain ⟨r0, r1, g0, g1⟩ := HRes.out _ HDe.out.gr
          have HE : Hid _ := fun y0 y1 => HEnd.out _ _ _ _ _ y0 y1 HDe.out.src HDe.out.gr HDe.out.pol HPe.out
          clear HRes HEnd HDe HPe
          go_wp2_with fail
          refine bodyPost_ret (by simp [results, Try.results20, go_sem, r0, r1]; rfl) rfl ?_
          exact HE.out _ _
        · have QR8 : Hid (∀ x, PoS W1 B p a len cap X (.slice f1 rs.length e1) (.slice f2 hs.length e2) rs hs x → Calls Try.prog 21 #[.pointer (some ⟨p, 0, none⟩)] x fun e x1 => ∃ r : Rul, e = .returned (.agg #[.string r.k, .string r.f, .int .i64 r.l, .int .i64 r.m]) ∧ RuD r ∧ PoS W1 B p a len cap X (.slice f1 rs.length e1) (.slice f2 hs.length e2) rs hs x1) := fun x hT => (drawnRule_any B p a len cap x hT.src).mono (by
            rintro e x1 ⟨⟨r, rfl, r0⟩, s1, g1⟩
            exact ⟨r, rfl, r0, hT.step s1 g1⟩)
          have hD0 := HD7.out.drew
          obtain ⟨c0, c1, -, -⟩ := HD7.out.cells
          go_upto_region 19 with fail
          refine region_till (fun w' => w'.cell? ⟨X, 0, none⟩ = some (.slice f1 rs.length e1)) 7 (by kernel_rfl) (HD7.out.drew.cells.1) (fun hHeld => ?_)
          generalize w7.drew = x0 at *
          refine till_take 0 (v := ?_) rfl (by kernel_rfl) (by kernel_rfl) (by kernel_rfl) (by kernel_rfl) (fun _ _ _ h => h) hHeld (Or.inl ⟨by rfl, ?_⟩) ?_
          rotate_left
          · (intro w hSw; (try dsimp only at hSw); go_simp; try with_reducible rfl)
          simp only [Act.put, List.setIfInBounds_toArray, List.set_cons_zero, List.set_cons_succ]
          refine till_take 1 (v := ?_) rfl (by kernel_rfl) (by kernel_rfl) (by kernel_rfl) (by kernel_rfl) (fun _ _ _ h => h) hHeld (Or.inl ⟨by rfl, ?_⟩) ?_
          rotate_left
          · (intro w hSw; (try dsimp only at hSw); go_simp; try with_reducible rfl)
          simp only [Act.put, List.setIfInBounds_toArray, List.set_cons_zero, List.set_cons_succ]
          refine till_take 2 (v := ?_) rfl (by kernel_rfl) (by kernel_rfl) (by kernel_rfl) (by kernel_rfl) (fun _ _ _ h => h) hHeld (Or.inl ⟨by rfl, ?_⟩) ?_
          rotate_left
          · (intro w hSw; (try dsimp only at hSw); go_simp; try with_reducible rfl)
          simp only [Act.put, List.setIfInBounds_toArray, List.set_cons_zero, List.set_cons_succ]
          refine till_ready 3 rfl (by kernel_rfl) (fun K hK => ?_)
          go_simp; (go_at_call 21; refine (QR8.out _ hD0).mono ?_; rintro e x1 ⟨r, rfl, hrd, t1⟩)
          obtain ⟨g3, d3, y3, hrun, T3, k3, f3⟩ := t1.appR r (by omega)
          have c0 := t1.cells.1
          refine hK.out _ _ (c0) (fun hHeld => ?_)
          clear hK K
          try simp only [Act.put, List.setIfInBounds_toArray, List.set_cons_zero, List.set_cons_succ]
          refine till_ready 4 rfl (by kernel_rfl) (fun K hK => ?_)
          go_simp
          refine hK.out _ _ ((t1.below ((Below.refl _ _).alloc (Nat.le_refl _) _)).cells.1) (fun hHeld => ?_)
          clear hK K
          try simp only [Act.put, List.setIfInBounds_toArray, List.set_cons_zero, List.set_cons_succ]
          refine till_ready 5 rfl (by kernel_rfl) (fun K hK => ?_)
          refine step_append_run rfl _ _ 23 rfl (.slice f1 rs.length e1) (.slice (some ⟨x1.heap.size, 0, none⟩) 1 1) _ _ rfl rfl hrun ?_
          refine hK.out _ _ (k3) (fun hHeld => ?_)
          clear hK K
          try simp only [Act.put, List.setIfInBounds_toArray, List.set_cons_zero, List.set_cons_succ]
          refine till_take 6 (v := ?_) rfl (by kernel_rfl) (by kernel_rfl) (by kernel_rfl) (by kernel_rfl) (fun _ _ _ h => h) hHeld (Or.inl ⟨by rfl, ?_⟩) ?_
          rotate_left
          · (intro w hSw; (try dsimp only at hSw); go_simp; try with_reducible rfl)
          simp only [Act.put, List.setIfInBounds_toArray, List.set_cons_zero, List.set_cons_succ]
          refine till_last rfl (by kernel_rfl) (by kernel_rfl) (fun K hK => ?_)
          go_simp
          refine hK.out _ _ ?_
          clear hK K
          have HDe : Hid (PoS W1 B p a len cap X (.slice g3 (rs.length + 1) d3) (.slice f2 hs.length e2) (rs ++ [r]) hs (y3.setCell ⟨X, 0, none⟩ (.slice g3 (rs.length + 1) d3))) := T3
          have HPe : Hid (PlD 7 8 (rs ++ [r]) hs) := ⟨by simp; omega, by omega, fun x hx => by
            rcases List.mem_append.1 hx with h | h
            · exact HP.out.2.2 x h
            · rw [List.mem_singleton.1 h]; exact hrd⟩
          clear T3 HP HL QR8 t1 hD0 HD7
          generalize (y3.setCell ⟨X, 0, none⟩ (.slice g3 (rs.length + 1) d3)) = we at *
          generalize (rs ++ [r]) = rr at *
          obtain ⟨c0, c1, -, -⟩ := HDe.out.cells
          obtain ⟨r0, r1, g0, g1⟩ := HRes.out _ HDe.out.gr
          have HE : Hid _ := fun y0 y1 => HEnd.out _ _ _ _ _ y0 y1 HDe.out.src HDe.out.gr HDe.out.pol HPe.out
          clear HRes HEnd HDe HPe
          go_wp2_with fail
          refine bodyPost_ret (by simp [results, Try.results20, go_sem, r0, r1]; rfl) rfl ?_
          exact HE.out _ _
        · have HH0 : Hid (hs.length ≤ 7) := hL.2
          go_wp2_with fail
          go_loopw [6] (fun i wr => ∃ (j : Nat) (f2 : Option Addr) (e2 : Nat) (hh : List Int), i = .int .i64 j ∧ Hid (hh.length = hs.length + j ∧ hh.length ≤ 8) ∧ Hid (PoS W1 B p a len cap X (.slice f1 rs.length e1) (.slice f2 hh.length e2) rs hh wr)) (fun i _ => 8 - (intOf i).toNat)
          case atStart => exact ⟨0, f2, e2, hs, rfl, ⟨rfl, by omega⟩, HD7⟩
          case round =>
            clear HD7
            obtain ⟨j, f3, e3, hh, rfl, HJ, HD8⟩ := hrel
            obtain ⟨c0, c1, a0, a1⟩ := HD8.out.cells
            by_cases h6 : hh.length < 6
            · have d6 : decide (hh.length < 6) = true := decide_eq_true h6
              have d6i : decide ((hh.length : Int) < 6) = true := decide_eq_true (by omega)
              obtain ⟨g3, d3, y3, hrun, T3, k3, l3⟩ := HD8.out.appH (j : Int) (by omega)
              have HT3 : Hid (PoS W1 B p a len cap X (.slice f1 rs.length e1) (.slice g3 (hh.length + 1) d3) rs (hh ++ [(j : Int)]) (y3.setCell ⟨X, 1, none⟩ (.slice g3 (hh.length + 1) d3))) := T3
              have hj8 : j < 8 := by have := HJ.out; omega
              have e1' : (hh ++ [(j : Int)]).length = hh.length + 1 := by simp
              clear T3 HD8 HP
              go_wp2_with (at_builtin; refine wpList_app rfl _ _ _ _ rfl (.slice f3 hh.length e3) (.slice (some ⟨wr.heap.size, 0, none⟩) 1 1) _ _ rfl rfl hrun ?_)
              go_roundw
              case rel => exact ⟨j + 1, g3, d3, hh ++ [(j : Int)], by go_num, ⟨by have := HJ.out; omega, by omega⟩, by rw [e1']; exact HT3.out⟩
              case measure => simp [intOf]; omega
            · have d6 : decide (hh.length < 6) = false := decide_eq_false h6
              have d6i : decide ((hh.length : Int) < 6) = false := decide_eq_false (by omega)
              have HDe := HD8
              have HPe : Hid (PlD 7 8 rs hh) := ⟨by omega, HJ.out.2, HP.out.2.2⟩
              clear HD8 HP HL HJ c0 c1 a0 a1
              obtain ⟨c0, c1, -, -⟩ := HDe.out.cells
              obtain ⟨r0, r1, g0, g1⟩ := HRes.out _ HDe.out.gr
              have HE : Hid _ := fun y0 y1 => HEnd.out _ _ _ _ _ y0 y1 HDe.out.src HDe.out.gr HDe.out.pol HPe.out
              clear HRes HEnd HDe HPe
              go_wp2_with fail
              refine bodyPost_ret (by simp [results, Try.results20, go_sem, r0, r1]; rfl) rfl ?_
              exact HE.out _ _
theorem l10Policy_any (B p : Nat) (a : Option Addr) (len cap : Nat) (w : World) (hs0 : Src 68 B p a len cap w) :
    Calls Try.prog 20 #[.pointer (some ⟨p, 0, none⟩)] w fun e w' =>
      (∃ (v1 v2 : Value) (rs : List Rul) (hs : List Int), e = .returned (.agg #[v1, v2]) ∧ PolO w.heap.size rs hs v1 v2 w' ∧ PlD 7 8 rs hs) ∧ Src 68 B p a len cap w' ∧ w.grownBy w' (some p) :=
  (l10Policy_drawn B p a len cap w hs0).mono (fun e w' h => h)
end Go.Proofs.Ytbgpkngnlfafcaa
