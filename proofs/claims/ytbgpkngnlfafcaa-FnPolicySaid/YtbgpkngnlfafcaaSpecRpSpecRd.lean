/-
  Parts of one proof, laid as one text: SpecRp, SpecRd; what each says stands at its head.
-/
import Derived.Test.YtbgpkngnlfafcaaRows
import Derived.Test.YtbgpkngnlfafcaaBytes
import Derived.Test.YtbgpkngnlfafcaaSlA
import Derived.Test.YtbgpkngnlfafcaaOwnS
import Derived.Test.YtbgpkngnlfafcaaBxK
import Derived.Test.YtbgpkngnlfafcaaStepApp
import Derived.Test.YtbgpkngnlfafcaaTakes
import Derived.Test.YtbgpkngnlfafcaaTakesL
import Derived.Test.YtbgpkngnlfafcaaFldIs
import Derived.Test.YtbgpkngnlfafcaaIntK
import Derived.Test.YtbgpkngnlfafcaaRulMath
import Derived.Test.YtbgpkngnlfafcaaRulBlk
import Derived.Test.YtbgpkngnlfafcaaPolMath
import Derived.Test.YtbgpkngnlfafcaaPolIdx
import Derived.Test.YtbgpkngnlfafcaaRulIdx
import Derived.Test.YtbgpkngnlfafcaaRulS
import Derived.Test.YtbgpkngnlfafcaaPolS
import Derived.Test.YtbgpkngnlfafcaaLawI
import Derived.Test.YtbgpkngnlfafcaaLawOG
import Derived.Test.YtbgpkngnlfafcaaRowOps
import Derived.Test.YtbgpkngnlfafcaaDelR
import Derived.Test.YtbgpkngnlfafcaaPolO
import Derived.Test.YtbgpkngnlfafcaaPolAns
import Derived.Test.YtbgpkngnlfafcaaSrchIInsIImplHoImplFePolCs
import Derived.Test.YtbgpkngnlfafcaaSpecHe
import Derived.Handy
import Derived.WalkSpells
import Derived.OwnWalk
import Derived.Deep.RegionLaw
import Derived.Deep.RegionHeld3
import Derived.Deep.RegionWith
import Derived.Deep.Cut
import Derived.Deep.CutRange
/-
  What the specification's RulePut answers.
  Conditions: the cells of Rules and Held hold the rules and numbers.
-/
namespace Go.Proofs.Ytbgpkngnlfafcaa
open Go.RowKit Go.Lib
set_option linter.unusedVariables false
set_option maxRecDepth 20000

theorem rl_tot (ak af bk bf : ByteArray) (h : rlLess ak af bk bf = false) : rlLess bk bf ak af = !((ak.toList == bk.toList) && (af.toList == bf.toList)) := by
  have h1 := crI_neg ak af bk bf
  have h2 := crI_zero ak af bk bf
  rw [h] at h1
  have h1 : ¬ crI ak af bk bf < 0 := of_decide_eq_false h1
  cases hq : ((ak.toList == bk.toList) && (af.toList == bf.toList)) with
  | true =>
    simp only [Bool.and_eq_true, beq_iff_eq] at hq
    unfold rlLess
    rw [hq.1, hq.2, bl_irr, bl_irr]; simp
  | false =>
    unfold rlLess at h ⊢
    rcases cmpI_cases ak bk with ⟨g1, -⟩ | ⟨g1, g3, g4, -⟩ | ⟨g1, g4, -⟩
    · rw [g1] at h; simp at h
    · rw [g3]; simp
    · have e : ak.toList = bk.toList := by simpa using g4
      rw [g4] at h hq
      simp only [Bool.true_and, Bool.or_eq_false_iff] at h hq
      rcases cmpI_cases af bf with ⟨k1, -⟩ | ⟨k1, k3, k4, -⟩ | ⟨k1, k4, -⟩
      · rw [k1] at h; simp at h
      · rw [e, k3]; simp
      · rw [k4] at hq; cases hq
set_option maxHeartbeats 16000000 in
theorem specRulePut_any (p1 p2 : Option Addr) (c1 c2 : Nat) (rs : List Rul) (hs : List Int) (R : Rul) (w : World) (hr : RulAt w p1 rs) (hh : IntAt w p2 hs) (n1 : rs.length ≤ 1048576) (n2 : hs.length ≤ 1048576) (m1 : rs.length ≤ c1) (m2 : hs.length ≤ c2) (hz : RulsLe rs) (hRl : R.k.size ≤ maxLen ∧ R.f.size ≤ maxLen) (hA : AdOk p1 rs.length c1) :
    Calls Try.prog 11 #[.agg #[.slice p1 rs.length c1, .slice p2 hs.length c2], .agg #[.string R.k, .string R.f, .int .i64 R.l, .int .i64 R.m]] w fun e w' => ∃ v1 v2, e = .returned (.agg #[v1, v2, .int .i64 (rpC rs hs R)]) ∧ PolO w.heap.size (rpR rs hs R) (rpH rs hs R) v1 v2 w' ∧ Below w.heap.size w w' := by
  have HC : Hid (rpC rs hs R = if polB rs hs = true ∧ ruB R = true then (if rpB rs R = true then 0 else if rs.length = 6 then 9 else 0) else 1) := rfl
  have HRr : Hid (rpR rs hs R = if rpC rs hs R = 0 then (if rpB rs R = true then rs.set (rpT rs R) R else rs.take (rpT rs R) ++ [R] ++ rs.drop (rpT rs R)) else []) := rfl
  have HHr : Hid (rpH rs hs R = if rpC rs hs R = 0 then hs else []) := rfl
  obtain ⟨W2, hW2⟩ : ∃ W2, W2 = ((w.alloc (.cells #[.slice p1 rs.length c1, .slice p2 hs.length c2] 26)).alloc (.cells #[.string R.k, .string R.f, .int .i64 R.l, .int .i64 R.m] 28)).alloc (.cells #[.slice none 0 0, .slice none 0 0, .int .i64 0] 32) := ⟨_, rfl⟩
  have HW2 : Hid (W2 = ((w.alloc (.cells #[.slice p1 rs.length c1, .slice p2 hs.length c2] 26)).alloc (.cells #[.string R.k, .string R.f, .int .i64 R.l, .int .i64 R.m] 28)).alloc (.cells #[.slice none 0 0, .slice none 0 0, .int .i64 0] 32)) := hW2
  have hs1 : (w.alloc (.cells #[.slice p1 rs.length c1, .slice p2 hs.length c2] 26)).heap.size = w.heap.size + 1 := by simp
  have hs2 : ((w.alloc (.cells #[.slice p1 rs.length c1, .slice p2 hs.length c2] 26)).alloc (.cells #[.string R.k, .string R.f, .int .i64 R.l, .int .i64 R.m] 28)).heap.size = w.heap.size + 1 + 1 := by simp
  have HS2 : Hid (W2.heap.size = w.heap.size + 3) := by rw [hW2]; show _ = _; simp
  have K0 : Hid (Bxs W2 w.heap.size 26 #[.slice p1 rs.length c1, .slice p2 hs.length c2]) := by rw [hW2]; exact ((Bxs.new _ _ _).alloc _).alloc _
  have KR : Hid (Bxs W2 (w.heap.size + 1) 28 #[.string R.k, .string R.f, .int .i64 R.l, .int .i64 R.m]) := by rw [hW2, ← hs1]; exact (Bxs.new _ _ _).alloc _
  have K1 : Hid (Bxs W2 (w.heap.size + 1 + 1) 32 #[.slice none 0 0, .slice none 0 0, .int .i64 0]) := by rw [hW2, ← hs2]; exact Bxs.new _ _ _
  have B2 : Hid (Below w.heap.size w W2) := by rw [hW2]; exact alB (alB (alB (Below.refl _ _) _) _) _
  have HP : Hid (∀ x, Below W2.heap.size W2 x → x.cell? ⟨w.heap.size, 0, none⟩ = some (.slice p1 rs.length c1) ∧ x.cell? ⟨w.heap.size, 1, none⟩ = some (.slice p2 hs.length c2)) := fun x hb => (K0.out.below hb).two
  have HPr : Hid (∀ x, Below W2.heap.size W2 x → x.cell? ⟨w.heap.size + 1, 0, none⟩ = some (.string R.k) ∧ x.cell? ⟨w.heap.size + 1, 1, none⟩ = some (.string R.f) ∧ x.cell? ⟨w.heap.size + 1, 2, none⟩ = some (.int .i64 R.l) ∧ x.cell? ⟨w.heap.size + 1, 3, none⟩ = some (.int .i64 R.m)) := fun x hb => (KR.out.below hb).four
  have HR : Hid (∀ x, Below W2.heap.size W2 x → x.cell? ⟨w.heap.size + 1 + 1, 0, none⟩ = some (.slice none 0 0) ∧ x.cell? ⟨w.heap.size + 1 + 1, 1, none⟩ = some (.slice none 0 0) ∧ x.cell? ⟨w.heap.size + 1 + 1, 2, none⟩ = some (.int .i64 0) ∧ x.frozen? ⟨w.heap.size + 1 + 1, 0, none⟩ = false ∧ x.frozen? ⟨w.heap.size + 1 + 1, 1, none⟩ = false ∧ x.frozen? ⟨w.heap.size + 1 + 1, 2, none⟩ = false) := fun x hb => ⟨(K1.out.below hb).cell 0, (K1.out.below hb).cell 1, (K1.out.below hb).cell 2, (K1.out.below hb).fr 0, (K1.out.below hb).fr 1, (K1.out.below hb).fr 2⟩
  have HS3 : Hid (∀ x, Below W2.heap.size W2 x → ∀ a b c : Value, Below w.heap.size w (((x.setCell ⟨w.heap.size + 1 + 1, 0, none⟩ a).setCell ⟨w.heap.size + 1 + 1, 1, none⟩ b).setCell ⟨w.heap.size + 1 + 1, 2, none⟩ c)) := fun x hb a b c => (((chainB B2.out hb).setCell (by show w.heap.size ≤ w.heap.size + 1 + 1; omega) _).setCell (by show w.heap.size ≤ w.heap.size + 1 + 1; omega) _).setCell (by show w.heap.size ≤ w.heap.size + 1 + 1; omega) _
  have HRu : Hid (RulAt W2 p1 rs) := hr.below B2.out
  have HIn : Hid (IntAt W2 p2 hs) := hh.below B2.out
  obtain ⟨x0, x1⟩ := HP.out W2 (Below.refl _ _)
  have y0 := x0
  have y1 := x1
  rw [hW2] at y0 y1
  have hQ := specPolicyRight_any p1 p2 c1 c2 rs hs W2 HRu.out HIn.out n1 n2 m1 m2 hz
  have HK : Hid (∀ x, Calls Try.prog 32 #[.agg #[.string R.k, .string R.f, .int .i64 R.l, .int .i64 R.m]] x fun e w' => e = .returned (.bool (ruB R)) ∧ Below x.heap.size x w') := fun x => l10Rule_any R.k R.f R.l R.m x hRl.1 hRl.2
  have HCp : Hid (∀ x, Below W2.heap.size W2 x → Calls Try.prog 34 #[.agg #[.slice p1 rs.length c1, .slice p2 hs.length c2]] x fun e w' => ∃ v1 v2, e = .returned (.agg #[v1, v2]) ∧ PolO x.heap.size rs hs v1 v2 w' ∧ Below x.heap.size x w') := fun x hb => l10Copy_any p1 c1 rs p2 c2 hs x (HRu.out.below hb) (HIn.out.below hb) n1 n2 m1 m2
  have HRw : Hid (RulAt w p1 rs) := hr
  clear hW2 hs1 hs2 hr hh hz
  cases hpb : polB rs hs with
  | false =>
    have e1 : rpC rs hs R = 1 := by rw [HC.out, if_neg (by rw [hpb]; simp)]
    rw [HRr.out, HHr.out, e1, if_neg (by omega), if_neg (by omega)]
    rw [hpb] at hQ
    clear HC HRr HHr e1
    go_enter Try.func11, Try.ntmps11
    go_wp2_with fail
    rw [← HW2.out]
    refine hQ.mono ?_
    rintro e w3 ⟨rfl, b3⟩
    go_wp2_with fail
    refine (l10Ill_any 1 w3).mono ?_
    rintro e wi ⟨rfl, bi⟩
    have bi := chainB b3 bi
    obtain ⟨r0, r1, r2, f0, f1, f2⟩ := HR.out wi bi
    have HE := HS3.out wi bi (.slice none 0 0) (.slice none 0 0) (.int .i64 1)
    go_wp2_with fail
    refine bodyPost_ret (v := .agg #[.slice none 0 0, .slice none 0 0, .int .i64 1]) (by simp [results, Try.results11, go_sem, r0, r1, r2]) rfl ?_
    exact ⟨_, _, rfl, PolO.nil _ _, HE⟩
  | true =>
  obtain ⟨hl6, ho1, ho2, hh6, hsz⟩ := polB_parts hpb
  rw [hpb] at hQ
  cases hrb : ruB R with
  | false =>
    have e1 : rpC rs hs R = 1 := by rw [HC.out, if_neg (by rw [hrb]; simp)]
    rw [HRr.out, HHr.out, e1, if_neg (by omega), if_neg (by omega)]
    rw [hrb] at HK
    clear HC HRr HHr e1
    go_enter Try.func11, Try.ntmps11
    go_wp2_with fail
    rw [← HW2.out]
    refine hQ.mono ?_
    rintro e w3 ⟨rfl, b3⟩
    obtain ⟨u0, u1, u2, u3⟩ := HPr.out w3 b3
    go_wp2_with fail
    refine (HK.out w3).mono ?_
    rintro e w4 ⟨rfl, b4⟩
    have b4 := chainB b3 b4
    go_wp2_with fail
    refine (l10Ill_any 1 w4).mono ?_
    rintro e wi ⟨rfl, bi⟩
    have bi := chainB b4 bi
    obtain ⟨r0, r1, r2, f0, f1, f2⟩ := HR.out wi bi
    have HE := HS3.out wi bi (.slice none 0 0) (.slice none 0 0) (.int .i64 1)
    go_wp2_with fail
    refine bodyPost_ret (v := .agg #[.slice none 0 0, .slice none 0 0, .int .i64 1]) (by simp [results, Try.results11, go_sem, r0, r1, r2]) rfl ?_
    exact ⟨_, _, rfl, PolO.nil _ _, HE⟩
  | true =>
  rw [hrb] at HK
  rw [if_pos (show polB rs hs = true ∧ ruB R = true from ⟨hpb, hrb⟩)] at HC
  have hTn : rpT rs R ≤ rs.length := tw_le _ _
  have HT1 : Hid (∀ j (h : j < rs.length), j < rpT rs R → rlLess rs[j].k rs[j].f R.k R.f = true) := fun j h hj => tw_lt (ltR R.k R.f) rs j hj
  have HT2 : Hid (∀ h : rpT rs R < rs.length, rlLess rs[rpT rs R].k rs[rpT rs R].f R.k R.f = false) := fun h => tw_at (ltR R.k R.f) rs h
  have HT3 : Hid (∀ h : rpT rs R < rs.length, rlLess R.k R.f rs[rpT rs R].k rs[rpT rs R].f = !rpB rs R) := fun h => by
    have h1 := rl_tot _ _ _ _ (HT2.out h)
    rw [h1]
    unfold rpB thereB eqR rpT
    rw [dif_pos (show twI (ltR R.k R.f) rs < rs.length from h)]
    rfl
  have HT4 : Hid (rpB rs R = true → rpT rs R < rs.length) := fun h => there_lt h
  have HRr2 : Hid (rpC rs hs R = 0 → rpR rs hs R = if rpB rs R = true then rs.set (rpT rs R) R else rs.take (rpT rs R) ++ [R] ++ rs.drop (rpT rs R)) := fun h => by show _ = _; rw [HRr.out, if_pos h]
  generalize rpT rs R = T at *
  go_enter Try.func11, Try.ntmps11
  go_wp2_with fail
  rw [← HW2.out]
  refine hQ.mono ?_
  rintro e w3 ⟨rfl, b3⟩
  obtain ⟨u0, u1, u2, u3⟩ := HPr.out w3 b3
  go_wp2_with fail
  refine (HK.out w3).mono ?_
  rintro e w4 ⟨rfl, b4⟩
  have b4 := chainB b3 b4
  clear u0 u1 u2 u3
  obtain ⟨z0, z1⟩ := HP.out w4 b4
  go_wp2_with fail
  refine (HCp.out w4 b4).mono ?_
  rintro e w6 ⟨v1, v2, rfl, PO, b6⟩
  obtain ⟨q1, d1', q2, d2', rfl, rfl, l1, l2⟩ := PO.form
  obtain ⟨W7, hW7⟩ : ∃ W7, W7 = w6.alloc (.cells #[.slice q1 rs.length d1', .slice q2 hs.length d2'] 26) := ⟨_, rfl⟩
  have HW7 : Hid (W7 = w6.alloc (.cells #[.slice q1 rs.length d1', .slice q2 hs.length d2'] 26)) := hW7
  have b7 : Below w6.heap.size w6 W7 := by rw [hW7]; exact (Below.refl _ _).alloc (Nat.le_refl _) _
  have X7 : Hid (Bxs W7 w6.heap.size 26 #[.slice q1 rs.length d1', .slice q2 hs.length d2']) := by rw [hW7]; exact Bxs.new _ _ _
  have P7 : Hid (PolO w4.heap.size rs hs (.slice q1 rs.length d1') (.slice q2 hs.length d2') W7) := PO.below b7
  have bw7 : Hid (Below W2.heap.size W2 W7) := chainB b4 (chainB b6 b7)
  have s6 := b6.size
  have s4 := b4.size
  have hS2 := HS2.out
  have LT1 : Hid ((∀ j, (Value.slice q1 rs.length d1').ownBlock = some j → w4.heap.size ≤ j ∧ j < w6.heap.size) ∧ ∀ j, (Value.slice q2 hs.length d2').ownBlock = some j → w4.heap.size ≤ j ∧ j < w6.heap.size) := PO.lt
  have hsz7 : W7.heap.size = w6.heap.size + 1 := by rw [hW7]; simp
  have HSZ7 : Hid (W7.heap.size = w6.heap.size + 1) := hsz7
  clear hW7 b7 PO b6 hsz7
  go_wp2_with fail
  rw [← HW7.out]
  go_loopw [6] (fun i wr => ∃ k : Nat, k ≤ T ∧ i = .int .i64 k ∧ Hid (Below W7.heap.size W7 wr)) (fun i _ => T - (intOf i).toNat)
  case atStart => exact ⟨0, Nat.zero_le _, rfl, Below.refl _ _⟩
  case round =>
  obtain ⟨k, hk, rfl, HB⟩ := hrel
  by_cases hkT : k < T
  · have hlt : k < rs.length := by omega
    have i1 : (k : Int) < rs.length := by omega
    have i2 : decide ((k : Int) < rs.length) = true := decide_eq_true (by omega)
    obtain ⟨b, off, rfl, -⟩ := HRu.out.some_of (by omega)
    have HCf : Hid (∀ x, Below wr.heap.size wr x → x.cell? ⟨w.heap.size, 0, none⟩ = some (.slice (some ⟨b, off, none⟩) rs.length c1) ∧ (x.cell? ⟨w.heap.size + 1, 0, none⟩ = some (.string R.k) ∧ x.cell? ⟨w.heap.size + 1, 1, none⟩ = some (.string R.f) ∧ x.cell? ⟨w.heap.size + 1, 2, none⟩ = some (.int .i64 R.l) ∧ x.cell? ⟨w.heap.size + 1, 3, none⟩ = some (.int .i64 R.m)) ∧ (x.cell? ⟨b, off + k * 4, none⟩ = some (.string rs[k].k) ∧ x.cell? ⟨b, off + k * 4 + 1, none⟩ = some (.string rs[k].f) ∧ x.cell? ⟨b, off + k * 4 + 2, none⟩ = some (.int .i64 rs[k].l) ∧ x.cell? ⟨b, off + k * 4 + 3, none⟩ = some (.int .i64 rs[k].m))) := fun x hx => ⟨(HP.out x (chainB (chainB bw7.out HB.out) hx)).1, HPr.out x (chainB (chainB bw7.out HB.out) hx), ((HRu.out.below (chainB bw7.out HB.out)).below hx).at k hlt⟩
    have BR : Hid (Below wr.heap.size wr wr.drew) := (Below.refl _ _).drew
    have HQ1 : Hid (∀ x, Calls Try.prog 35 #[.agg #[.string rs[k].k, .string rs[k].f, .int .i64 rs[k].l, .int .i64 rs[k].m], .agg #[.string R.k, .string R.f, .int .i64 R.l, .int .i64 R.m]] x fun e w' => e = .returned (.bool (rlLess rs[k].k rs[k].f R.k R.f)) ∧ Below x.heap.size x w') := fun x => l10Less_any _ _ _ _ _ _ _ _ x
    have hle := HT1.out k hlt hkT
    rw [hle] at HQ1
    generalize rs[k].k = fk at *
    generalize rs[k].f = ff at *
    generalize rs[k].l = fl at *
    generalize rs[k].m = fm at *
    clear hle
    go_upto_region 5 with fail
    refine wp_region_held_drew (S := (fun w' => w'.cell? ⟨w.heap.size, 0, none⟩ = some (.slice (some ⟨b, off, none⟩) rs.length c1) ∧ (w'.cell? ⟨w.heap.size + 1, 0, none⟩ = some (.string R.k) ∧ w'.cell? ⟨w.heap.size + 1, 1, none⟩ = some (.string R.f) ∧ w'.cell? ⟨w.heap.size + 1, 2, none⟩ = some (.int .i64 R.l) ∧ w'.cell? ⟨w.heap.size + 1, 3, none⟩ = some (.int .i64 R.m)) ∧ w'.cell? ⟨b, off + k * 4, none⟩ = some (.string fk) ∧ w'.cell? ⟨b, off + k * 4 + 1, none⟩ = some (.string ff) ∧ w'.cell? ⟨b, off + k * 4 + 2, none⟩ = some (.int .i64 fl) ∧ w'.cell? ⟨b, off + k * 4 + 3, none⟩ = some (.int .i64 fm))) (by kernel_rfl) (HCf.out _ BR.out) (fun hHeld => ?_)
    refine take_at 0 (v := ?_) rfl (by kernel_rfl) (by kernel_rfl) (by kernel_rfl) (fun _ _ _ h => h) hHeld (Or.inl ⟨by rfl, ?_⟩) ?_
    rotate_left
    · (intro w hSw; (try dsimp only at hSw); go_simp; try with_reducible rfl)
    simp only [Act.put, List.setIfInBounds_toArray, List.set_cons_zero, List.set_cons_succ]
    refine take_at 1 (v := ?_) rfl (by kernel_rfl) (by kernel_rfl) (by kernel_rfl) (fun _ _ _ h => h) hHeld (Or.inl ⟨by rfl, ?_⟩) ?_
    rotate_left
    · (intro w hSw; (try dsimp only at hSw); go_simp; try with_reducible rfl)
    simp only [Act.put, List.setIfInBounds_toArray, List.set_cons_zero, List.set_cons_succ]
    refine take_at 2 (v := ?_) rfl (by kernel_rfl) (by kernel_rfl) (by kernel_rfl) (fun _ _ _ h => h) hHeld (Or.inl ⟨by rfl, ?_⟩) ?_
    rotate_left
    · (intro w hSw; (try dsimp only at hSw); go_simp; try with_reducible rfl)
    simp only [Act.put, List.setIfInBounds_toArray, List.set_cons_zero, List.set_cons_succ]
    refine take_at 3 (v := ?_) rfl (by kernel_rfl) (by kernel_rfl) (by kernel_rfl) (fun _ _ _ h => h) hHeld (Or.inl ⟨by rfl, ?_⟩) ?_
    rotate_left
    · (intro w hSw; (try dsimp only at hSw); go_simp; try with_reducible rfl)
    simp only [Act.put, List.setIfInBounds_toArray, List.set_cons_zero, List.set_cons_succ]
    refine take_at 4 (v := ?_) rfl (by kernel_rfl) (by kernel_rfl) (by kernel_rfl) (fun _ _ _ h => h) hHeld (Or.inl ⟨by rfl, ?_⟩) ?_
    rotate_left
    · (intro w hSw; (try dsimp only at hSw); go_simp; try with_reducible rfl)
    simp only [Act.put, List.setIfInBounds_toArray, List.set_cons_zero, List.set_cons_succ]
    refine take_at 5 (v := ?_) rfl (by kernel_rfl) (by kernel_rfl) (by kernel_rfl) (fun _ _ _ h => h) hHeld (Or.inl ⟨by rfl, ?_⟩) ?_
    rotate_left
    · (intro w hSw; (try dsimp only at hSw); go_simp; try with_reducible rfl)
    simp only [Act.put, List.setIfInBounds_toArray, List.set_cons_zero, List.set_cons_succ]
    refine take_at 6 (v := ?_) rfl (by kernel_rfl) (by kernel_rfl) (by kernel_rfl) (fun _ _ _ h => h) hHeld (Or.inl ⟨by rfl, ?_⟩) ?_
    rotate_left
    · (intro w hSw; (try dsimp only at hSw); go_simp; try with_reducible rfl)
    simp only [Act.put, List.setIfInBounds_toArray, List.set_cons_zero, List.set_cons_succ]
    refine take_at 7 (v := ?_) rfl (by kernel_rfl) (by kernel_rfl) (by kernel_rfl) (fun _ _ _ h => h) hHeld (Or.inl ⟨by rfl, ?_⟩) ?_
    rotate_left
    · (intro w hSw; (try dsimp only at hSw); go_simp; try with_reducible rfl)
    simp only [Act.put, List.setIfInBounds_toArray, List.set_cons_zero, List.set_cons_succ]
    refine take_at 8 (v := ?_) rfl (by kernel_rfl) (by kernel_rfl) (by kernel_rfl) (fun _ _ _ h => h) hHeld (Or.inl ⟨by rfl, ?_⟩) ?_
    rotate_left
    · (intro w hSw; (try dsimp only at hSw); go_simp; try with_reducible rfl)
    simp only [Act.put, List.setIfInBounds_toArray, List.set_cons_zero, List.set_cons_succ]
    refine take_at 9 (v := ?_) rfl (by kernel_rfl) (by kernel_rfl) (by kernel_rfl) (fun _ _ _ h => h) hHeld (Or.inl ⟨by rfl, ?_⟩) ?_
    rotate_left
    · (intro w hSw; (try dsimp only at hSw); go_simp; try with_reducible rfl)
    simp only [Act.put, List.setIfInBounds_toArray, List.set_cons_zero, List.set_cons_succ]
    refine take_at 10 (v := ?_) rfl (by kernel_rfl) (by kernel_rfl) (by kernel_rfl) (fun _ _ _ h => h) hHeld (Or.inl ⟨by rfl, ?_⟩) ?_
    rotate_left
    · (intro w hSw; (try dsimp only at hSw); go_simp; try with_reducible rfl)
    simp only [Act.put, List.setIfInBounds_toArray, List.set_cons_zero, List.set_cons_succ]
    refine take_at 11 (v := ?_) rfl (by kernel_rfl) (by kernel_rfl) (by kernel_rfl) (fun _ _ _ h => h) hHeld (Or.inl ⟨by rfl, ?_⟩) ?_
    rotate_left
    · (intro w hSw; (try dsimp only at hSw); go_simp; try with_reducible rfl)
    simp only [Act.put, List.setIfInBounds_toArray, List.set_cons_zero, List.set_cons_succ]
    refine ready_at 12 rfl (by kernel_rfl) (fun K hK => ?_)
    go_simp
    (go_at_call 35; with_reducible refine (HQ1.out _).mono ?_; rintro e y1 ⟨rfl, z0⟩; have z1 : Below wr.heap.size wr y1 := chainB BR.out z0)
    refine hK.out _ _ (HCf.out _ z1) (fun hHeld => ?_)
    clear hK K
    try simp only [Act.put, List.setIfInBounds_toArray, List.set_cons_zero, List.set_cons_succ]
    refine take_at 13 (v := ?_) rfl (by kernel_rfl) (by kernel_rfl) (by kernel_rfl) (fun _ _ _ h => h) hHeld (Or.inl ⟨by rfl, ?_⟩) ?_
    rotate_left
    · (intro w hSw; (try dsimp only at hSw); go_simp; try with_reducible rfl)
    simp only [Act.put, List.setIfInBounds_toArray, List.set_cons_zero, List.set_cons_succ]
    refine wpAnyH_done (by kernel_rfl) ?_ _
    have HB2 : Hid (Below W7.heap.size W7 y1) := chainB HB.out z1
    go_wp2_with fail
    go_roundw
    case rel => exact ⟨k + 1, by omega, by go_num, HB2⟩
    case measure => simp [intOf]; omega
  obtain rfl : k = T := by omega
  by_cases hlt : k < rs.length
  · have hqc : ¬ c1 = k := by omega
    obtain ⟨b, off, rfl, -⟩ := HRu.out.some_of (by omega)
    have i1 : (k : Int) < rs.length := by omega
    have i2 : decide ((k : Int) < rs.length) = true := decide_eq_true (by omega)
    have HCf : Hid (∀ x, Below wr.heap.size wr x → x.cell? ⟨w.heap.size, 0, none⟩ = some (.slice (some ⟨b, off, none⟩) rs.length c1) ∧ (x.cell? ⟨w.heap.size + 1, 0, none⟩ = some (.string R.k) ∧ x.cell? ⟨w.heap.size + 1, 1, none⟩ = some (.string R.f) ∧ x.cell? ⟨w.heap.size + 1, 2, none⟩ = some (.int .i64 R.l) ∧ x.cell? ⟨w.heap.size + 1, 3, none⟩ = some (.int .i64 R.m)) ∧ (x.cell? ⟨b, off + k * 4, none⟩ = some (.string rs[k].k) ∧ x.cell? ⟨b, off + k * 4 + 1, none⟩ = some (.string rs[k].f) ∧ x.cell? ⟨b, off + k * 4 + 2, none⟩ = some (.int .i64 rs[k].l) ∧ x.cell? ⟨b, off + k * 4 + 3, none⟩ = some (.int .i64 rs[k].m))) := fun x hx => ⟨(HP.out x (chainB (chainB bw7.out HB.out) hx)).1, HPr.out x (chainB (chainB bw7.out HB.out) hx), ((HRu.out.below (chainB bw7.out HB.out)).below hx).at k hlt⟩
    have BR : Hid (Below wr.heap.size wr wr.drew) := (Below.refl _ _).drew
    have HQ1 : Hid (∀ x, Calls Try.prog 35 #[.agg #[.string rs[k].k, .string rs[k].f, .int .i64 rs[k].l, .int .i64 rs[k].m], .agg #[.string R.k, .string R.f, .int .i64 R.l, .int .i64 R.m]] x fun e w' => e = .returned (.bool (rlLess rs[k].k rs[k].f R.k R.f)) ∧ Below x.heap.size x w') := fun x => l10Less_any _ _ _ _ _ _ _ _ x
    have hle := HT2.out hlt
    rw [hle] at HQ1
    have HQ2 : Hid (∀ x, Calls Try.prog 35 #[.agg #[.string R.k, .string R.f, .int .i64 R.l, .int .i64 R.m], .agg #[.string rs[k].k, .string rs[k].f, .int .i64 rs[k].l, .int .i64 rs[k].m]] x fun e w' => e = .returned (.bool (rlLess R.k R.f rs[k].k rs[k].f)) ∧ Below x.heap.size x w') := fun x => l10Less_any _ _ _ _ _ _ _ _ x
    have hl2 := HT3.out hlt
    rw [hl2] at HQ2
    generalize rs[k].k = fk at *
    generalize rs[k].f = ff at *
    generalize rs[k].l = fl at *
    generalize rs[k].m = fm at *
    clear hle hl2
    go_upto_region 5 with fail
    refine wp_region_held_drew (S := (fun w' => w'.cell? ⟨w.heap.size, 0, none⟩ = some (.slice (some ⟨b, off, none⟩) rs.length c1) ∧ (w'.cell? ⟨w.heap.size + 1, 0, none⟩ = some (.string R.k) ∧ w'.cell? ⟨w.heap.size + 1, 1, none⟩ = some (.string R.f) ∧ w'.cell? ⟨w.heap.size + 1, 2, none⟩ = some (.int .i64 R.l) ∧ w'.cell? ⟨w.heap.size + 1, 3, none⟩ = some (.int .i64 R.m)) ∧ w'.cell? ⟨b, off + k * 4, none⟩ = some (.string fk) ∧ w'.cell? ⟨b, off + k * 4 + 1, none⟩ = some (.string ff) ∧ w'.cell? ⟨b, off + k * 4 + 2, none⟩ = some (.int .i64 fl) ∧ w'.cell? ⟨b, off + k * 4 + 3, none⟩ = some (.int .i64 fm))) (by kernel_rfl) (HCf.out _ BR.out) (fun hHeld => ?_)
    refine take_at 0 (v := ?_) rfl (by kernel_rfl) (by kernel_rfl) (by kernel_rfl) (fun _ _ _ h => h) hHeld (Or.inl ⟨by rfl, ?_⟩) ?_
    rotate_left
    · (intro w hSw; (try dsimp only at hSw); go_simp; try with_reducible rfl)
    simp only [Act.put, List.setIfInBounds_toArray, List.set_cons_zero, List.set_cons_succ]
    refine take_at 1 (v := ?_) rfl (by kernel_rfl) (by kernel_rfl) (by kernel_rfl) (fun _ _ _ h => h) hHeld (Or.inl ⟨by rfl, ?_⟩) ?_
    rotate_left
    · (intro w hSw; (try dsimp only at hSw); go_simp; try with_reducible rfl)
    simp only [Act.put, List.setIfInBounds_toArray, List.set_cons_zero, List.set_cons_succ]
    refine take_at 2 (v := ?_) rfl (by kernel_rfl) (by kernel_rfl) (by kernel_rfl) (fun _ _ _ h => h) hHeld (Or.inl ⟨by rfl, ?_⟩) ?_
    rotate_left
    · (intro w hSw; (try dsimp only at hSw); go_simp; try with_reducible rfl)
    simp only [Act.put, List.setIfInBounds_toArray, List.set_cons_zero, List.set_cons_succ]
    refine take_at 3 (v := ?_) rfl (by kernel_rfl) (by kernel_rfl) (by kernel_rfl) (fun _ _ _ h => h) hHeld (Or.inl ⟨by rfl, ?_⟩) ?_
    rotate_left
    · (intro w hSw; (try dsimp only at hSw); go_simp; try with_reducible rfl)
    simp only [Act.put, List.setIfInBounds_toArray, List.set_cons_zero, List.set_cons_succ]
    refine take_at 4 (v := ?_) rfl (by kernel_rfl) (by kernel_rfl) (by kernel_rfl) (fun _ _ _ h => h) hHeld (Or.inl ⟨by rfl, ?_⟩) ?_
    rotate_left
    · (intro w hSw; (try dsimp only at hSw); go_simp; try with_reducible rfl)
    simp only [Act.put, List.setIfInBounds_toArray, List.set_cons_zero, List.set_cons_succ]
    refine take_at 5 (v := ?_) rfl (by kernel_rfl) (by kernel_rfl) (by kernel_rfl) (fun _ _ _ h => h) hHeld (Or.inl ⟨by rfl, ?_⟩) ?_
    rotate_left
    · (intro w hSw; (try dsimp only at hSw); go_simp; try with_reducible rfl)
    simp only [Act.put, List.setIfInBounds_toArray, List.set_cons_zero, List.set_cons_succ]
    refine take_at 6 (v := ?_) rfl (by kernel_rfl) (by kernel_rfl) (by kernel_rfl) (fun _ _ _ h => h) hHeld (Or.inl ⟨by rfl, ?_⟩) ?_
    rotate_left
    · (intro w hSw; (try dsimp only at hSw); go_simp; try with_reducible rfl)
    simp only [Act.put, List.setIfInBounds_toArray, List.set_cons_zero, List.set_cons_succ]
    refine take_at 7 (v := ?_) rfl (by kernel_rfl) (by kernel_rfl) (by kernel_rfl) (fun _ _ _ h => h) hHeld (Or.inl ⟨by rfl, ?_⟩) ?_
    rotate_left
    · (intro w hSw; (try dsimp only at hSw); go_simp; try with_reducible rfl)
    simp only [Act.put, List.setIfInBounds_toArray, List.set_cons_zero, List.set_cons_succ]
    refine take_at 8 (v := ?_) rfl (by kernel_rfl) (by kernel_rfl) (by kernel_rfl) (fun _ _ _ h => h) hHeld (Or.inl ⟨by rfl, ?_⟩) ?_
    rotate_left
    · (intro w hSw; (try dsimp only at hSw); go_simp; try with_reducible rfl)
    simp only [Act.put, List.setIfInBounds_toArray, List.set_cons_zero, List.set_cons_succ]
    refine take_at 9 (v := ?_) rfl (by kernel_rfl) (by kernel_rfl) (by kernel_rfl) (fun _ _ _ h => h) hHeld (Or.inl ⟨by rfl, ?_⟩) ?_
    rotate_left
    · (intro w hSw; (try dsimp only at hSw); go_simp; try with_reducible rfl)
    simp only [Act.put, List.setIfInBounds_toArray, List.set_cons_zero, List.set_cons_succ]
    refine take_at 10 (v := ?_) rfl (by kernel_rfl) (by kernel_rfl) (by kernel_rfl) (fun _ _ _ h => h) hHeld (Or.inl ⟨by rfl, ?_⟩) ?_
    rotate_left
    · (intro w hSw; (try dsimp only at hSw); go_simp; try with_reducible rfl)
    simp only [Act.put, List.setIfInBounds_toArray, List.set_cons_zero, List.set_cons_succ]
    refine take_at 11 (v := ?_) rfl (by kernel_rfl) (by kernel_rfl) (by kernel_rfl) (fun _ _ _ h => h) hHeld (Or.inl ⟨by rfl, ?_⟩) ?_
    rotate_left
    · (intro w hSw; (try dsimp only at hSw); go_simp; try with_reducible rfl)
    simp only [Act.put, List.setIfInBounds_toArray, List.set_cons_zero, List.set_cons_succ]
    refine ready_at 12 rfl (by kernel_rfl) (fun K hK => ?_)
    go_simp
    (go_at_call 35; with_reducible refine (HQ1.out _).mono ?_; rintro e y1 ⟨rfl, z0⟩; have z1 : Below wr.heap.size wr y1 := chainB BR.out z0)
    refine hK.out _ _ (HCf.out _ z1) (fun hHeld => ?_)
    clear hK K
    try simp only [Act.put, List.setIfInBounds_toArray, List.set_cons_zero, List.set_cons_succ]
    refine take_at 13 (v := ?_) rfl (by kernel_rfl) (by kernel_rfl) (by kernel_rfl) (fun _ _ _ h => h) hHeld (Or.inl ⟨by rfl, ?_⟩) ?_
    rotate_left
    · (intro w hSw; (try dsimp only at hSw); go_simp; try with_reducible rfl)
    simp only [Act.put, List.setIfInBounds_toArray, List.set_cons_zero, List.set_cons_succ]
    refine wpAnyH_done (by kernel_rfl) ?_ _
    go_upto_region 7 with fail
    clear BR
    have BR : Hid (Below wr.heap.size wr y1.drew) := z1.drew
    refine wp_region_held_drew (S := (fun w' => w'.cell? ⟨w.heap.size, 0, none⟩ = some (.slice (some ⟨b, off, none⟩) rs.length c1) ∧ (w'.cell? ⟨w.heap.size + 1, 0, none⟩ = some (.string R.k) ∧ w'.cell? ⟨w.heap.size + 1, 1, none⟩ = some (.string R.f) ∧ w'.cell? ⟨w.heap.size + 1, 2, none⟩ = some (.int .i64 R.l) ∧ w'.cell? ⟨w.heap.size + 1, 3, none⟩ = some (.int .i64 R.m)) ∧ w'.cell? ⟨b, off + k * 4, none⟩ = some (.string fk) ∧ w'.cell? ⟨b, off + k * 4 + 1, none⟩ = some (.string ff) ∧ w'.cell? ⟨b, off + k * 4 + 2, none⟩ = some (.int .i64 fl) ∧ w'.cell? ⟨b, off + k * 4 + 3, none⟩ = some (.int .i64 fm))) (by kernel_rfl) (HCf.out _ BR.out) (fun hHeld => ?_)
    refine take_at 0 (v := ?_) rfl (by kernel_rfl) (by kernel_rfl) (by kernel_rfl) (fun _ _ _ h => h) hHeld (Or.inl ⟨by rfl, ?_⟩) ?_
    rotate_left
    · (intro w hSw; (try dsimp only at hSw); go_simp; try with_reducible rfl)
    simp only [Act.put, List.setIfInBounds_toArray, List.set_cons_zero, List.set_cons_succ]
    refine take_at 1 (v := ?_) rfl (by kernel_rfl) (by kernel_rfl) (by kernel_rfl) (fun _ _ _ h => h) hHeld (Or.inl ⟨by rfl, ?_⟩) ?_
    rotate_left
    · (intro w hSw; (try dsimp only at hSw); go_simp; try with_reducible rfl)
    simp only [Act.put, List.setIfInBounds_toArray, List.set_cons_zero, List.set_cons_succ]
    refine take_at 2 (v := ?_) rfl (by kernel_rfl) (by kernel_rfl) (by kernel_rfl) (fun _ _ _ h => h) hHeld (Or.inl ⟨by rfl, ?_⟩) ?_
    rotate_left
    · (intro w hSw; (try dsimp only at hSw); go_simp; try with_reducible rfl)
    simp only [Act.put, List.setIfInBounds_toArray, List.set_cons_zero, List.set_cons_succ]
    refine take_at 3 (v := ?_) rfl (by kernel_rfl) (by kernel_rfl) (by kernel_rfl) (fun _ _ _ h => h) hHeld (Or.inl ⟨by rfl, ?_⟩) ?_
    rotate_left
    · (intro w hSw; (try dsimp only at hSw); go_simp; try with_reducible rfl)
    simp only [Act.put, List.setIfInBounds_toArray, List.set_cons_zero, List.set_cons_succ]
    refine take_at 4 (v := ?_) rfl (by kernel_rfl) (by kernel_rfl) (by kernel_rfl) (fun _ _ _ h => h) hHeld (Or.inl ⟨by rfl, ?_⟩) ?_
    rotate_left
    · (intro w hSw; (try dsimp only at hSw); go_simp; try with_reducible rfl)
    simp only [Act.put, List.setIfInBounds_toArray, List.set_cons_zero, List.set_cons_succ]
    refine take_at 5 (v := ?_) rfl (by kernel_rfl) (by kernel_rfl) (by kernel_rfl) (fun _ _ _ h => h) hHeld (Or.inl ⟨by rfl, ?_⟩) ?_
    rotate_left
    · (intro w hSw; (try dsimp only at hSw); go_simp; try with_reducible rfl)
    simp only [Act.put, List.setIfInBounds_toArray, List.set_cons_zero, List.set_cons_succ]
    refine take_at 6 (v := ?_) rfl (by kernel_rfl) (by kernel_rfl) (by kernel_rfl) (fun _ _ _ h => h) hHeld (Or.inl ⟨by rfl, ?_⟩) ?_
    rotate_left
    · (intro w hSw; (try dsimp only at hSw); go_simp; try with_reducible rfl)
    simp only [Act.put, List.setIfInBounds_toArray, List.set_cons_zero, List.set_cons_succ]
    refine take_at 7 (v := ?_) rfl (by kernel_rfl) (by kernel_rfl) (by kernel_rfl) (fun _ _ _ h => h) hHeld (Or.inl ⟨by rfl, ?_⟩) ?_
    rotate_left
    · (intro w hSw; (try dsimp only at hSw); go_simp; try with_reducible rfl)
    simp only [Act.put, List.setIfInBounds_toArray, List.set_cons_zero, List.set_cons_succ]
    refine take_at 8 (v := ?_) rfl (by kernel_rfl) (by kernel_rfl) (by kernel_rfl) (fun _ _ _ h => h) hHeld (Or.inl ⟨by rfl, ?_⟩) ?_
    rotate_left
    · (intro w hSw; (try dsimp only at hSw); go_simp; try with_reducible rfl)
    simp only [Act.put, List.setIfInBounds_toArray, List.set_cons_zero, List.set_cons_succ]
    refine take_at 9 (v := ?_) rfl (by kernel_rfl) (by kernel_rfl) (by kernel_rfl) (fun _ _ _ h => h) hHeld (Or.inl ⟨by rfl, ?_⟩) ?_
    rotate_left
    · (intro w hSw; (try dsimp only at hSw); go_simp; try with_reducible rfl)
    simp only [Act.put, List.setIfInBounds_toArray, List.set_cons_zero, List.set_cons_succ]
    refine take_at 10 (v := ?_) rfl (by kernel_rfl) (by kernel_rfl) (by kernel_rfl) (fun _ _ _ h => h) hHeld (Or.inl ⟨by rfl, ?_⟩) ?_
    rotate_left
    · (intro w hSw; (try dsimp only at hSw); go_simp; try with_reducible rfl)
    simp only [Act.put, List.setIfInBounds_toArray, List.set_cons_zero, List.set_cons_succ]
    refine take_at 11 (v := ?_) rfl (by kernel_rfl) (by kernel_rfl) (by kernel_rfl) (fun _ _ _ h => h) hHeld (Or.inl ⟨by rfl, ?_⟩) ?_
    rotate_left
    · (intro w hSw; (try dsimp only at hSw); go_simp; try with_reducible rfl)
    simp only [Act.put, List.setIfInBounds_toArray, List.set_cons_zero, List.set_cons_succ]
    refine ready_at 12 rfl (by kernel_rfl) (fun K hK => ?_)
    go_simp
    (go_at_call 35; with_reducible refine (HQ2.out _).mono ?_; rintro e y2 ⟨rfl, z3⟩; have z2 : Below wr.heap.size wr y2 := chainB BR.out z3)
    refine hK.out _ _ (HCf.out _ z2) (fun hHeld => ?_)
    clear hK K
    try simp only [Act.put, List.setIfInBounds_toArray, List.set_cons_zero, List.set_cons_succ]
    refine take_at 13 (v := ?_) rfl (by kernel_rfl) (by kernel_rfl) (by kernel_rfl) (fun _ _ _ h => h) hHeld (Or.inl ⟨by rfl, ?_⟩) ?_
    rotate_left
    · (intro w hSw; (try dsimp only at hSw); go_simp; try with_reducible rfl)
    simp only [Act.put, List.setIfInBounds_toArray, List.set_cons_zero, List.set_cons_succ]
    refine take_at 14 (v := ?_) rfl (by kernel_rfl) (by kernel_rfl) (by kernel_rfl) (fun _ _ _ h => h) hHeld (Or.inl ⟨by rfl, ?_⟩) ?_
    rotate_left
    · (intro w hSw; (try dsimp only at hSw); go_simp; try with_reducible rfl)
    simp only [Act.put, List.setIfInBounds_toArray, List.set_cons_zero, List.set_cons_succ]
    refine wpAnyH_done (by kernel_rfl) ?_ _
    have HB2 : Hid (Below W7.heap.size W7 y2) := chainB HB.out z2
    clear HCf HQ1 HQ2 BR z1 z2 z3 z0
    cases htb : rpB rs R with
    | true =>
      have e1 : rpC rs hs R = 0 := by rw [HC.out, htb]; rfl
      have HE1 : Hid (rpC rs hs R = 0) := e1
      have HE2 : Hid (rpR rs hs R = rs.set k R) := by show _ = _; rw [HRr2.out e1, htb, if_pos rfl]
      clear e1
      obtain ⟨g1, rfl⟩ : ∃ g1, q1 = some ⟨g1, 0, none⟩ := by
        rcases P7.out.own1.2 with ⟨h0, h1⟩ | ⟨g1, _, _, h1, _⟩
        · omega
        · cases h1; exact ⟨g1, rfl⟩
      have hgl := LT1.out.1 g1 rfl
      have OGa : OG y2 w4.heap.size 28 4 g1 rs.length d1' y2 (rulRow rs) := OG.start (ownS_below P7.out.own1 HB2.out)
      obtain ⟨a0, c0, j0⟩ := OGa.cell (k * 4) (by omega)
      obtain ⟨a1, c1', j1⟩ := OGa.cell (k * 4 + 1) (by omega)
      obtain ⟨a2, c2', j2⟩ := OGa.cell (k * 4 + 2) (by omega)
      obtain ⟨a3, c3, j3⟩ := OGa.cell (k * 4 + 3) (by omega)
      have OGb := (((OGa.set (k * 4) (.string R.k)).set (k * 4 + 1) (.string R.f)).set (k * 4 + 2) (.int .i64 R.l)).set (k * 4 + 3) (.int .i64 R.m)
      rw [rulRow_set] at OGb
      have P9 := (P7.out.below HB2.out).new1 (rs' := rs.set k R) (v1' := .slice (some ⟨g1, 0, none⟩) rs.length d1') OGb.2 (by rw [List.length_set]; exact OGb.1) (fun j hj => .inl hj)
      have X9 : Bxs (set4u y2 g1 (k * 4) R) w6.heap.size 26 #[.slice (some ⟨g1, 0, none⟩) rs.length d1', .slice q2 hs.length d2'] := set4u_other (X7.out.below HB2.out) (by omega) R
      have R9 : Bxs (set4u y2 g1 (k * 4) R) (w.heap.size + 1 + 1) 32 #[.slice none 0 0, .slice none 0 0, .int .i64 0] := set4u_other (K1.out.below (chainB bw7.out HB2.out)) (by omega) R
      have B9 : Below w.heap.size w (set4u y2 g1 (k * 4) R) := set4u_below (chainB (chainB B2.out bw7.out) HB2.out) (by omega) _ _
      have zZ : y2.cell? ⟨w6.heap.size, 0, none⟩ = some (.slice (some ⟨g1, 0, none⟩) rs.length d1') := (X7.out.below HB2.out).cell 0
      obtain ⟨u0, u1, u2, u3⟩ := HPr.out y2 (chainB bw7.out HB2.out)
      obtain ⟨W9, hW9⟩ : ∃ W9, W9 = set4u y2 g1 (k * 4) R := ⟨_, rfl⟩
      have HW9 : Hid (W9 = (((y2.setCell ⟨g1, k * 4, none⟩ (.string R.k)).setCell ⟨g1, k * 4 + 1, none⟩ (.string R.f)).setCell ⟨g1, k * 4 + 2, none⟩ (.int .i64 R.l)).setCell ⟨g1, k * 4 + 3, none⟩ (.int .i64 R.m)) := hW9
      have P9 : PolO w4.heap.size (rs.set k R) hs (.slice (some ⟨g1, 0, none⟩) rs.length d1') (.slice q2 hs.length d2') W9 := by rw [hW9]; exact P9
      rw [← hW9] at X9 R9 B9
      clear hW9 OGa OGb
      go_upto_region 9 with fail
      rw [← HW9.out]
      have i0 : W9.cell? ⟨w6.heap.size, 0, none⟩ = some (.slice (some ⟨g1, 0, none⟩) rs.length d1') := X9.cell 0
      have i1' : W9.cell? ⟨w6.heap.size, 1, none⟩ = some (.slice q2 hs.length d2') := X9.cell 1
      have r0 : W9.cell? ⟨w.heap.size + 1 + 1, 0, none⟩ = some (.slice none 0 0) := R9.cell 0
      have r1 : W9.cell? ⟨w.heap.size + 1 + 1, 1, none⟩ = some (.slice none 0 0) := R9.cell 1
      have r2 : W9.cell? ⟨w.heap.size + 1 + 1, 2, none⟩ = some (.int .i64 0) := R9.cell 2
      have f0 := R9.fr 0
      have f1 := R9.fr 1
      have f2 := R9.fr 2
      have HEnd : Hid (∀ b c d : Value, PolO w.heap.size (rs.set k R) hs (.slice (some ⟨g1, 0, none⟩) rs.length d1') (.slice q2 hs.length d2') (((W9.setCell ⟨w.heap.size + 1 + 1, 0, none⟩ b).setCell ⟨w.heap.size + 1 + 1, 1, none⟩ c).setCell ⟨w.heap.size + 1 + 1, 2, none⟩ d) ∧ Below w.heap.size w (((W9.setCell ⟨w.heap.size + 1 + 1, 0, none⟩ b).setCell ⟨w.heap.size + 1 + 1, 1, none⟩ c).setCell ⟨w.heap.size + 1 + 1, 2, none⟩ d)) := fun b c d =>
        ⟨(((P9.set (by omega) 0 b).set (by omega) 1 c).set (by omega) 2 d).lower (by omega), ((B9.setCell (by show w.heap.size ≤ w.heap.size + 1 + 1; omega) _).setCell (by show w.heap.size ≤ w.heap.size + 1 + 1; omega) _).setCell (by show w.heap.size ≤ w.heap.size + 1 + 1; omega) _⟩
      clear P9 X9 R9 B9 c0 c1' c2' c3 j0 j1 j2 j3 zZ u0 u1 u2 u3
      go_wp2_with fail
      refine bodyPost_ret (v := .agg #[.slice (some ⟨g1, 0, none⟩) rs.length d1', .slice q2 hs.length d2', .int .i64 0]) (by simp [results, Try.results11, go_sem, r0, r1, r2]) rfl ?_
      refine ⟨.slice (some ⟨g1, 0, none⟩) rs.length d1', .slice q2 hs.length d2', by rw [HE1.out], ?_⟩
      rw [HE2.out, HHr.out, HE1.out, if_pos rfl]
      exact HEnd.out _ _ _
    | false =>
      by_cases h6 : rs.length = 6
      · skip
        have e1 : rpC rs hs R = 9 := by rw [HC.out, htb, if_pos h6]; rfl
        have dl : decide (6 ≤ (rs.length : Int)) = true := decide_eq_true (by omega)
        have HE1 : Hid (rpC rs hs R = 9) := e1
        clear e1 h6
        obtain ⟨zz0, zz1⟩ := HP.out y2 (chainB bw7.out HB2.out)
        go_wp2_with fail
        refine (l10Ill_any 9 y2).mono ?_
        rintro e wi ⟨rfl, bi⟩
        have bi := chainB (chainB bw7.out HB2.out) bi
        obtain ⟨r0, r1, r2, f0, f1, f2⟩ := HR.out wi bi
        have HE := HS3.out wi bi (.slice none 0 0) (.slice none 0 0) (.int .i64 9)
        go_wp2_with fail
        refine bodyPost_ret (v := .agg #[.slice none 0 0, .slice none 0 0, .int .i64 9]) (by simp [results, Try.results11, go_sem, r0, r1, r2]) rfl ?_
        refine ⟨.slice none 0 0, .slice none 0 0, by rw [HE1.out], ?_, HE⟩
        rw [HRr.out, HHr.out, HE1.out, if_neg (by omega), if_neg (by omega)]
        exact PolO.nil _ _
      · skip
        have e1 : rpC rs hs R = 0 := by rw [HC.out, htb, if_neg h6]; rfl
        have HE1 : Hid (rpC rs hs R = 0) := e1
        have HE2 : Hid (rpR rs hs R = rs.take k ++ [R] ++ rs.drop k) := by show _ = _; rw [HRr2.out e1, htb, if_neg (by simp)]
        have dl : decide (6 ≤ (rs.length : Int)) = false := decide_eq_false (by omega)
        clear e1
        obtain ⟨W8, hW8⟩ : ∃ W8, W8 = y2.alloc (.cells #[] 28) := ⟨_, rfl⟩
        have HW8 : Hid (W8 = y2.alloc (.cells #[] 28)) := hW8
        have b8 : Below y2.heap.size y2 W8 := by rw [hW8]; exact (Below.refl _ _).alloc (Nat.le_refl _) _
        have O8 : W8.ownsRow y2.heap.size 28 4 (.slice (some ⟨y2.heap.size, 0, none⟩) 0 0) 0 [] := by rw [hW8]; exact own_empty _ _ _
        have by2 : Below W2.heap.size W2 y2 := chainB bw7.out HB2.out
        obtain ⟨i0, E⟩ := elR
        have s7 := HB2.out.size
        have hsz7 := HSZ7.out
        have lt1 := LT1.out
        have HIc : ∀ x, Below W2.heap.size W2 x → CelAt x (some ⟨b, off, none⟩) (rulRow rs) := fun x hx => (HRu.out.below hx).cel
        obtain ⟨q9, d9, w9, AP1, O9, B9⟩ := app_own E 23 b8 O8 (some ⟨b, off, none⟩) k c1 (rulRow (rs.take k)) (by rw [← rulRow_take]; exact (HIc W8 (chainB by2 b8)).take _) (by rw [rulRow_len, List.length_take]; omega) (oneR _) (by omega) (by omega)
        rw [List.nil_append] at O9
        obtain ⟨L1, hL1⟩ : ∃ L1, L1 = 0 + k := ⟨_, rfl⟩
        rw [← hL1] at O9 AP1
        obtain ⟨WA, hWA⟩ : ∃ WA, WA = w9.alloc (.cells #[.string R.k, .string R.f, .int .i64 R.l, .int .i64 R.m] 28) := ⟨_, rfl⟩
        have bA : Below w9.heap.size w9 WA := by rw [hWA]; exact (Below.refl _ _).alloc (Nat.le_refl _) _
        have VA : BlkU WA w9.heap.size [R] := by rw [hWA]; exact Bxs.new _ _ _
        obtain ⟨qB, dB, wB, AP2, OB, BB⟩ := app_own E 23 (chainB B9 bA) (ownS_below O9 bA) (some ⟨w9.heap.size, 0, none⟩) 1 1 (rulRow [R]) VA.at.cel rfl (oneR _) (by omega) (by omega)
        obtain ⟨L2, hL2⟩ : ∃ L2, L2 = L1 + 1 := ⟨_, rfl⟩
        rw [← hL2] at OB AP2
        obtain ⟨qC, dC, wC, AP3, OC, BC⟩ := app_own E 23 BB OB (some ⟨b, off + k * 4, none⟩) (rs.length - k) (c1 - k) (rulRow (rs.drop k)) (by rw [← rulRow_drop]; exact (HIc wB (chainB by2 BB)).drop _) (by rw [rulRow_len, List.length_drop]) (oneR _) (by omega) (by omega)
        obtain ⟨L3, hL3⟩ : ∃ L3, L3 = L2 + (rs.length - k) := ⟨_, rfl⟩
        rw [← hL3] at OC AP3
        have OC : wC.ownsRow y2.heap.size 28 4 (.slice qC L3 dC) (rs.take k ++ [R] ++ rs.drop k).length (rulRow (rs.take k ++ [R] ++ rs.drop k)) := by
          have e : (rs.take k ++ [R] ++ rs.drop k).length = L3 := by simp only [List.length_append, List.length_take, List.length_drop, List.length_cons, List.length_nil]; omega
          rw [e, rulRow_append, rulRow_append]; exact OC
        have PC := (P7.out.below HB2.out).put1 BC OC (by omega)
        have XC := (X7.out.below HB2.out).below BC
        have R9 := K1.out.below (chainB by2 BC)
        have BCw : Below w.heap.size w wC := chainB (chainB B2.out by2) BC
        have nz : some w6.heap.size ≠ (Value.slice qC L3 dC).ownBlock := fun e => by have := (OC.lt _ e.symm).1; omega
        have nz2 : some w6.heap.size ≠ (Value.slice q2 hs.length d2').ownBlock := fun e => by have := (lt1.2 _ e.symm).2; omega
        have iC0 : wC.cell? ⟨w6.heap.size, 0, none⟩ = some (.slice q1 rs.length d1') := XC.cell 0
        have iC1 : wC.cell? ⟨w6.heap.size, 1, none⟩ = some (.slice q2 hs.length d2') := XC.cell 1
        have fi := XC.fr 0
        have r0 : wC.cell? ⟨w.heap.size + 1 + 1, 0, none⟩ = some (.slice none 0 0) := R9.cell 0
        have r1 : wC.cell? ⟨w.heap.size + 1 + 1, 1, none⟩ = some (.slice none 0 0) := R9.cell 1
        have r2 : wC.cell? ⟨w.heap.size + 1 + 1, 2, none⟩ = some (.int .i64 0) := R9.cell 2
        have f0 := R9.fr 0
        have f1 := R9.fr 1
        have f2 := R9.fr 2
        have HEnd : Hid (∀ a b c d : Value, PolO w.heap.size (rs.take k ++ [R] ++ rs.drop k) hs (.slice qC L3 dC) (.slice q2 hs.length d2') ((((wC.setCell ⟨w6.heap.size, 0, none⟩ a).setCell ⟨w.heap.size + 1 + 1, 0, none⟩ b).setCell ⟨w.heap.size + 1 + 1, 1, none⟩ c).setCell ⟨w.heap.size + 1 + 1, 2, none⟩ d) ∧ Below w.heap.size w ((((wC.setCell ⟨w6.heap.size, 0, none⟩ a).setCell ⟨w.heap.size + 1 + 1, 0, none⟩ b).setCell ⟨w.heap.size + 1 + 1, 1, none⟩ c).setCell ⟨w.heap.size + 1 + 1, 2, none⟩ d)) := fun a b c d =>
          ⟨((((PC.setN nz nz2 0 a).set (by omega) 0 b).set (by omega) 1 c).set (by omega) 2 d).lower (by omega), (((BCw.setCell (by show w.heap.size ≤ w6.heap.size; omega) _).setCell (by show w.heap.size ≤ w.heap.size + 1 + 1; omega) _).setCell (by show w.heap.size ≤ w.heap.size + 1 + 1; omega) _).setCell (by show w.heap.size ≤ w.heap.size + 1 + 1; omega) _⟩
        have n9 : ¬ w6.heap.size = w.heap.size + 1 + 1 := by omega
        have n10 : ¬ w.heap.size + 1 + 1 = w6.heap.size := by omega
        have y5 : y2.cell? ⟨w.heap.size, 0, none⟩ = some (.slice (some ⟨b, off, none⟩) rs.length c1) := (HP.out y2 by2).1
        have y6 : W8.cell? ⟨w.heap.size, 0, none⟩ = some (.slice (some ⟨b, off, none⟩) rs.length c1) := (HP.out W8 (chainB by2 b8)).1
        have y8 : wB.cell? ⟨w.heap.size, 0, none⟩ = some (.slice (some ⟨b, off, none⟩) rs.length c1) := (HP.out wB (chainB by2 BB)).1
        obtain ⟨u0, u1, u2, u3⟩ := HPr.out w9 (chainB by2 B9)
        rw [hW8] at y6 AP1
        rw [hWA] at AP2
        have kc : k ≤ c1 := by omega
        have kn : k ≤ rs.length := by omega
        clear PC XC R9 BCw nz nz2 OC BC O9 B9 O8 b8 by2 E hW8 hsz7 hL1 hL3 hL2 OB BB VA bA hWA lt1 s7 HIc
        go_wp2_with (first | (at_builtin; refine wpList_app rfl (.tmp 62) (.tmp 66) 23 23 rfl _ _ _ _ rfl rfl AP1 ?_) | (at_builtin; refine wpList_app rfl (.tmp 68) (.tmp 70) 23 23 rfl _ _ _ _ rfl rfl AP2 ?_) | (at_builtin; refine wpList_app rfl (.tmp 72) (.tmp 76) 23 23 rfl _ _ _ _ rfl rfl AP3 ?_))
        refine bodyPost_ret (v := .agg #[.slice qC L3 dC, .slice q2 hs.length d2', .int .i64 0]) (by simp [results, Try.results11, go_sem, r0, r1, r2]) rfl ?_
        refine ⟨.slice qC L3 dC, .slice q2 hs.length d2', by rw [HE1.out], ?_⟩
        rw [HE2.out, HHr.out, HE1.out, if_pos rfl]
        exact HEnd.out _ _ _ _
  · obtain rfl : k = rs.length := by omega
    have htb : rpB rs R = false := by
      cases h : rpB rs R with
      | false => rfl
      | true => have := HT4.out h; omega
    have i2 : decide ((rs.length : Int) < rs.length) = false := decide_eq_false (by omega)
    have HCf : Hid (∀ x, Below wr.heap.size wr x → x.cell? ⟨w.heap.size, 0, none⟩ = some (.slice p1 rs.length c1)) := fun x hx => (HP.out x (chainB (chainB bw7.out HB.out) hx)).1
    have BR : Hid (Below wr.heap.size wr wr.drew) := (Below.refl _ _).drew
    go_upto_region 5 with fail
    refine wp_region_held_drew (S := (fun w' => w'.cell? ⟨w.heap.size, 0, none⟩ = some (.slice p1 rs.length c1))) (by kernel_rfl) (HCf.out _ BR.out) (fun hHeld => ?_)
    refine take_at 0 (v := ?_) rfl (by kernel_rfl) (by kernel_rfl) (by kernel_rfl) (fun _ _ _ h => h) hHeld (Or.inl ⟨by rfl, ?_⟩) ?_
    rotate_left
    · (intro w hSw; (try dsimp only at hSw); go_simp; try with_reducible rfl)
    simp only [Act.put, List.setIfInBounds_toArray, List.set_cons_zero, List.set_cons_succ]
    refine take_at 1 (v := ?_) rfl (by kernel_rfl) (by kernel_rfl) (by kernel_rfl) (fun _ _ _ h => h) hHeld (Or.inl ⟨by rfl, ?_⟩) ?_
    rotate_left
    · (intro w hSw; (try dsimp only at hSw); go_simp; try with_reducible rfl)
    simp only [Act.put, List.setIfInBounds_toArray, List.set_cons_zero, List.set_cons_succ]
    refine take_at 2 (v := ?_) rfl (by kernel_rfl) (by kernel_rfl) (by kernel_rfl) (fun _ _ _ h => h) hHeld (Or.inl ⟨by rfl, ?_⟩) ?_
    rotate_left
    · (intro w hSw; (try dsimp only at hSw); go_simp; try with_reducible rfl)
    simp only [Act.put, List.setIfInBounds_toArray, List.set_cons_zero, List.set_cons_succ]
    refine take_at 3 (v := ?_) rfl (by kernel_rfl) (by kernel_rfl) (by kernel_rfl) (fun _ _ _ h => h) hHeld (Or.inl ⟨by rfl, ?_⟩) ?_
    rotate_left
    · (intro w hSw; (try dsimp only at hSw); go_simp; try with_reducible rfl)
    simp only [Act.put, List.setIfInBounds_toArray, List.set_cons_zero, List.set_cons_succ]
    refine take_at 4 (v := ?_) rfl (by kernel_rfl) (by kernel_rfl) (by kernel_rfl) (fun _ _ _ h => h) hHeld (Or.inl ⟨by rfl, ?_⟩) ?_
    rotate_left
    · (intro w hSw; (try dsimp only at hSw); go_simp; try with_reducible rfl)
    simp only [Act.put, List.setIfInBounds_toArray, List.set_cons_zero, List.set_cons_succ]
    refine take_at 5 (v := ?_) rfl (by kernel_rfl) (by kernel_rfl) (by kernel_rfl) (fun _ _ _ h => h) hHeld (Or.inl ⟨by rfl, ?_⟩) ?_
    rotate_left
    · (intro w hSw; (try dsimp only at hSw); go_simp; try with_reducible rfl)
    simp only [Act.put, List.setIfInBounds_toArray, List.set_cons_zero, List.set_cons_succ]
    refine take_at 6 (v := undef) rfl (by kernel_rfl) (by kernel_rfl) (by kernel_rfl) (fun _ _ _ h => h) hHeld (Or.inr ⟨by rfl, rfl⟩) ?_
    simp only [Act.put, List.setIfInBounds_toArray, List.set_cons_zero, List.set_cons_succ]
    refine take_at 7 (v := undef) rfl (by kernel_rfl) (by kernel_rfl) (by kernel_rfl) (fun _ _ _ h => h) hHeld (Or.inr ⟨by rfl, rfl⟩) ?_
    simp only [Act.put, List.setIfInBounds_toArray, List.set_cons_zero, List.set_cons_succ]
    refine take_at 8 (v := undef) rfl (by kernel_rfl) (by kernel_rfl) (by kernel_rfl) (fun _ _ _ h => h) hHeld (Or.inr ⟨by rfl, rfl⟩) ?_
    simp only [Act.put, List.setIfInBounds_toArray, List.set_cons_zero, List.set_cons_succ]
    refine take_at 9 (v := undef) rfl (by kernel_rfl) (by kernel_rfl) (by kernel_rfl) (fun _ _ _ h => h) hHeld (Or.inr ⟨by rfl, rfl⟩) ?_
    simp only [Act.put, List.setIfInBounds_toArray, List.set_cons_zero, List.set_cons_succ]
    refine take_at 10 (v := undef) rfl (by kernel_rfl) (by kernel_rfl) (by kernel_rfl) (fun _ _ _ h => h) hHeld (Or.inr ⟨by rfl, rfl⟩) ?_
    simp only [Act.put, List.setIfInBounds_toArray, List.set_cons_zero, List.set_cons_succ]
    refine take_at 11 (v := undef) rfl (by kernel_rfl) (by kernel_rfl) (by kernel_rfl) (fun _ _ _ h => h) hHeld (Or.inr ⟨by rfl, rfl⟩) ?_
    simp only [Act.put, List.setIfInBounds_toArray, List.set_cons_zero, List.set_cons_succ]
    refine take_at 12 (v := undef) rfl (by kernel_rfl) (by kernel_rfl) (by kernel_rfl) (fun _ _ _ h => h) hHeld (Or.inr ⟨by rfl, rfl⟩) ?_
    simp only [Act.put, List.setIfInBounds_toArray, List.set_cons_zero, List.set_cons_succ]
    refine take_at 13 (v := ?_) rfl (by kernel_rfl) (by kernel_rfl) (by kernel_rfl) (fun _ _ _ h => h) hHeld (Or.inl ⟨by rfl, ?_⟩) ?_
    rotate_left
    · (intro w hSw; (try dsimp only at hSw); go_simp; try with_reducible rfl)
    simp only [Act.put, List.setIfInBounds_toArray, List.set_cons_zero, List.set_cons_succ]
    refine wpAnyH_done (by kernel_rfl) ?_ _
    go_upto_region 7 with fail
    have BR2 : Hid (Below wr.heap.size wr wr.drew.drew) := BR.out.drew
    refine wp_region_held_drew (S := (fun w' => w'.cell? ⟨w.heap.size, 0, none⟩ = some (.slice p1 rs.length c1))) (by kernel_rfl) (HCf.out _ BR2.out) (fun hHeld => ?_)
    refine take_at 0 (v := ?_) rfl (by kernel_rfl) (by kernel_rfl) (by kernel_rfl) (fun _ _ _ h => h) hHeld (Or.inl ⟨by rfl, ?_⟩) ?_
    rotate_left
    · (intro w hSw; (try dsimp only at hSw); go_simp; try with_reducible rfl)
    simp only [Act.put, List.setIfInBounds_toArray, List.set_cons_zero, List.set_cons_succ]
    refine take_at 1 (v := ?_) rfl (by kernel_rfl) (by kernel_rfl) (by kernel_rfl) (fun _ _ _ h => h) hHeld (Or.inl ⟨by rfl, ?_⟩) ?_
    rotate_left
    · (intro w hSw; (try dsimp only at hSw); go_simp; try with_reducible rfl)
    simp only [Act.put, List.setIfInBounds_toArray, List.set_cons_zero, List.set_cons_succ]
    refine take_at 2 (v := ?_) rfl (by kernel_rfl) (by kernel_rfl) (by kernel_rfl) (fun _ _ _ h => h) hHeld (Or.inl ⟨by rfl, ?_⟩) ?_
    rotate_left
    · (intro w hSw; (try dsimp only at hSw); go_simp; try with_reducible rfl)
    simp only [Act.put, List.setIfInBounds_toArray, List.set_cons_zero, List.set_cons_succ]
    refine take_at 3 (v := ?_) rfl (by kernel_rfl) (by kernel_rfl) (by kernel_rfl) (fun _ _ _ h => h) hHeld (Or.inl ⟨by rfl, ?_⟩) ?_
    rotate_left
    · (intro w hSw; (try dsimp only at hSw); go_simp; try with_reducible rfl)
    simp only [Act.put, List.setIfInBounds_toArray, List.set_cons_zero, List.set_cons_succ]
    refine take_at 4 (v := ?_) rfl (by kernel_rfl) (by kernel_rfl) (by kernel_rfl) (fun _ _ _ h => h) hHeld (Or.inl ⟨by rfl, ?_⟩) ?_
    rotate_left
    · (intro w hSw; (try dsimp only at hSw); go_simp; try with_reducible rfl)
    simp only [Act.put, List.setIfInBounds_toArray, List.set_cons_zero, List.set_cons_succ]
    refine take_at 5 (v := ?_) rfl (by kernel_rfl) (by kernel_rfl) (by kernel_rfl) (fun _ _ _ h => h) hHeld (Or.inl ⟨by rfl, ?_⟩) ?_
    rotate_left
    · (intro w hSw; (try dsimp only at hSw); go_simp; try with_reducible rfl)
    simp only [Act.put, List.setIfInBounds_toArray, List.set_cons_zero, List.set_cons_succ]
    refine take_at 6 (v := undef) rfl (by kernel_rfl) (by kernel_rfl) (by kernel_rfl) (fun _ _ _ h => h) hHeld (Or.inr ⟨by rfl, rfl⟩) ?_
    simp only [Act.put, List.setIfInBounds_toArray, List.set_cons_zero, List.set_cons_succ]
    refine take_at 7 (v := undef) rfl (by kernel_rfl) (by kernel_rfl) (by kernel_rfl) (fun _ _ _ h => h) hHeld (Or.inr ⟨by rfl, rfl⟩) ?_
    simp only [Act.put, List.setIfInBounds_toArray, List.set_cons_zero, List.set_cons_succ]
    refine take_at 8 (v := undef) rfl (by kernel_rfl) (by kernel_rfl) (by kernel_rfl) (fun _ _ _ h => h) hHeld (Or.inr ⟨by rfl, rfl⟩) ?_
    simp only [Act.put, List.setIfInBounds_toArray, List.set_cons_zero, List.set_cons_succ]
    refine take_at 9 (v := undef) rfl (by kernel_rfl) (by kernel_rfl) (by kernel_rfl) (fun _ _ _ h => h) hHeld (Or.inr ⟨by rfl, rfl⟩) ?_
    simp only [Act.put, List.setIfInBounds_toArray, List.set_cons_zero, List.set_cons_succ]
    refine take_at 10 (v := undef) rfl (by kernel_rfl) (by kernel_rfl) (by kernel_rfl) (fun _ _ _ h => h) hHeld (Or.inr ⟨by rfl, rfl⟩) ?_
    simp only [Act.put, List.setIfInBounds_toArray, List.set_cons_zero, List.set_cons_succ]
    refine take_at 11 (v := undef) rfl (by kernel_rfl) (by kernel_rfl) (by kernel_rfl) (fun _ _ _ h => h) hHeld (Or.inr ⟨by rfl, rfl⟩) ?_
    simp only [Act.put, List.setIfInBounds_toArray, List.set_cons_zero, List.set_cons_succ]
    refine take_at 12 (v := undef) rfl (by kernel_rfl) (by kernel_rfl) (by kernel_rfl) (fun _ _ _ h => h) hHeld (Or.inr ⟨by rfl, rfl⟩) ?_
    simp only [Act.put, List.setIfInBounds_toArray, List.set_cons_zero, List.set_cons_succ]
    refine take_at 13 (v := undef) rfl (by kernel_rfl) (by kernel_rfl) (by kernel_rfl) (fun _ _ _ h => h) hHeld (Or.inr ⟨by rfl, rfl⟩) ?_
    simp only [Act.put, List.setIfInBounds_toArray, List.set_cons_zero, List.set_cons_succ]
    refine take_at 14 (v := ?_) rfl (by kernel_rfl) (by kernel_rfl) (by kernel_rfl) (fun _ _ _ h => h) hHeld (Or.inl ⟨by rfl, ?_⟩) ?_
    rotate_left
    · (intro w hSw; (try dsimp only at hSw); go_simp; try with_reducible rfl)
    simp only [Act.put, List.setIfInBounds_toArray, List.set_cons_zero, List.set_cons_succ]
    refine wpAnyH_done (by kernel_rfl) ?_ _
    have HB2 : Hid (Below W7.heap.size W7 wr.drew.drew) := chainB HB.out BR2.out
    obtain ⟨y2, hy2⟩ : ∃ y2, y2 = wr.drew.drew := ⟨_, rfl⟩
    rw [← hy2] at HB2 ⊢
    clear HCf BR BR2 hy2
    by_cases h6 : rs.length = 6
    · skip
      have e1 : rpC rs hs R = 9 := by rw [HC.out, htb, if_pos h6]; rfl
      have dl : decide (6 ≤ (rs.length : Int)) = true := decide_eq_true (by omega)
      have HE1 : Hid (rpC rs hs R = 9) := e1
      clear e1 h6
      obtain ⟨zz0, zz1⟩ := HP.out y2 (chainB bw7.out HB2.out)
      go_wp2_with fail
      refine (l10Ill_any 9 y2).mono ?_
      rintro e wi ⟨rfl, bi⟩
      have bi := chainB (chainB bw7.out HB2.out) bi
      obtain ⟨r0, r1, r2, f0, f1, f2⟩ := HR.out wi bi
      have HE := HS3.out wi bi (.slice none 0 0) (.slice none 0 0) (.int .i64 9)
      go_wp2_with fail
      refine bodyPost_ret (v := .agg #[.slice none 0 0, .slice none 0 0, .int .i64 9]) (by simp [results, Try.results11, go_sem, r0, r1, r2]) rfl ?_
      refine ⟨.slice none 0 0, .slice none 0 0, by rw [HE1.out], ?_, HE⟩
      rw [HRr.out, HHr.out, HE1.out, if_neg (by omega), if_neg (by omega)]
      exact PolO.nil _ _
    · skip
      have e1 : rpC rs hs R = 0 := by rw [HC.out, htb, if_neg h6]; rfl
      have HE1 : Hid (rpC rs hs R = 0) := e1
      have HE2 : Hid (rpR rs hs R = rs.take rs.length ++ [R] ++ rs.drop rs.length) := by show _ = _; rw [HRr2.out e1, htb, if_neg (by simp)]
      have dl : decide (6 ≤ (rs.length : Int)) = false := decide_eq_false (by omega)
      clear e1
      rcases hA with ⟨rfl, hn0, rfl⟩ | ⟨b, off, rfl⟩
      · obtain rfl : rs = [] := List.length_eq_zero_iff.1 hn0
        simp only [List.length_nil] at HP X7 P7 LT1
        clear hn0 hTn hk hlt HT1 HT2 HT3 HT4 m1 n1 hl6 h6
        obtain ⟨W8, hW8⟩ : ∃ W8, W8 = y2.alloc (.cells #[] 28) := ⟨_, rfl⟩
        have HW8 : Hid (W8 = y2.alloc (.cells #[] 28)) := hW8
        have b8 : Below y2.heap.size y2 W8 := by rw [hW8]; exact (Below.refl _ _).alloc (Nat.le_refl _) _
        have O8 : W8.ownsRow y2.heap.size 28 4 (.slice (some ⟨y2.heap.size, 0, none⟩) 0 0) 0 [] := by rw [hW8]; exact own_empty _ _ _
        have by2 : Below W2.heap.size W2 y2 := chainB bw7.out HB2.out
        obtain ⟨i0, E⟩ := elR
        have s7 := HB2.out.size
        have hsz7 := HSZ7.out
        have lt1 := LT1.out
        obtain ⟨q9, d9, w9, AP1, O9, B9⟩ := app_own E 23 b8 O8 none 0 0 (rulRow ([] : List Rul)) (CelAt.nil _ _) (by rw [rulRow_len]; rfl) (oneR _) (by omega) (by omega)
        rw [List.nil_append] at O9
        obtain ⟨L1, hL1⟩ : ∃ L1, L1 = 0 + 0 := ⟨_, rfl⟩
        rw [← hL1] at O9 AP1
        obtain ⟨WA, hWA⟩ : ∃ WA, WA = w9.alloc (.cells #[.string R.k, .string R.f, .int .i64 R.l, .int .i64 R.m] 28) := ⟨_, rfl⟩
        have bA : Below w9.heap.size w9 WA := by rw [hWA]; exact (Below.refl _ _).alloc (Nat.le_refl _) _
        have VA : BlkU WA w9.heap.size [R] := by rw [hWA]; exact Bxs.new _ _ _
        obtain ⟨qB, dB, wB, AP2, OB, BB⟩ := app_own E 23 (chainB B9 bA) (ownS_below O9 bA) (some ⟨w9.heap.size, 0, none⟩) 1 1 (rulRow [R]) VA.at.cel rfl (oneR _) (by omega) (by omega)
        obtain ⟨L2, hL2⟩ : ∃ L2, L2 = L1 + 1 := ⟨_, rfl⟩
        rw [← hL2] at OB AP2
        obtain ⟨qC, dC, wC, AP3, OC, BC⟩ := app_own E 23 BB OB none 0 0 (rulRow ([] : List Rul)) (CelAt.nil _ _) (by rw [rulRow_len]; rfl) (oneR _) (by omega) (by omega)
        obtain ⟨L3, hL3⟩ : ∃ L3, L3 = L2 + 0 := ⟨_, rfl⟩
        rw [← hL3] at OC AP3
        have OC : wC.ownsRow y2.heap.size 28 4 (.slice qC L3 dC) ([R]).length (rulRow ([R])) := by
          have e : ([R]).length = L3 := by simp; omega
          rw [e]; exact OC
        have PC := (P7.out.below HB2.out).put1 BC OC (by omega)
        have XC := (X7.out.below HB2.out).below BC
        have R9 := K1.out.below (chainB by2 BC)
        have BCw : Below w.heap.size w wC := chainB (chainB B2.out by2) BC
        have nz : some w6.heap.size ≠ (Value.slice qC L3 dC).ownBlock := fun e => by have := (OC.lt _ e.symm).1; omega
        have nz2 : some w6.heap.size ≠ (Value.slice q2 hs.length d2').ownBlock := fun e => by have := (lt1.2 _ e.symm).2; omega
        have iC0 : wC.cell? ⟨w6.heap.size, 0, none⟩ = some (.slice q1 0 d1') := XC.cell 0
        have iC1 : wC.cell? ⟨w6.heap.size, 1, none⟩ = some (.slice q2 hs.length d2') := XC.cell 1
        have fi := XC.fr 0
        have r0 : wC.cell? ⟨w.heap.size + 1 + 1, 0, none⟩ = some (.slice none 0 0) := R9.cell 0
        have r1 : wC.cell? ⟨w.heap.size + 1 + 1, 1, none⟩ = some (.slice none 0 0) := R9.cell 1
        have r2 : wC.cell? ⟨w.heap.size + 1 + 1, 2, none⟩ = some (.int .i64 0) := R9.cell 2
        have f0 := R9.fr 0
        have f1 := R9.fr 1
        have f2 := R9.fr 2
        have HEnd : Hid (∀ a b c d : Value, PolO w.heap.size ([R]) hs (.slice qC L3 dC) (.slice q2 hs.length d2') ((((wC.setCell ⟨w6.heap.size, 0, none⟩ a).setCell ⟨w.heap.size + 1 + 1, 0, none⟩ b).setCell ⟨w.heap.size + 1 + 1, 1, none⟩ c).setCell ⟨w.heap.size + 1 + 1, 2, none⟩ d) ∧ Below w.heap.size w ((((wC.setCell ⟨w6.heap.size, 0, none⟩ a).setCell ⟨w.heap.size + 1 + 1, 0, none⟩ b).setCell ⟨w.heap.size + 1 + 1, 1, none⟩ c).setCell ⟨w.heap.size + 1 + 1, 2, none⟩ d)) := fun a b c d =>
          ⟨((((PC.setN nz nz2 0 a).set (by omega) 0 b).set (by omega) 1 c).set (by omega) 2 d).lower (by omega), (((BCw.setCell (by show w.heap.size ≤ w6.heap.size; omega) _).setCell (by show w.heap.size ≤ w.heap.size + 1 + 1; omega) _).setCell (by show w.heap.size ≤ w.heap.size + 1 + 1; omega) _).setCell (by show w.heap.size ≤ w.heap.size + 1 + 1; omega) _⟩
        have n9 : ¬ w6.heap.size = w.heap.size + 1 + 1 := by omega
        have n10 : ¬ w.heap.size + 1 + 1 = w6.heap.size := by omega
        have y5 : y2.cell? ⟨w.heap.size, 0, none⟩ = some (.slice none 0 0) := (HP.out y2 by2).1
        have y6 : W8.cell? ⟨w.heap.size, 0, none⟩ = some (.slice none 0 0) := (HP.out W8 (chainB by2 b8)).1
        have y8 : wB.cell? ⟨w.heap.size, 0, none⟩ = some (.slice none 0 0) := (HP.out wB (chainB by2 BB)).1
        obtain ⟨u0, u1, u2, u3⟩ := HPr.out w9 (chainB by2 B9)
        rw [hW8] at y6 AP1
        rw [hWA] at AP2
        clear PC XC R9 BCw nz nz2 OC BC O9 B9 O8 b8 by2 E hW8 hsz7 hL1 hL3 hL2 OB BB VA bA hWA lt1 s7 
        go_wp2_with (first | (at_builtin; refine wpList_app rfl (.tmp 62) (.tmp 66) 23 23 rfl _ _ _ _ rfl rfl AP1 ?_) | (at_builtin; refine wpList_app rfl (.tmp 68) (.tmp 70) 23 23 rfl _ _ _ _ rfl rfl AP2 ?_) | (at_builtin; refine wpList_app rfl (.tmp 72) (.tmp 76) 23 23 rfl _ _ _ _ rfl rfl AP3 ?_))
        refine bodyPost_ret (v := .agg #[.slice qC L3 dC, .slice q2 hs.length d2', .int .i64 0]) (by simp [results, Try.results11, go_sem, r0, r1, r2]) rfl ?_
        refine ⟨.slice qC L3 dC, .slice q2 hs.length d2', by rw [HE1.out], ?_⟩
        rw [HE2.out, HHr.out, HE1.out, if_pos rfl]
        exact HEnd.out _ _ _ _
      · by_cases hq : c1 = rs.length
        · subst hq
          obtain ⟨W8, hW8⟩ : ∃ W8, W8 = y2.alloc (.cells #[] 28) := ⟨_, rfl⟩
          have HW8 : Hid (W8 = y2.alloc (.cells #[] 28)) := hW8
          have b8 : Below y2.heap.size y2 W8 := by rw [hW8]; exact (Below.refl _ _).alloc (Nat.le_refl _) _
          have O8 : W8.ownsRow y2.heap.size 28 4 (.slice (some ⟨y2.heap.size, 0, none⟩) 0 0) 0 [] := by rw [hW8]; exact own_empty _ _ _
          have by2 : Below W2.heap.size W2 y2 := chainB bw7.out HB2.out
          obtain ⟨i0, E⟩ := elR
          have s7 := HB2.out.size
          have hsz7 := HSZ7.out
          have lt1 := LT1.out
          have HIc : ∀ x, Below W2.heap.size W2 x → CelAt x (some ⟨b, off, none⟩) (rulRow rs) := fun x hx => (HRu.out.below hx).cel
          obtain ⟨q9, d9, w9, AP1, O9, B9⟩ := app_own E 23 b8 O8 (some ⟨b, off, none⟩) rs.length rs.length (rulRow (rs.take rs.length)) (by rw [← rulRow_take]; exact (HIc W8 (chainB by2 b8)).take _) (by rw [rulRow_len, List.length_take]; omega) (oneR _) (by omega) (by omega)
          rw [List.nil_append] at O9
          obtain ⟨L1, hL1⟩ : ∃ L1, L1 = 0 + rs.length := ⟨_, rfl⟩
          rw [← hL1] at O9 AP1
          obtain ⟨WA, hWA⟩ : ∃ WA, WA = w9.alloc (.cells #[.string R.k, .string R.f, .int .i64 R.l, .int .i64 R.m] 28) := ⟨_, rfl⟩
          have bA : Below w9.heap.size w9 WA := by rw [hWA]; exact (Below.refl _ _).alloc (Nat.le_refl _) _
          have VA : BlkU WA w9.heap.size [R] := by rw [hWA]; exact Bxs.new _ _ _
          obtain ⟨qB, dB, wB, AP2, OB, BB⟩ := app_own E 23 (chainB B9 bA) (ownS_below O9 bA) (some ⟨w9.heap.size, 0, none⟩) 1 1 (rulRow [R]) VA.at.cel rfl (oneR _) (by omega) (by omega)
          obtain ⟨L2, hL2⟩ : ∃ L2, L2 = L1 + 1 := ⟨_, rfl⟩
          rw [← hL2] at OB AP2
          obtain ⟨qC, dC, wC, AP3, OC, BC⟩ := app_own E 23 BB OB (some ⟨b, off, none⟩) 0 0 (rulRow (rs.drop rs.length)) (fun j hj => by rw [rulRow_len, List.length_drop] at hj; omega) (by rw [rulRow_len, List.length_drop]; omega) (oneR _) (by omega) (by omega)
          obtain ⟨L3, hL3⟩ : ∃ L3, L3 = L2 + 0 := ⟨_, rfl⟩
          rw [← hL3] at OC AP3
          have OC : wC.ownsRow y2.heap.size 28 4 (.slice qC L3 dC) (rs.take rs.length ++ [R] ++ rs.drop rs.length).length (rulRow (rs.take rs.length ++ [R] ++ rs.drop rs.length)) := by
            have e : (rs.take rs.length ++ [R] ++ rs.drop rs.length).length = L3 := by simp only [List.length_append, List.length_take, List.length_drop, List.length_cons, List.length_nil]; omega
            rw [e, rulRow_append, rulRow_append]; exact OC
          have PC := (P7.out.below HB2.out).put1 BC OC (by omega)
          have XC := (X7.out.below HB2.out).below BC
          have R9 := K1.out.below (chainB by2 BC)
          have BCw : Below w.heap.size w wC := chainB (chainB B2.out by2) BC
          have nz : some w6.heap.size ≠ (Value.slice qC L3 dC).ownBlock := fun e => by have := (OC.lt _ e.symm).1; omega
          have nz2 : some w6.heap.size ≠ (Value.slice q2 hs.length d2').ownBlock := fun e => by have := (lt1.2 _ e.symm).2; omega
          have iC0 : wC.cell? ⟨w6.heap.size, 0, none⟩ = some (.slice q1 rs.length d1') := XC.cell 0
          have iC1 : wC.cell? ⟨w6.heap.size, 1, none⟩ = some (.slice q2 hs.length d2') := XC.cell 1
          have fi := XC.fr 0
          have r0 : wC.cell? ⟨w.heap.size + 1 + 1, 0, none⟩ = some (.slice none 0 0) := R9.cell 0
          have r1 : wC.cell? ⟨w.heap.size + 1 + 1, 1, none⟩ = some (.slice none 0 0) := R9.cell 1
          have r2 : wC.cell? ⟨w.heap.size + 1 + 1, 2, none⟩ = some (.int .i64 0) := R9.cell 2
          have f0 := R9.fr 0
          have f1 := R9.fr 1
          have f2 := R9.fr 2
          have HEnd : Hid (∀ a b c d : Value, PolO w.heap.size (rs.take rs.length ++ [R] ++ rs.drop rs.length) hs (.slice qC L3 dC) (.slice q2 hs.length d2') ((((wC.setCell ⟨w6.heap.size, 0, none⟩ a).setCell ⟨w.heap.size + 1 + 1, 0, none⟩ b).setCell ⟨w.heap.size + 1 + 1, 1, none⟩ c).setCell ⟨w.heap.size + 1 + 1, 2, none⟩ d) ∧ Below w.heap.size w ((((wC.setCell ⟨w6.heap.size, 0, none⟩ a).setCell ⟨w.heap.size + 1 + 1, 0, none⟩ b).setCell ⟨w.heap.size + 1 + 1, 1, none⟩ c).setCell ⟨w.heap.size + 1 + 1, 2, none⟩ d)) := fun a b c d =>
            ⟨((((PC.setN nz nz2 0 a).set (by omega) 0 b).set (by omega) 1 c).set (by omega) 2 d).lower (by omega), (((BCw.setCell (by show w.heap.size ≤ w6.heap.size; omega) _).setCell (by show w.heap.size ≤ w.heap.size + 1 + 1; omega) _).setCell (by show w.heap.size ≤ w.heap.size + 1 + 1; omega) _).setCell (by show w.heap.size ≤ w.heap.size + 1 + 1; omega) _⟩
          have n9 : ¬ w6.heap.size = w.heap.size + 1 + 1 := by omega
          have n10 : ¬ w.heap.size + 1 + 1 = w6.heap.size := by omega
          have y5 : y2.cell? ⟨w.heap.size, 0, none⟩ = some (.slice (some ⟨b, off, none⟩) rs.length rs.length) := (HP.out y2 by2).1
          have y6 : W8.cell? ⟨w.heap.size, 0, none⟩ = some (.slice (some ⟨b, off, none⟩) rs.length rs.length) := (HP.out W8 (chainB by2 b8)).1
          have y8 : wB.cell? ⟨w.heap.size, 0, none⟩ = some (.slice (some ⟨b, off, none⟩) rs.length rs.length) := (HP.out wB (chainB by2 BB)).1
          obtain ⟨u0, u1, u2, u3⟩ := HPr.out w9 (chainB by2 B9)
          rw [hW8] at y6 AP1
          rw [hWA] at AP2
          have kc : rs.length ≤ rs.length := by omega
          have kn : rs.length ≤ rs.length := by omega
          clear PC XC R9 BCw nz nz2 OC BC O9 B9 O8 b8 by2 E hW8 hsz7 hL1 hL3 hL2 OB BB VA bA hWA lt1 s7 HIc
          go_wp2_with (first | (at_builtin; refine wpList_app rfl (.tmp 62) (.tmp 66) 23 23 rfl _ _ _ _ rfl rfl AP1 ?_) | (at_builtin; refine wpList_app rfl (.tmp 68) (.tmp 70) 23 23 rfl _ _ _ _ rfl rfl AP2 ?_) | (at_builtin; refine wpList_app rfl (.tmp 72) (.tmp 76) 23 23 rfl _ _ _ _ rfl rfl AP3 ?_))
          refine bodyPost_ret (v := .agg #[.slice qC L3 dC, .slice q2 hs.length d2', .int .i64 0]) (by simp [results, Try.results11, go_sem, r0, r1, r2]) rfl ?_
          refine ⟨.slice qC L3 dC, .slice q2 hs.length d2', by rw [HE1.out], ?_⟩
          rw [HE2.out, HHr.out, HE1.out, if_pos rfl]
          exact HEnd.out _ _ _ _
        · skip
          obtain ⟨W8, hW8⟩ : ∃ W8, W8 = y2.alloc (.cells #[] 28) := ⟨_, rfl⟩
          have HW8 : Hid (W8 = y2.alloc (.cells #[] 28)) := hW8
          have b8 : Below y2.heap.size y2 W8 := by rw [hW8]; exact (Below.refl _ _).alloc (Nat.le_refl _) _
          have O8 : W8.ownsRow y2.heap.size 28 4 (.slice (some ⟨y2.heap.size, 0, none⟩) 0 0) 0 [] := by rw [hW8]; exact own_empty _ _ _
          have by2 : Below W2.heap.size W2 y2 := chainB bw7.out HB2.out
          obtain ⟨i0, E⟩ := elR
          have s7 := HB2.out.size
          have hsz7 := HSZ7.out
          have lt1 := LT1.out
          have HIc : ∀ x, Below W2.heap.size W2 x → CelAt x (some ⟨b, off, none⟩) (rulRow rs) := fun x hx => (HRu.out.below hx).cel
          obtain ⟨q9, d9, w9, AP1, O9, B9⟩ := app_own E 23 b8 O8 (some ⟨b, off, none⟩) rs.length c1 (rulRow (rs.take rs.length)) (by rw [← rulRow_take]; exact (HIc W8 (chainB by2 b8)).take _) (by rw [rulRow_len, List.length_take]; omega) (oneR _) (by omega) (by omega)
          rw [List.nil_append] at O9
          obtain ⟨L1, hL1⟩ : ∃ L1, L1 = 0 + rs.length := ⟨_, rfl⟩
          rw [← hL1] at O9 AP1
          obtain ⟨WA, hWA⟩ : ∃ WA, WA = w9.alloc (.cells #[.string R.k, .string R.f, .int .i64 R.l, .int .i64 R.m] 28) := ⟨_, rfl⟩
          have bA : Below w9.heap.size w9 WA := by rw [hWA]; exact (Below.refl _ _).alloc (Nat.le_refl _) _
          have VA : BlkU WA w9.heap.size [R] := by rw [hWA]; exact Bxs.new _ _ _
          obtain ⟨qB, dB, wB, AP2, OB, BB⟩ := app_own E 23 (chainB B9 bA) (ownS_below O9 bA) (some ⟨w9.heap.size, 0, none⟩) 1 1 (rulRow [R]) VA.at.cel rfl (oneR _) (by omega) (by omega)
          obtain ⟨L2, hL2⟩ : ∃ L2, L2 = L1 + 1 := ⟨_, rfl⟩
          rw [← hL2] at OB AP2
          obtain ⟨qC, dC, wC, AP3, OC, BC⟩ := app_own E 23 BB OB (some ⟨b, off + rs.length * 4, none⟩) 0 (c1 - rs.length) (rulRow (rs.drop rs.length)) (fun j hj => by rw [rulRow_len, List.length_drop] at hj; omega) (by rw [rulRow_len, List.length_drop]; omega) (oneR _) (by omega) (by omega)
          obtain ⟨L3, hL3⟩ : ∃ L3, L3 = L2 + 0 := ⟨_, rfl⟩
          rw [← hL3] at OC AP3
          have OC : wC.ownsRow y2.heap.size 28 4 (.slice qC L3 dC) (rs.take rs.length ++ [R] ++ rs.drop rs.length).length (rulRow (rs.take rs.length ++ [R] ++ rs.drop rs.length)) := by
            have e : (rs.take rs.length ++ [R] ++ rs.drop rs.length).length = L3 := by simp only [List.length_append, List.length_take, List.length_drop, List.length_cons, List.length_nil]; omega
            rw [e, rulRow_append, rulRow_append]; exact OC
          have PC := (P7.out.below HB2.out).put1 BC OC (by omega)
          have XC := (X7.out.below HB2.out).below BC
          have R9 := K1.out.below (chainB by2 BC)
          have BCw : Below w.heap.size w wC := chainB (chainB B2.out by2) BC
          have nz : some w6.heap.size ≠ (Value.slice qC L3 dC).ownBlock := fun e => by have := (OC.lt _ e.symm).1; omega
          have nz2 : some w6.heap.size ≠ (Value.slice q2 hs.length d2').ownBlock := fun e => by have := (lt1.2 _ e.symm).2; omega
          have iC0 : wC.cell? ⟨w6.heap.size, 0, none⟩ = some (.slice q1 rs.length d1') := XC.cell 0
          have iC1 : wC.cell? ⟨w6.heap.size, 1, none⟩ = some (.slice q2 hs.length d2') := XC.cell 1
          have fi := XC.fr 0
          have r0 : wC.cell? ⟨w.heap.size + 1 + 1, 0, none⟩ = some (.slice none 0 0) := R9.cell 0
          have r1 : wC.cell? ⟨w.heap.size + 1 + 1, 1, none⟩ = some (.slice none 0 0) := R9.cell 1
          have r2 : wC.cell? ⟨w.heap.size + 1 + 1, 2, none⟩ = some (.int .i64 0) := R9.cell 2
          have f0 := R9.fr 0
          have f1 := R9.fr 1
          have f2 := R9.fr 2
          have HEnd : Hid (∀ a b c d : Value, PolO w.heap.size (rs.take rs.length ++ [R] ++ rs.drop rs.length) hs (.slice qC L3 dC) (.slice q2 hs.length d2') ((((wC.setCell ⟨w6.heap.size, 0, none⟩ a).setCell ⟨w.heap.size + 1 + 1, 0, none⟩ b).setCell ⟨w.heap.size + 1 + 1, 1, none⟩ c).setCell ⟨w.heap.size + 1 + 1, 2, none⟩ d) ∧ Below w.heap.size w ((((wC.setCell ⟨w6.heap.size, 0, none⟩ a).setCell ⟨w.heap.size + 1 + 1, 0, none⟩ b).setCell ⟨w.heap.size + 1 + 1, 1, none⟩ c).setCell ⟨w.heap.size + 1 + 1, 2, none⟩ d)) := fun a b c d =>
            ⟨((((PC.setN nz nz2 0 a).set (by omega) 0 b).set (by omega) 1 c).set (by omega) 2 d).lower (by omega), (((BCw.setCell (by show w.heap.size ≤ w6.heap.size; omega) _).setCell (by show w.heap.size ≤ w.heap.size + 1 + 1; omega) _).setCell (by show w.heap.size ≤ w.heap.size + 1 + 1; omega) _).setCell (by show w.heap.size ≤ w.heap.size + 1 + 1; omega) _⟩
          have n9 : ¬ w6.heap.size = w.heap.size + 1 + 1 := by omega
          have n10 : ¬ w.heap.size + 1 + 1 = w6.heap.size := by omega
          have y5 : y2.cell? ⟨w.heap.size, 0, none⟩ = some (.slice (some ⟨b, off, none⟩) rs.length c1) := (HP.out y2 by2).1
          have y6 : W8.cell? ⟨w.heap.size, 0, none⟩ = some (.slice (some ⟨b, off, none⟩) rs.length c1) := (HP.out W8 (chainB by2 b8)).1
          have y8 : wB.cell? ⟨w.heap.size, 0, none⟩ = some (.slice (some ⟨b, off, none⟩) rs.length c1) := (HP.out wB (chainB by2 BB)).1
          obtain ⟨u0, u1, u2, u3⟩ := HPr.out w9 (chainB by2 B9)
          rw [hW8] at y6 AP1
          rw [hWA] at AP2
          have kc : rs.length ≤ c1 := by omega
          have kn : rs.length ≤ rs.length := by omega
          clear PC XC R9 BCw nz nz2 OC BC O9 B9 O8 b8 by2 E hW8 hsz7 hL1 hL3 hL2 OB BB VA bA hWA lt1 s7 HIc
          go_wp2_with (first | (at_builtin; refine wpList_app rfl (.tmp 62) (.tmp 66) 23 23 rfl _ _ _ _ rfl rfl AP1 ?_) | (at_builtin; refine wpList_app rfl (.tmp 68) (.tmp 70) 23 23 rfl _ _ _ _ rfl rfl AP2 ?_) | (at_builtin; refine wpList_app rfl (.tmp 72) (.tmp 76) 23 23 rfl _ _ _ _ rfl rfl AP3 ?_))
          refine bodyPost_ret (v := .agg #[.slice qC L3 dC, .slice q2 hs.length d2', .int .i64 0]) (by simp [results, Try.results11, go_sem, r0, r1, r2]) rfl ?_
          refine ⟨.slice qC L3 dC, .slice q2 hs.length d2', by rw [HE1.out], ?_⟩
          rw [HE2.out, HHr.out, HE1.out, if_pos rfl]
          exact HEnd.out _ _ _ _
end Go.Proofs.Ytbgpkngnlfafcaa
/-
  What the specification's RuleDrop answers.
  Conditions: the cells of Rules and Held hold the rules and numbers.
-/
namespace Go.Proofs.Ytbgpkngnlfafcaa
open Go.RowKit Go.Lib
set_option linter.unusedVariables false
set_option maxRecDepth 20000

set_option maxHeartbeats 8000000 in
theorem specRuleDrop_any (p1 p2 : Option Addr) (c1 c2 : Nat) (rs : List Rul) (hs : List Int) (k f : ByteArray) (w : World) (hr : RulAt w p1 rs) (hh : IntAt w p2 hs) (n1 : rs.length ≤ 1048576) (n2 : hs.length ≤ 1048576) (m1 : rs.length ≤ c1) (m2 : hs.length ≤ c2) (hz : RulsLe rs) (hk : k.size ≤ 1048576) (hf : f.size ≤ 1048576) :
    Calls Try.prog 13 #[.agg #[.slice p1 rs.length c1, .slice p2 hs.length c2], .string k, .string f] w fun e w' => ∃ v1 v2, e = .returned (.agg #[v1, v2, .int .i64 (rdC rs hs k f)]) ∧ PolO w.heap.size (rdR rs hs k f) (rdH rs hs k f) v1 v2 w' ∧ Below w.heap.size w w' := by
  have HC : Hid (rdC rs hs k f = if 8000 < k.size ∨ 8000 < f.size then 2 else if polB rs hs = true then (if rdB rs k f = true then 0 else 6) else 1) := rfl
  have HRr : Hid (rdR rs hs k f = if rdC rs hs k f = 0 then rs.take (rdT rs k f) ++ rs.drop (rdT rs k f + 1) else []) := rfl
  have HHr : Hid (rdH rs hs k f = if rdC rs hs k f = 0 then hs else []) := rfl
  obtain ⟨W2, hW2⟩ : ∃ W2, W2 = (w.alloc (.cells #[.slice p1 rs.length c1, .slice p2 hs.length c2] 26)).alloc (.cells #[.slice none 0 0, .slice none 0 0, .int .i64 0] 32) := ⟨_, rfl⟩
  have HW2 : Hid (W2 = (w.alloc (.cells #[.slice p1 rs.length c1, .slice p2 hs.length c2] 26)).alloc (.cells #[.slice none 0 0, .slice none 0 0, .int .i64 0] 32)) := hW2
  have hs1 : (w.alloc (.cells #[.slice p1 rs.length c1, .slice p2 hs.length c2] 26)).heap.size = w.heap.size + 1 := by simp
  have HS2 : Hid (W2.heap.size = w.heap.size + 2) := by rw [hW2]; show _ = _; simp
  have K0 : Hid (Bxs W2 w.heap.size 26 #[.slice p1 rs.length c1, .slice p2 hs.length c2]) := by rw [hW2]; exact (Bxs.new _ _ _).alloc _
  have K1 : Hid (Bxs W2 (w.heap.size + 1) 32 #[.slice none 0 0, .slice none 0 0, .int .i64 0]) := by rw [hW2, ← hs1]; exact Bxs.new _ _ _
  have B2 : Hid (Below w.heap.size w W2) := by rw [hW2]; exact ((Below.refl _ _).alloc (Nat.le_refl _) _).alloc (by rw [hs1]; omega) _
  have HP : Hid (∀ x, Below W2.heap.size W2 x → x.cell? ⟨w.heap.size, 0, none⟩ = some (.slice p1 rs.length c1) ∧ x.cell? ⟨w.heap.size, 1, none⟩ = some (.slice p2 hs.length c2)) := fun x hb => (K0.out.below hb).two
  have HR : Hid (∀ x, Below W2.heap.size W2 x → x.cell? ⟨w.heap.size + 1, 0, none⟩ = some (.slice none 0 0) ∧ x.cell? ⟨w.heap.size + 1, 1, none⟩ = some (.slice none 0 0) ∧ x.cell? ⟨w.heap.size + 1, 2, none⟩ = some (.int .i64 0) ∧ x.frozen? ⟨w.heap.size + 1, 0, none⟩ = false ∧ x.frozen? ⟨w.heap.size + 1, 1, none⟩ = false ∧ x.frozen? ⟨w.heap.size + 1, 2, none⟩ = false) := fun x hb => ⟨(K1.out.below hb).cell 0, (K1.out.below hb).cell 1, (K1.out.below hb).cell 2, (K1.out.below hb).fr 0, (K1.out.below hb).fr 1, (K1.out.below hb).fr 2⟩
  have HS3 : Hid (∀ x, Below W2.heap.size W2 x → ∀ a b c : Value, Below w.heap.size w (((x.setCell ⟨w.heap.size + 1, 0, none⟩ a).setCell ⟨w.heap.size + 1, 1, none⟩ b).setCell ⟨w.heap.size + 1, 2, none⟩ c)) := fun x hb a b c => (((chainB B2.out hb).setCell (by show w.heap.size ≤ w.heap.size + 1; omega) _).setCell (by show w.heap.size ≤ w.heap.size + 1; omega) _).setCell (by show w.heap.size ≤ w.heap.size + 1; omega) _
  have HRu : Hid (RulAt W2 p1 rs) := hr.below B2.out
  have HIn : Hid (IntAt W2 p2 hs) := hh.below B2.out
  obtain ⟨x0, x1⟩ := HP.out W2 (Below.refl _ _)
  have y0 := x0
  have y1 := x1
  rw [hW2] at y0 y1
  have hQ := specPolicyRight_any p1 p2 c1 c2 rs hs W2 HRu.out HIn.out n1 n2 m1 m2 hz
  have HHe : Hid (∀ x, Below W2.heap.size W2 x → Calls Try.prog 37 #[.agg #[.slice p1 rs.length c1, .slice p2 hs.length c2], .string k, .string f] x fun e w' => e = .returned (.int .i64 (fstI (eqR k f) rs)) ∧ Below x.heap.size x w') := fun x hb => l10Of_any p1 p2 hs.length c1 c2 rs k f x (HRu.out.below hb) n1 m1
  have HCp : Hid (∀ x, Below W2.heap.size W2 x → Calls Try.prog 34 #[.agg #[.slice p1 rs.length c1, .slice p2 hs.length c2]] x fun e w' => ∃ v1 v2, e = .returned (.agg #[v1, v2]) ∧ PolO x.heap.size rs hs v1 v2 w' ∧ Below x.heap.size x w') := fun x hb => l10Copy_any p1 c1 rs p2 c2 hs x (HRu.out.below hb) (HIn.out.below hb) n1 n2 m1 m2
  have HRw : Hid (RulAt w p1 rs) := hr
  clear hW2 hs1 hr hh hz
  by_cases hb1 : 8000 < k.size
  · have e1 : rdC rs hs k f = 2 := by rw [HC.out, if_pos (.inl hb1)]
    rw [HRr.out, HHr.out, e1, if_neg (by omega), if_neg (by omega)]
    have d1 : decide (8000 < (k.size : Int)) = true := decide_eq_true (by omega)
    clear HC HRr HHr e1 hQ
    go_enter Try.func13, Try.ntmps13
    go_wp2_with fail
    rw [← HW2.out]
    refine (l10Ill_any 2 W2).mono ?_
    rintro e wi ⟨rfl, bi⟩
    obtain ⟨r0, r1, r2, f0, f1, f2⟩ := HR.out wi bi
    have HE := HS3.out wi bi (.slice none 0 0) (.slice none 0 0) (.int .i64 2)
    go_wp2_with fail
    refine bodyPost_ret (v := .agg #[.slice none 0 0, .slice none 0 0, .int .i64 2]) (by simp [results, Try.results13, go_sem, r0, r1, r2]) rfl ?_
    exact ⟨_, _, rfl, PolO.nil _ _, HE⟩
  have d1 : decide (8000 < (k.size : Int)) = false := decide_eq_false (by omega)
  by_cases hb2 : 8000 < f.size
  · have e1 : rdC rs hs k f = 2 := by rw [HC.out, if_pos (.inr hb2)]
    rw [HRr.out, HHr.out, e1, if_neg (by omega), if_neg (by omega)]
    have d2 : decide (8000 < (f.size : Int)) = true := decide_eq_true (by omega)
    clear HC HRr HHr e1 hQ
    go_enter Try.func13, Try.ntmps13
    go_wp2_with fail
    rw [← HW2.out]
    refine (l10Ill_any 2 W2).mono ?_
    rintro e wi ⟨rfl, bi⟩
    obtain ⟨r0, r1, r2, f0, f1, f2⟩ := HR.out wi bi
    have HE := HS3.out wi bi (.slice none 0 0) (.slice none 0 0) (.int .i64 2)
    go_wp2_with fail
    refine bodyPost_ret (v := .agg #[.slice none 0 0, .slice none 0 0, .int .i64 2]) (by simp [results, Try.results13, go_sem, r0, r1, r2]) rfl ?_
    exact ⟨_, _, rfl, PolO.nil _ _, HE⟩
  have d2 : decide (8000 < (f.size : Int)) = false := decide_eq_false (by omega)
  rw [if_neg (by omega)] at HC
  cases hpb : polB rs hs with
  | false =>
    have e1 : rdC rs hs k f = 1 := by rw [HC.out, hpb]; rfl
    rw [HRr.out, HHr.out, e1, if_neg (by omega), if_neg (by omega)]
    rw [hpb] at hQ
    clear HC HRr HHr e1
    go_enter Try.func13, Try.ntmps13
    go_wp2_with fail
    rw [← HW2.out]
    refine hQ.mono ?_
    rintro e w3 ⟨rfl, b3⟩
    go_wp2_with fail
    refine (l10Ill_any 1 w3).mono ?_
    rintro e wi ⟨rfl, bi⟩
    have bi := chainB b3 bi
    obtain ⟨r0, r1, r2, f0, f1, f2⟩ := HR.out wi bi
    have HE := HS3.out wi bi (.slice none 0 0) (.slice none 0 0) (.int .i64 1)
    go_wp2_with fail
    refine bodyPost_ret (v := .agg #[.slice none 0 0, .slice none 0 0, .int .i64 1]) (by simp [results, Try.results13, go_sem, r0, r1, r2]) rfl ?_
    exact ⟨_, _, rfl, PolO.nil _ _, HE⟩
  | true =>
  obtain ⟨hl6, ho1, ho2, hh6, hsz⟩ := polB_parts hpb
  rw [hpb] at hQ
  rw [if_pos hpb] at HC
  have hTn : rdT rs k f ≤ rs.length := tw_le _ _
  have HTl : Hid (rdB rs k f = true → rdT rs k f < rs.length) := fun h => there_lt h
  have HF : Hid (fstI (eqR k f) rs = if rdB rs k f = true then (rdT rs k f : Int) else -1) := fst_there (condR ho1 k f)
  cases htb : rdB rs k f with
  | false =>
    have e1 : rdC rs hs k f = 6 := by rw [HC.out, htb]; rfl
    rw [HRr.out, HHr.out, e1, if_neg (by omega), if_neg (by omega)]
    rw [HF.out, htb, if_neg (by simp)] at HHe
    generalize rdT rs k f = T at *
    clear HC HRr HHr e1 HF
    go_enter Try.func13, Try.ntmps13
    go_wp2_with fail
    rw [← HW2.out]
    refine hQ.mono ?_
    rintro e w3 ⟨rfl, b3⟩
    obtain ⟨z0, z1⟩ := HP.out w3 b3
    go_wp2_with fail
    refine (HHe.out w3 b3).mono ?_
    rintro e w5 ⟨rfl, b5⟩
    have b5 := chainB b3 b5
    go_wp2_with fail
    refine (l10Ill_any 6 w5).mono ?_
    rintro e wi ⟨rfl, bi⟩
    have bi := chainB b5 bi
    obtain ⟨r0, r1, r2, f0, f1, f2⟩ := HR.out wi bi
    have HE := HS3.out wi bi (.slice none 0 0) (.slice none 0 0) (.int .i64 6)
    go_wp2_with fail
    refine bodyPost_ret (v := .agg #[.slice none 0 0, .slice none 0 0, .int .i64 6]) (by simp [results, Try.results13, go_sem, r0, r1, r2]) rfl ?_
    exact ⟨_, _, rfl, PolO.nil _ _, HE⟩
  | true =>
    have e1 : rdC rs hs k f = 0 := by rw [HC.out, htb]; rfl
    rw [HRr.out, HHr.out, e1, if_pos rfl, if_pos rfl]
    rw [HF.out, htb, if_pos rfl] at HHe
    have hTl := HTl.out htb
    generalize rdT rs k f = T at *
    clear HC HRr HHr e1 HTl HF
    have hT0 : decide ((T : Int) < 0) = false := decide_eq_false (by omega)
    go_enter Try.func13, Try.ntmps13
    go_wp2_with fail
    rw [← HW2.out]
    refine hQ.mono ?_
    rintro e w3 ⟨rfl, b3⟩
    obtain ⟨z0, z1⟩ := HP.out w3 b3
    go_wp2_with fail
    refine (HHe.out w3 b3).mono ?_
    rintro e w5 ⟨rfl, b5⟩
    have b5 := chainB b3 b5
    obtain ⟨b, off, rfl, -⟩ := HRu.out.some_of (by omega)
    clear z0 z1
    obtain ⟨z0, z1⟩ := HP.out w5 b5
    go_wp2_with fail
    refine (HCp.out w5 b5).mono ?_
    rintro e w6 ⟨v1, v2, rfl, PO, b6⟩
    obtain ⟨q1, d1', q2, d2', rfl, rfl, l1, l2⟩ := PO.form
    obtain ⟨W7, hW7⟩ : ∃ W7, W7 = w6.alloc (.cells #[.slice q1 rs.length d1', .slice q2 hs.length d2'] 26) := ⟨_, rfl⟩
    have b7 : Below w6.heap.size w6 W7 := by rw [hW7]; exact (Below.refl _ _).alloc (Nat.le_refl _) _
    have X7 : Bxs W7 w6.heap.size 26 #[.slice q1 rs.length d1', .slice q2 hs.length d2'] := by rw [hW7]; exact Bxs.new _ _ _
    have P7 := PO.below b7
    have bw7 : Below W2.heap.size W2 W7 := chainB b5 (chainB b6 b7)
    have s6 := b6.size
    have s5 := b5.size
    have hS2 := HS2.out
    have lt1 := PO.lt
    have nz2 : some w6.heap.size ≠ (Value.slice q2 hs.length d2').ownBlock := fun e => by have := (lt1.2 _ e.symm).2; omega
    obtain ⟨i0, E⟩ := elR
    obtain ⟨W8, hW8⟩ : ∃ W8, W8 = W7.alloc (.cells #[] 28) := ⟨_, rfl⟩
    have b8 : Below W7.heap.size W7 W8 := by rw [hW8]; exact (Below.refl _ _).alloc (Nat.le_refl _) _
    have hsz7 : W7.heap.size = w6.heap.size + 1 := by rw [hW7]; simp
    have O8 : W8.ownsRow W7.heap.size 28 4 (.slice (some ⟨W7.heap.size, 0, none⟩) 0 0) 0 [] := by rw [hW8]; exact own_empty _ _ _
    have HIc : ∀ x, Below W2.heap.size W2 x → CelAt x (some ⟨b, off, none⟩) (rulRow rs) := fun x hx => (HRu.out.below hx).cel
    obtain ⟨q9, d9, w9, AP1, O9, B9⟩ := app_own E 23 b8 O8 (some ⟨b, off, none⟩) T c1 (rulRow (rs.take T)) (by rw [← rulRow_take]; exact (HIc W8 (chainB bw7 b8)).take _) (by rw [rulRow_len, List.length_take]; omega) (oneR _) (by omega) (by omega)
    rw [List.nil_append] at O9
    obtain ⟨L1, hL1⟩ : ∃ L1, L1 = 0 + T := ⟨_, rfl⟩
    rw [← hL1] at O9 AP1
    have X9 := X7.below B9
    have i90 : w9.cell? ⟨w6.heap.size, 0, none⟩ = some (.slice q1 rs.length d1') := X9.cell 0
    have fi9 := X9.fr 0
    obtain ⟨W9, hW9⟩ : ∃ W9, W9 = w9.setCell ⟨w6.heap.size, 0, none⟩ (.slice q9 L1 d9) := ⟨_, rfl⟩
    have HW9 : Hid (W9 = w9.setCell ⟨w6.heap.size, 0, none⟩ (.slice q9 L1 d9)) := hW9
    have XW9 : Bxs W9 w6.heap.size 26 #[.slice q9 L1 d9, .slice q2 hs.length d2'] := by rw [hW9]; exact X9.set 0 _
    have nz9 : some w6.heap.size ≠ (Value.slice q9 L1 d9).ownBlock := fun e => by have := (O9.lt _ e.symm).1; omega
    have OW9 : W9.ownsRow W7.heap.size 28 4 (.slice q9 L1 d9) L1 (rulRow (rs.take T)) := by rw [hW9]; exact own_setO O9 _ _ nz9 _
    have o9' : w9.ownsRow W7.heap.size 28 4 (.slice q9 L1 d9) (rs.take T).length (rulRow (rs.take T)) := by
      have e : (rs.take T).length = L1 := by rw [List.length_take]; omega
      rw [e]; exact O9
    have P9 : PolO w5.heap.size (rs.take T) hs (.slice q9 L1 d9) (.slice q2 hs.length d2') W9 := by rw [hW9]; exact (P7.put1 B9 o9' (by omega)).setN nz9 nz2 0 _
    have RW9 : Bxs W9 (w.heap.size + 1) 32 #[.slice none 0 0, .slice none 0 0, .int .i64 0] := by rw [hW9]; exact ((K1.out.below bw7).below B9).other _ _ (by omega) _
    have PW9 : Bxs W9 w.heap.size 26 #[.slice (some ⟨b, off, none⟩) rs.length c1, .slice p2 hs.length c2] := by rw [hW9]; exact ((K0.out.below bw7).below B9).other _ _ (by omega) _
    have BW9 : Below w.heap.size w W9 := by rw [hW9]; exact (chainB (chainB B2.out bw7) B9).setCell (by show w.heap.size ≤ w6.heap.size; omega) _
    have HIc : ∀ x, Below w.heap.size w x → CelAt x (some ⟨b, off, none⟩) (rulRow rs) := fun x hx => (HRw.out.below hx).cel
    have y6 : W8.cell? ⟨w.heap.size, 0, none⟩ = some (.slice (some ⟨b, off, none⟩) rs.length c1) := (HP.out W8 (chainB bw7 b8)).1
    rw [hsz7, hW8, hW7] at AP1
    rw [hW8, hW7] at y6
    have kc : T ≤ c1 := by omega
    have hsz7' : W7.heap.size = w6.heap.size + 1 := hsz7
    obtain ⟨J, hJ⟩ : ∃ J, J = T + 1 := ⟨_, rfl⟩
    have hJn : (J : Int) ≤ (rs.length : Int) := by omega
    have hJw : IntKind.i64.wrap ((T : Int) + 1) = (J : Int) := by rw [IntKind.wrap_i64]; omega
    have hTl' := hTl
    clear hW7 hW8 hW9 o9' nz9 O8
    by_cases hq : c1 = J
    · subst hq
      obtain ⟨vC, wC, AP3, OC, gC, liC⟩ := app_cel E 23 W9.drew w5.heap.size (.slice q9 L1 d9) (rs.take T).length (rulRow (rs.take T)) (show W9.drew.ownsRow _ _ _ _ _ _ from P9.own1) (some ⟨b, off, none⟩) 0 0 (rulRow (rs.drop (T + 1))) (fun j hj => by rw [rulRow_len, List.length_drop] at hj; omega) (by rw [rulRow_len, List.length_drop]; omega) (oneR _) (by rw [List.length_take]; omega) (by rw [List.length_take]; unfold maxLen; omega) (by rw [szD]; have := XW9.lt; omega)
      obtain ⟨qC, dC, rfl, -⟩ := own_form OC
      obtain ⟨L3, hL3⟩ : ∃ L3, L3 = (rs.take T).length + 0 := ⟨_, rfl⟩
      rw [← hL3] at OC AP3 liC
      rw [← rulRow_append] at OC
      have hLe : (rs.take T ++ rs.drop (T + 1)).length = L3 := by rw [hL3]; simp only [List.length_append, List.length_take, List.length_drop]; omega
      have OC : wC.ownsRow w5.heap.size 28 4 (.slice qC L3 dC) (rs.take T ++ rs.drop (T + 1)).length (rulRow (rs.take T ++ rs.drop (T + 1))) := by rw [hLe]; exact OC
      have PC := (show PolO w5.heap.size (rs.take T) hs (.slice q9 L1 d9) (.slice q2 hs.length d2') W9.drew from ⟨P9.own1, P9.own2, P9.ne⟩).new1 gC OC liC
      have nq : ∀ g, g < W7.heap.size → some g ≠ (Value.slice q9 L1 d9).ownBlock := fun g hg e => by have := (O9.lt _ e.symm).1; omega
      have XC := (show Bxs W9.drew w6.heap.size 26 #[.slice q9 L1 d9, .slice q2 hs.length d2'] from XW9).grown gC (nq _ (by omega))
      have RC := (show Bxs W9.drew (w.heap.size + 1) 32 #[.slice none 0 0, .slice none 0 0, .int .i64 0] from RW9).grown gC (nq _ (by omega))
      have QC := (show Bxs W9.drew w.heap.size 26 #[.slice (some ⟨b, off, none⟩) rs.length c1, .slice p2 hs.length c2] from PW9).grown gC (nq _ (by omega))
      have BCw : Below w.heap.size w wC := (BW9.drew).grown gC (by rw [szD]; have := XW9.lt; omega) (fun j hj => by have := (O9.lt _ hj).1; omega)
      have iC0 : wC.cell? ⟨w6.heap.size, 0, none⟩ = some (.slice q9 L1 d9) := XC.cell 0
      have iC1 : wC.cell? ⟨w6.heap.size, 1, none⟩ = some (.slice q2 hs.length d2') := XC.cell 1
      have iCp : wC.cell? ⟨w.heap.size, 0, none⟩ = some (.slice (some ⟨b, off, none⟩) rs.length c1) := QC.cell 0
      have fi := XC.fr 0
      have r0 : wC.cell? ⟨w.heap.size + 1, 0, none⟩ = some (.slice none 0 0) := RC.cell 0
      have r1 : wC.cell? ⟨w.heap.size + 1, 1, none⟩ = some (.slice none 0 0) := RC.cell 1
      have r2 : wC.cell? ⟨w.heap.size + 1, 2, none⟩ = some (.int .i64 0) := RC.cell 2
      have f0 := RC.fr 0
      have f1 := RC.fr 1
      have f2 := RC.fr 2
      have nz : some w6.heap.size ≠ (Value.slice qC L3 dC).ownBlock := fun e => by
        rcases liC _ e.symm with q | q
        · exact nq _ (by omega) q.symm
        · rw [szD] at q; have := XW9.lt; omega
      have HEnd : Hid (∀ a b c d : Value, PolO w.heap.size (rs.take T ++ rs.drop (T + 1)) hs (.slice qC L3 dC) (.slice q2 hs.length d2') ((((wC.setCell ⟨w6.heap.size, 0, none⟩ a).setCell ⟨w.heap.size + 1, 0, none⟩ b).setCell ⟨w.heap.size + 1, 1, none⟩ c).setCell ⟨w.heap.size + 1, 2, none⟩ d) ∧ Below w.heap.size w ((((wC.setCell ⟨w6.heap.size, 0, none⟩ a).setCell ⟨w.heap.size + 1, 0, none⟩ b).setCell ⟨w.heap.size + 1, 1, none⟩ c).setCell ⟨w.heap.size + 1, 2, none⟩ d)) := fun a b c d =>
        ⟨((((PC.setN nz nz2 0 a).set (by omega) 0 b).set (by omega) 1 c).set (by omega) 2 d).lower (by omega), (((BCw.setCell (by show w.heap.size ≤ w6.heap.size; omega) _).setCell (by show w.heap.size ≤ w.heap.size + 1; omega) _).setCell (by show w.heap.size ≤ w.heap.size + 1; omega) _).setCell (by show w.heap.size ≤ w.heap.size + 1; omega) _⟩
      have n9 : ¬ w6.heap.size = w.heap.size + 1 := by omega
      have n10 : ¬ w.heap.size + 1 = w6.heap.size := by omega
      have iZ : W9.drew.cell? ⟨w6.heap.size, 0, none⟩ = some (.slice q9 L1 d9) := XW9.cell 0
      have iP : W9.drew.cell? ⟨w.heap.size, 0, none⟩ = some (.slice (some ⟨b, off, none⟩) rs.length c1) := PW9.cell 0
      clear PC OC RC XC QC BCw nz hL1 hL3 hLe hsz7 hsz7' gC liC nq O9 P9 XW9 RW9 PW9 BW9 HIc lt1 P7 X7 X9 E B9 bw7 b8 b7 b6 PO hTl'
      clear hJ
      go_upto_region 10 with (at_builtin; refine wpList_app rfl (.tmp 31) (.tmp 35) 23 23 rfl _ _ _ _ rfl rfl AP1 ?_)
      rw [← HW9.out]
      refine region_till (fun w' => w'.cell? ⟨w6.heap.size, 0, none⟩ = some (.slice q9 L1 d9) ∧ w'.cell? ⟨w.heap.size, 0, none⟩ = some (.slice (some ⟨b, off, none⟩) rs.length c1)) 9 (by kernel_rfl) ⟨iZ, iP⟩ (fun hHeld => ?_)
      refine till_take 0 (v := ?_) rfl (by kernel_rfl) (by kernel_rfl) (by kernel_rfl) (by kernel_rfl) (fun _ _ _ h => h) hHeld (Or.inl ⟨by rfl, ?_⟩) ?_
      rotate_left
      · (intro w hSw; (try dsimp only at hSw); go_simp; try with_reducible rfl)
      simp only [Act.put, List.setIfInBounds_toArray, List.set_cons_zero, List.set_cons_succ]
      refine till_take 1 (v := ?_) rfl (by kernel_rfl) (by kernel_rfl) (by kernel_rfl) (by kernel_rfl) (fun _ _ _ h => h) hHeld (Or.inl ⟨by rfl, ?_⟩) ?_
      rotate_left
      · (intro w hSw; (try dsimp only at hSw); go_simp; try with_reducible rfl)
      simp only [Act.put, List.setIfInBounds_toArray, List.set_cons_zero, List.set_cons_succ]
      refine till_take 2 (v := ?_) rfl (by kernel_rfl) (by kernel_rfl) (by kernel_rfl) (by kernel_rfl) (fun _ _ _ h => h) hHeld (Or.inl ⟨by rfl, ?_⟩) ?_
      rotate_left
      · (intro w hSw; (try dsimp only at hSw); go_simp; try with_reducible rfl)
      simp only [Act.put, List.setIfInBounds_toArray, List.set_cons_zero, List.set_cons_succ]
      refine till_take 3 (v := ?_) rfl (by kernel_rfl) (by kernel_rfl) (by kernel_rfl) (by kernel_rfl) (fun _ _ _ h => h) hHeld (Or.inl ⟨by rfl, ?_⟩) ?_
      rotate_left
      · (intro w hSw; (try dsimp only at hSw); go_simp; try with_reducible rfl)
      simp only [Act.put, List.setIfInBounds_toArray, List.set_cons_zero, List.set_cons_succ]
      refine till_take 4 (v := ?_) rfl (by kernel_rfl) (by kernel_rfl) (by kernel_rfl) (by kernel_rfl) (fun _ _ _ h => h) hHeld (Or.inl ⟨by rfl, ?_⟩) ?_
      rotate_left
      · (intro w hSw; (try dsimp only at hSw); go_simp; try with_reducible rfl)
      simp only [Act.put, List.setIfInBounds_toArray, List.set_cons_zero, List.set_cons_succ]
      refine till_take 5 (v := ?_) rfl (by kernel_rfl) (by kernel_rfl) (by kernel_rfl) (by kernel_rfl) (fun _ _ _ h => h) hHeld (Or.inl ⟨by rfl, ?_⟩) ?_
      rotate_left
      · (intro w hSw; (try dsimp only at hSw); go_simp; try with_reducible rfl)
      simp only [Act.put, List.setIfInBounds_toArray, List.set_cons_zero, List.set_cons_succ]
      refine till_take 6 (v := ?_) rfl (by kernel_rfl) (by kernel_rfl) (by kernel_rfl) (by kernel_rfl) (fun _ _ _ h => h) hHeld (Or.inl ⟨by rfl, ?_⟩) ?_
      rotate_left
      · (intro w hSw; (try dsimp only at hSw); go_simp; try with_reducible rfl)
      simp only [Act.put, List.setIfInBounds_toArray, List.set_cons_zero, List.set_cons_succ]
      refine till_ready 7 rfl (by kernel_rfl) (fun K hK => ?_)
      refine step_append_run rfl (.tmp 39) (.tmp 44) 23 rfl (.slice q9 L1 d9) (.slice (some ⟨b, off, none⟩) 0 0) _ _ rfl rfl AP3 ?_
      refine hK.out _ _ (⟨iC0, iCp⟩) (fun hHeld => ?_)
      clear hK K
      try simp only [Act.put, List.setIfInBounds_toArray, List.set_cons_zero, List.set_cons_succ]
      refine till_take 8 (v := ?_) rfl (by kernel_rfl) (by kernel_rfl) (by kernel_rfl) (by kernel_rfl) (fun _ _ _ h => h) hHeld (Or.inl ⟨by rfl, ?_⟩) ?_
      rotate_left
      · (intro w hSw; (try dsimp only at hSw); go_simp; try with_reducible rfl)
      simp only [Act.put, List.setIfInBounds_toArray, List.set_cons_zero, List.set_cons_succ]
      refine till_last rfl (by kernel_rfl) (by kernel_rfl) (fun K hK => ?_)
      go_simp
      refine hK.out _ _ ?_
      clear hK K hHeld
      go_wp2_with fail
      refine bodyPost_ret (v := .agg #[.slice qC L3 dC, .slice q2 hs.length d2', .int .i64 0]) (by simp [results, Try.results13, go_sem, r0, r1, r2]) rfl ?_
      exact ⟨_, _, rfl, HEnd.out _ _ _ _⟩
    · have HJ : Hid (J = T + 1) := hJ
      obtain ⟨vC, wC, AP3, OC, gC, liC⟩ := app_cel E 23 W9.drew w5.heap.size (.slice q9 L1 d9) (rs.take T).length (rulRow (rs.take T)) (show W9.drew.ownsRow _ _ _ _ _ _ from P9.own1) (some ⟨b, off + J * 4, none⟩) (rs.length - J) (c1 - J) (rulRow (rs.drop (T + 1))) (by rw [← rulRow_drop, show J * 4 = (T + 1) * 4 by omega]; exact (HIc W9.drew BW9.drew).drop _) (by rw [rulRow_len, List.length_drop]; omega) (oneR _) (by rw [List.length_take]; omega) (by rw [List.length_take]; unfold maxLen; omega) (by rw [szD]; have := XW9.lt; omega)
      obtain ⟨qC, dC, rfl, -⟩ := own_form OC
      obtain ⟨L3, hL3⟩ : ∃ L3, L3 = (rs.take T).length + (rs.length - J) := ⟨_, rfl⟩
      rw [← hL3] at OC AP3 liC
      rw [← rulRow_append] at OC
      have hLe : (rs.take T ++ rs.drop (T + 1)).length = L3 := by rw [hL3]; simp only [List.length_append, List.length_take, List.length_drop]; omega
      have OC : wC.ownsRow w5.heap.size 28 4 (.slice qC L3 dC) (rs.take T ++ rs.drop (T + 1)).length (rulRow (rs.take T ++ rs.drop (T + 1))) := by rw [hLe]; exact OC
      have PC := (show PolO w5.heap.size (rs.take T) hs (.slice q9 L1 d9) (.slice q2 hs.length d2') W9.drew from ⟨P9.own1, P9.own2, P9.ne⟩).new1 gC OC liC
      have nq : ∀ g, g < W7.heap.size → some g ≠ (Value.slice q9 L1 d9).ownBlock := fun g hg e => by have := (O9.lt _ e.symm).1; omega
      have XC := (show Bxs W9.drew w6.heap.size 26 #[.slice q9 L1 d9, .slice q2 hs.length d2'] from XW9).grown gC (nq _ (by omega))
      have RC := (show Bxs W9.drew (w.heap.size + 1) 32 #[.slice none 0 0, .slice none 0 0, .int .i64 0] from RW9).grown gC (nq _ (by omega))
      have QC := (show Bxs W9.drew w.heap.size 26 #[.slice (some ⟨b, off, none⟩) rs.length c1, .slice p2 hs.length c2] from PW9).grown gC (nq _ (by omega))
      have BCw : Below w.heap.size w wC := (BW9.drew).grown gC (by rw [szD]; have := XW9.lt; omega) (fun j hj => by have := (O9.lt _ hj).1; omega)
      have iC0 : wC.cell? ⟨w6.heap.size, 0, none⟩ = some (.slice q9 L1 d9) := XC.cell 0
      have iC1 : wC.cell? ⟨w6.heap.size, 1, none⟩ = some (.slice q2 hs.length d2') := XC.cell 1
      have iCp : wC.cell? ⟨w.heap.size, 0, none⟩ = some (.slice (some ⟨b, off, none⟩) rs.length c1) := QC.cell 0
      have fi := XC.fr 0
      have r0 : wC.cell? ⟨w.heap.size + 1, 0, none⟩ = some (.slice none 0 0) := RC.cell 0
      have r1 : wC.cell? ⟨w.heap.size + 1, 1, none⟩ = some (.slice none 0 0) := RC.cell 1
      have r2 : wC.cell? ⟨w.heap.size + 1, 2, none⟩ = some (.int .i64 0) := RC.cell 2
      have f0 := RC.fr 0
      have f1 := RC.fr 1
      have f2 := RC.fr 2
      have nz : some w6.heap.size ≠ (Value.slice qC L3 dC).ownBlock := fun e => by
        rcases liC _ e.symm with q | q
        · exact nq _ (by omega) q.symm
        · rw [szD] at q; have := XW9.lt; omega
      have HEnd : Hid (∀ a b c d : Value, PolO w.heap.size (rs.take T ++ rs.drop (T + 1)) hs (.slice qC L3 dC) (.slice q2 hs.length d2') ((((wC.setCell ⟨w6.heap.size, 0, none⟩ a).setCell ⟨w.heap.size + 1, 0, none⟩ b).setCell ⟨w.heap.size + 1, 1, none⟩ c).setCell ⟨w.heap.size + 1, 2, none⟩ d) ∧ Below w.heap.size w ((((wC.setCell ⟨w6.heap.size, 0, none⟩ a).setCell ⟨w.heap.size + 1, 0, none⟩ b).setCell ⟨w.heap.size + 1, 1, none⟩ c).setCell ⟨w.heap.size + 1, 2, none⟩ d)) := fun a b c d =>
        ⟨((((PC.setN nz nz2 0 a).set (by omega) 0 b).set (by omega) 1 c).set (by omega) 2 d).lower (by omega), (((BCw.setCell (by show w.heap.size ≤ w6.heap.size; omega) _).setCell (by show w.heap.size ≤ w.heap.size + 1; omega) _).setCell (by show w.heap.size ≤ w.heap.size + 1; omega) _).setCell (by show w.heap.size ≤ w.heap.size + 1; omega) _⟩
      have n9 : ¬ w6.heap.size = w.heap.size + 1 := by omega
      have n10 : ¬ w.heap.size + 1 = w6.heap.size := by omega
      have iZ : W9.drew.cell? ⟨w6.heap.size, 0, none⟩ = some (.slice q9 L1 d9) := XW9.cell 0
      have iP : W9.drew.cell? ⟨w.heap.size, 0, none⟩ = some (.slice (some ⟨b, off, none⟩) rs.length c1) := PW9.cell 0
      clear PC OC RC XC QC BCw nz hL1 hL3 hLe hsz7 hsz7' gC liC nq O9 P9 XW9 RW9 PW9 BW9 HIc lt1 P7 X7 X9 E B9 bw7 b8 b7 b6 PO hTl'
      clear hJ
      go_upto_region 10 with (at_builtin; refine wpList_app rfl (.tmp 31) (.tmp 35) 23 23 rfl _ _ _ _ rfl rfl AP1 ?_)
      rw [← HW9.out]
      refine region_till (fun w' => w'.cell? ⟨w6.heap.size, 0, none⟩ = some (.slice q9 L1 d9) ∧ w'.cell? ⟨w.heap.size, 0, none⟩ = some (.slice (some ⟨b, off, none⟩) rs.length c1)) 9 (by kernel_rfl) ⟨iZ, iP⟩ (fun hHeld => ?_)
      refine till_take 0 (v := ?_) rfl (by kernel_rfl) (by kernel_rfl) (by kernel_rfl) (by kernel_rfl) (fun _ _ _ h => h) hHeld (Or.inl ⟨by rfl, ?_⟩) ?_
      rotate_left
      · (intro w hSw; (try dsimp only at hSw); go_simp; try with_reducible rfl)
      simp only [Act.put, List.setIfInBounds_toArray, List.set_cons_zero, List.set_cons_succ]
      refine till_take 1 (v := ?_) rfl (by kernel_rfl) (by kernel_rfl) (by kernel_rfl) (by kernel_rfl) (fun _ _ _ h => h) hHeld (Or.inl ⟨by rfl, ?_⟩) ?_
      rotate_left
      · (intro w hSw; (try dsimp only at hSw); go_simp; try with_reducible rfl)
      simp only [Act.put, List.setIfInBounds_toArray, List.set_cons_zero, List.set_cons_succ]
      refine till_take 2 (v := ?_) rfl (by kernel_rfl) (by kernel_rfl) (by kernel_rfl) (by kernel_rfl) (fun _ _ _ h => h) hHeld (Or.inl ⟨by rfl, ?_⟩) ?_
      rotate_left
      · (intro w hSw; (try dsimp only at hSw); go_simp; try with_reducible rfl)
      simp only [Act.put, List.setIfInBounds_toArray, List.set_cons_zero, List.set_cons_succ]
      refine till_take 3 (v := ?_) rfl (by kernel_rfl) (by kernel_rfl) (by kernel_rfl) (by kernel_rfl) (fun _ _ _ h => h) hHeld (Or.inl ⟨by rfl, ?_⟩) ?_
      rotate_left
      · (intro w hSw; (try dsimp only at hSw); go_simp; try with_reducible rfl)
      simp only [Act.put, List.setIfInBounds_toArray, List.set_cons_zero, List.set_cons_succ]
      refine till_take 4 (v := ?_) rfl (by kernel_rfl) (by kernel_rfl) (by kernel_rfl) (by kernel_rfl) (fun _ _ _ h => h) hHeld (Or.inl ⟨by rfl, ?_⟩) ?_
      rotate_left
      · (intro w hSw; (try dsimp only at hSw); go_simp; try with_reducible rfl)
      simp only [Act.put, List.setIfInBounds_toArray, List.set_cons_zero, List.set_cons_succ]
      refine till_take 5 (v := ?_) rfl (by kernel_rfl) (by kernel_rfl) (by kernel_rfl) (by kernel_rfl) (fun _ _ _ h => h) hHeld (Or.inl ⟨by rfl, ?_⟩) ?_
      rotate_left
      · (intro w hSw; (try dsimp only at hSw); go_simp; try with_reducible rfl)
      simp only [Act.put, List.setIfInBounds_toArray, List.set_cons_zero, List.set_cons_succ]
      refine till_take 6 (v := ?_) rfl (by kernel_rfl) (by kernel_rfl) (by kernel_rfl) (by kernel_rfl) (fun _ _ _ h => h) hHeld (Or.inl ⟨by rfl, ?_⟩) ?_
      rotate_left
      · (intro w hSw; (try dsimp only at hSw); go_simp; try with_reducible rfl)
      simp only [Act.put, List.setIfInBounds_toArray, List.set_cons_zero, List.set_cons_succ]
      refine till_ready 7 rfl (by kernel_rfl) (fun K hK => ?_)
      refine step_append_run rfl (.tmp 39) (.tmp 44) 23 rfl (.slice q9 L1 d9) (.slice (some ⟨b, off + J * 4, none⟩) (rs.length - J) (c1 - J)) _ _ rfl rfl AP3 ?_
      refine hK.out _ _ (⟨iC0, iCp⟩) (fun hHeld => ?_)
      clear hK K
      try simp only [Act.put, List.setIfInBounds_toArray, List.set_cons_zero, List.set_cons_succ]
      refine till_take 8 (v := ?_) rfl (by kernel_rfl) (by kernel_rfl) (by kernel_rfl) (by kernel_rfl) (fun _ _ _ h => h) hHeld (Or.inl ⟨by rfl, ?_⟩) ?_
      rotate_left
      · (intro w hSw; (try dsimp only at hSw); go_simp; try with_reducible rfl)
      simp only [Act.put, List.setIfInBounds_toArray, List.set_cons_zero, List.set_cons_succ]
      refine till_last rfl (by kernel_rfl) (by kernel_rfl) (fun K hK => ?_)
      go_simp
      refine hK.out _ _ ?_
      clear hK K hHeld
      go_wp2_with fail
      refine bodyPost_ret (v := .agg #[.slice qC L3 dC, .slice q2 hs.length d2', .int .i64 0]) (by simp [results, Try.results13, go_sem, r0, r1, r2]) rfl ?_
      exact ⟨_, _, rfl, HEnd.out _ _ _ _⟩
end Go.Proofs.Ytbgpkngnlfafcaa
