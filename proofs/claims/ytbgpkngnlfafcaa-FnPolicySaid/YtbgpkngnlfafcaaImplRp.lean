/-
  What the program's RulePut answers.
  Conditions: the cells of Rules and Held hold the rules and numbers.
-/
import Derived.Test.YtbgpkngnlfafcaaRows
import Derived.Test.YtbgpkngnlfafcaaBytes
import Derived.Test.YtbgpkngnlfafcaaSlA
import Derived.Test.YtbgpkngnlfafcaaOwnS
import Derived.Test.YtbgpkngnlfafcaaBxK
import Derived.Test.YtbgpkngnlfafcaaTakesL
import Derived.Test.YtbgpkngnlfafcaaIntK
import Derived.Test.YtbgpkngnlfafcaaRulMath
import Derived.Test.YtbgpkngnlfafcaaRulBlk
import Derived.Test.YtbgpkngnlfafcaaPolMath
import Derived.Test.YtbgpkngnlfafcaaPolIdx
import Derived.Test.YtbgpkngnlfafcaaRulIdx
import Derived.Test.YtbgpkngnlfafcaaRulI
import Derived.Test.YtbgpkngnlfafcaaPolI
import Derived.Test.YtbgpkngnlfafcaaSrchR
import Derived.Test.YtbgpkngnlfafcaaLawI
import Derived.Test.YtbgpkngnlfafcaaLawOG
import Derived.Test.YtbgpkngnlfafcaaRowOps
import Derived.Test.YtbgpkngnlfafcaaDelR
import Derived.Test.YtbgpkngnlfafcaaInsR
import Derived.Test.YtbgpkngnlfafcaaPolO
import Derived.Test.YtbgpkngnlfafcaaPolCp
import Derived.Test.YtbgpkngnlfafcaaPolAns
import Derived.Handy
import Derived.WalkSpells
import Derived.OwnWalk
import Derived.Deep.RegionLaw
import Derived.Deep.Cut
import Derived.Deep.CutRange
namespace Go.Proofs.Ytbgpkngnlfafcaa
open Go.RowKit Go.Lib
set_option linter.unusedVariables false
set_option maxRecDepth 20000

set_option maxHeartbeats 8000000 in
theorem implRulePut_any (p1 p2 : Option Addr) (c1 c2 : Nat) (rs : List Rul) (hs : List Int) (R : Rul) (w : World) (hr : RulAt w p1 rs) (hh : IntAt w p2 hs) (n1 : rs.length ≤ 1048576) (n2 : hs.length ≤ 1048576) (m1 : rs.length ≤ c1) (m2 : hs.length ≤ c2) (hz : RulsLe rs) (hRl : R.k.size ≤ maxLen ∧ R.f.size ≤ maxLen) :
    Calls Try.prog 5 #[.agg #[.slice p1 rs.length c1, .slice p2 hs.length c2], .agg #[.string R.k, .string R.f, .int .i64 R.l, .int .i64 R.m]] w fun e w' => ∃ v1 v2, e = .returned (.agg #[v1, v2, .int .i64 (rpC rs hs R)]) ∧ PolO w.heap.size (rpR rs hs R) (rpH rs hs R) v1 v2 w' ∧ Below w.heap.size w w' := by
  have HC : Hid (rpC rs hs R = if polB rs hs = true ∧ ruB R = true then (if rpB rs R = true then 0 else if rs.length = 6 then 9 else 0) else 1) := rfl
  have HRr : Hid (rpR rs hs R = if rpC rs hs R = 0 then (if rpB rs R = true then rs.set (rpT rs R) R else rs.take (rpT rs R) ++ [R] ++ rs.drop (rpT rs R)) else []) := rfl
  have HHr : Hid (rpH rs hs R = if rpC rs hs R = 0 then hs else []) := rfl
  obtain ⟨W2, hW2⟩ : ∃ W2, W2 = ((w.alloc (.cells #[.slice p1 rs.length c1, .slice p2 hs.length c2] 26)).alloc (.cells #[.string R.k, .string R.f, .int .i64 R.l, .int .i64 R.m] 28)).alloc (.cells #[.slice none 0 0, .slice none 0 0, .int .i64 0] 32) := ⟨_, rfl⟩
  have HW2 : Hid (W2 = ((w.alloc (.cells #[.slice p1 rs.length c1, .slice p2 hs.length c2] 26)).alloc (.cells #[.string R.k, .string R.f, .int .i64 R.l, .int .i64 R.m] 28)).alloc (.cells #[.slice none 0 0, .slice none 0 0, .int .i64 0] 32)) := hW2
  have hs1 : (w.alloc (.cells #[.slice p1 rs.length c1, .slice p2 hs.length c2] 26)).heap.size = w.heap.size + 1 := by simp
  have hs2 : ((w.alloc (.cells #[.slice p1 rs.length c1, .slice p2 hs.length c2] 26)).alloc (.cells #[.string R.k, .string R.f, .int .i64 R.l, .int .i64 R.m] 28)).heap.size = w.heap.size + 1 + 1 := by simp
  have HS2 : Hid (W2.heap.size = w.heap.size + 3) := by rw [hW2]; show _ = _; simp
  have K0 : Hid (Bxs W2 w.heap.size 26 #[.slice p1 rs.length c1, .slice p2 hs.length c2]) := by rw [hW2]; exact ((Bxs.new _ _ _).alloc _).alloc _
  have KR : Hid (Bxs W2 (w.heap.size + 1) 28 #[.string R.k, .string R.f, .int .i64 R.l, .int .i64 R.m]) := by rw [hW2, ← hs1]; exact (Bxs.new _ _ _).alloc _
  have K1 : Hid (Bxs W2 (w.heap.size + 1 + 1) 32 #[.slice none 0 0, .slice none 0 0, .int .i64 0]) := by rw [hW2, ← hs2]; exact Bxs.new _ _ _
  have B2 : Hid (Below w.heap.size w W2) := by rw [hW2]; exact alB (alB (alB (Below.refl _ _) _) _) _
  have HP : Hid (∀ x, Below W2.heap.size W2 x → x.cell? ⟨w.heap.size, 0, none⟩ = some (.slice p1 rs.length c1) ∧ x.cell? ⟨w.heap.size, 1, none⟩ = some (.slice p2 hs.length c2)) := fun x hb => (K0.out.below hb).two
  have HPr : Hid (∀ x, Below W2.heap.size W2 x → x.cell? ⟨w.heap.size + 1, 0, none⟩ = some (.string R.k) ∧ x.cell? ⟨w.heap.size + 1, 1, none⟩ = some (.string R.f) ∧ x.cell? ⟨w.heap.size + 1, 2, none⟩ = some (.int .i64 R.l) ∧ x.cell? ⟨w.heap.size + 1, 3, none⟩ = some (.int .i64 R.m)) := fun x hb => (KR.out.below hb).four
  have HR : Hid (∀ x, Below W2.heap.size W2 x → x.cell? ⟨w.heap.size + 1 + 1, 0, none⟩ = some (.slice none 0 0) ∧ x.cell? ⟨w.heap.size + 1 + 1, 1, none⟩ = some (.slice none 0 0) ∧ x.cell? ⟨w.heap.size + 1 + 1, 2, none⟩ = some (.int .i64 0) ∧ x.frozen? ⟨w.heap.size + 1 + 1, 0, none⟩ = false ∧ x.frozen? ⟨w.heap.size + 1 + 1, 1, none⟩ = false ∧ x.frozen? ⟨w.heap.size + 1 + 1, 2, none⟩ = false) := fun x hb => ⟨(K1.out.below hb).cell 0, (K1.out.below hb).cell 1, (K1.out.below hb).cell 2, (K1.out.below hb).fr 0, (K1.out.below hb).fr 1, (K1.out.below hb).fr 2⟩
  have HS3 : Hid (∀ x, Below W2.heap.size W2 x → ∀ a b c : Value, Below w.heap.size w (((x.setCell ⟨w.heap.size + 1 + 1, 0, none⟩ a).setCell ⟨w.heap.size + 1 + 1, 1, none⟩ b).setCell ⟨w.heap.size + 1 + 1, 2, none⟩ c)) := fun x hb a b c => (((chainB B2.out hb).setCell (by show w.heap.size ≤ w.heap.size + 1 + 1; omega) _).setCell (by show w.heap.size ≤ w.heap.size + 1 + 1; omega) _).setCell (by show w.heap.size ≤ w.heap.size + 1 + 1; omega) _
  have HRu : Hid (RulAt W2 p1 rs) := hr.below B2.out
  have HIn : Hid (IntAt W2 p2 hs) := hh.below B2.out
  obtain ⟨x0, x1⟩ := HP.out W2 (Below.refl _ _)
  have y0 := x0
  have y1 := x1
  rw [hW2] at y0 y1
  have hQ := implPolicyRight_any p1 p2 c1 c2 rs hs W2 HRu.out HIn.out n1 n2 m1 m2 hz
  have HK : Hid (∀ x, Calls Try.prog 22 #[.agg #[.string R.k, .string R.f, .int .i64 R.l, .int .i64 R.m]] x fun e w' => e = .returned (.bool (ruB R)) ∧ Below x.heap.size x w') := fun x => ruleRight_any R.k R.f R.l R.m x hRl.1 hRl.2
  have KR2 := KR
  clear hW2 hs1 hs2 hr hh K0 KR hz
  cases hpb : polB rs hs with
  | false =>
    have e1 : rpC rs hs R = 1 := by rw [HC.out, if_neg (by rw [hpb]; simp)]
    rw [HRr.out, HHr.out, e1, if_neg (by omega), if_neg (by omega)]
    rw [hpb] at hQ
    clear HC HRr HHr e1
    go_enter Try.func5, Try.ntmps5
    go_wp2_with fail
    rw [← HW2.out]
    refine hQ.mono ?_
    rintro e w3 ⟨rfl, b3⟩
    obtain ⟨r0, r1, r2, f0, f1, f2⟩ := HR.out w3 b3
    have HE := HS3.out w3 b3 (.slice none 0 0) (.slice none 0 0) (.int .i64 1)
    go_wp2_with fail
    refine bodyPost_ret (v := .agg #[.slice none 0 0, .slice none 0 0, .int .i64 1]) (by simp [results, Try.results5, go_sem, r0, r1, r2]) rfl ?_
    exact ⟨_, _, rfl, PolO.nil _ _, HE⟩
  | true =>
  obtain ⟨hl6, ho1, ho2, hh6, hsz⟩ := polB_parts hpb
  rw [hpb] at hQ
  cases hrb : ruB R with
  | false =>
    have e1 : rpC rs hs R = 1 := by rw [HC.out, if_neg (by rw [hrb]; simp)]
    rw [HRr.out, HHr.out, e1, if_neg (by omega), if_neg (by omega)]
    rw [hrb] at HK
    clear HC HRr HHr e1
    go_enter Try.func5, Try.ntmps5
    go_wp2_with fail
    rw [← HW2.out]
    refine hQ.mono ?_
    rintro e w3 ⟨rfl, b3⟩
    obtain ⟨u0, u1, u2, u3⟩ := HPr.out w3 b3
    go_wp2_with fail
    refine (HK.out w3).mono ?_
    rintro e w4 ⟨rfl, b4⟩
    have b4 := chainB b3 b4
    obtain ⟨r0, r1, r2, f0, f1, f2⟩ := HR.out w4 b4
    have HE := HS3.out w4 b4 (.slice none 0 0) (.slice none 0 0) (.int .i64 1)
    go_wp2_with fail
    refine bodyPost_ret (v := .agg #[.slice none 0 0, .slice none 0 0, .int .i64 1]) (by simp [results, Try.results5, go_sem, r0, r1, r2]) rfl ?_
    exact ⟨_, _, rfl, PolO.nil _ _, HE⟩
  | true =>
  have hRs := ruB_le hrb
  rw [hrb] at HK
  rw [if_pos (show polB rs hs = true ∧ ruB R = true from ⟨hpb, hrb⟩)] at HC
  have HSr : Hid (∀ x, Below W2.heap.size W2 x → Calls Try.prog 23 #[.slice p1 rs.length c1, .string R.k, .string R.f] x fun e w' => e = .returned (.tuple #[.int .i64 (rpT rs R : Nat), .bool (rpB rs R)]) ∧ Below x.heap.size x w') := fun x hb => ruleAt_any p1 c1 rs R.k R.f x (HRu.out.below hb) (by omega) ho1
  have HCp : Hid (∀ x, Below W2.heap.size W2 x → Calls Try.prog 24 #[.agg #[.slice p1 rs.length c1, .slice p2 hs.length c2]] x fun e w' => ∃ v1 v2, e = .returned (.agg #[v1, v2]) ∧ PolO x.heap.size rs hs v1 v2 w' ∧ Below x.heap.size x w') := fun x hb => copiedPolicy_any p1 p2 c1 c2 rs hs x (HRu.out.below hb) (HIn.out.below hb) n1 n2 m1 (fun q hq => by have := hsz q hq; omega)
  have HQc : Hid (∀ x, Calls Try.prog 25 #[.agg #[.string R.k, .string R.f, .int .i64 R.l, .int .i64 R.m]] x fun e w' => e = .returned (.agg #[.string R.k, .string R.f, .int .i64 R.l, .int .i64 R.m]) ∧ Below x.heap.size x w') := fun x => copiedRule_any R.k R.f R.l R.m x (by omega) (by omega)
  have hTn : rpT rs R ≤ rs.length := tw_le _ _
  have HTl : Hid (rpB rs R = true → rpT rs R < rs.length) := fun h => there_lt h
  cases htb : rpB rs R with
  | true =>
    have e1 : rpC rs hs R = 0 := by rw [HC.out, htb]; rfl
    rw [HRr.out, HHr.out, e1, if_pos rfl, if_pos rfl, htb, if_pos rfl]
    rw [htb] at HSr
    have hTl := HTl.out htb
    generalize rpT rs R = T at *
    clear HC HRr HHr e1 HTl
    go_enter Try.func5, Try.ntmps5
    go_wp2_with fail
    rw [← HW2.out]
    refine hQ.mono ?_
    rintro e w3 ⟨rfl, b3⟩
    obtain ⟨u0, u1, u2, u3⟩ := HPr.out w3 b3
    go_wp2_with fail
    refine (HK.out w3).mono ?_
    rintro e w4 ⟨rfl, b4⟩
    have b4 := chainB b3 b4
    clear u0 u1 u2 u3
    obtain ⟨u0, u1, u2, u3⟩ := HPr.out w4 b4
    obtain ⟨z0, z1⟩ := HP.out w4 b4
    go_wp2_with fail
    refine (HSr.out w4 b4).mono ?_
    rintro e w5 ⟨rfl, b5⟩
    have b5 := chainB b4 b5
    clear z0 z1 u0 u1 u2 u3
    obtain ⟨z0, z1⟩ := HP.out w5 b5
    go_wp2_with fail
    refine (HCp.out w5 b5).mono ?_
    rintro e w6 ⟨v1, v2, rfl, PO, b6⟩
    obtain ⟨q1, d1', q2, d2', rfl, rfl, l1, l2⟩ := PO.form
    obtain ⟨W7, hW7⟩ : ∃ W7, W7 = w6.alloc (.cells #[.slice q1 rs.length d1', .slice q2 hs.length d2'] 26) := ⟨_, rfl⟩
    have HW7 : Hid (W7 = w6.alloc (.cells #[.slice q1 rs.length d1', .slice q2 hs.length d2'] 26)) := hW7
    have b7 : Below w6.heap.size w6 W7 := by rw [hW7]; exact (Below.refl _ _).alloc (Nat.le_refl _) _
    have X7 : Bxs W7 w6.heap.size 26 #[.slice q1 rs.length d1', .slice q2 hs.length d2'] := by rw [hW7]; exact Bxs.new _ _ _
    have P7 := PO.below b7
    have bw7 : Below W2.heap.size W2 W7 := chainB b5 (chainB b6 b7)
    have s6 := b6.size
    have s3 := b5.size
    have hS2 := HS2.out
    have lt1 := PO.lt
    have BR : Hid (Below W7.heap.size W7 W7.drew) := (Below.refl _ _).drew
    obtain ⟨g1, rfl⟩ : ∃ g1, q1 = some ⟨g1, 0, none⟩ := by
      rcases PO.own1.2 with ⟨h0, h1⟩ | ⟨g1, _, _, h1, _⟩
      · omega
      · cases h1; exact ⟨g1, rfl⟩
    have HYS : Hid (∀ x, Below W7.heap.size W7 x → x.cell? ⟨w6.heap.size, 0, none⟩ = some (.slice (some ⟨g1, 0, none⟩) rs.length d1') ∧ (x.cell? ⟨w.heap.size + 1, 0, none⟩ = some (.string R.k) ∧ x.cell? ⟨w.heap.size + 1, 1, none⟩ = some (.string R.f) ∧ x.cell? ⟨w.heap.size + 1, 2, none⟩ = some (.int .i64 R.l) ∧ x.cell? ⟨w.heap.size + 1, 3, none⟩ = some (.int .i64 R.m))) := fun x hx => ⟨(X7.below hx).cell 0, HPr.out x (chainB bw7 hx)⟩
    have OGa : ∀ x, Below W7.heap.size W7 x → OG x w5.heap.size 28 4 g1 rs.length d1' x (rulRow rs) := fun x hx => OG.start (ownS_below P7.own1 hx)
    have HCg : Hid (∀ x, Below W7.heap.size W7 x → ((∃ a, x.cell? ⟨g1, T * 4, none⟩ = some a) ∧ (∃ a, x.cell? ⟨g1, T * 4 + 1, none⟩ = some a) ∧ (∃ a, x.cell? ⟨g1, T * 4 + 2, none⟩ = some a) ∧ (∃ a, x.cell? ⟨g1, T * 4 + 3, none⟩ = some a)) ∧ x.frozen? ⟨g1, T * 4, none⟩ = false ∧ x.frozen? ⟨g1, T * 4 + 1, none⟩ = false ∧ x.frozen? ⟨g1, T * 4 + 2, none⟩ = false ∧ x.frozen? ⟨g1, T * 4 + 3, none⟩ = false) := fun x hx => by
      obtain ⟨a0, k0, j0⟩ := (OGa x hx).cell (T * 4) (by omega)
      obtain ⟨a1, k1, j1⟩ := (OGa x hx).cell (T * 4 + 1) (by omega)
      obtain ⟨a2, k2, j2⟩ := (OGa x hx).cell (T * 4 + 2) (by omega)
      obtain ⟨a3, k3, j3⟩ := (OGa x hx).cell (T * 4 + 3) (by omega)
      exact ⟨⟨⟨a0, k0⟩, ⟨a1, k1⟩, ⟨a2, k2⟩, a3, k3⟩, j0, j1, j2, j3⟩
    have HFin : Hid (∀ x, Below W7.heap.size W7 x → PolO w5.heap.size (rs.set T R) hs (.slice (some ⟨g1, 0, none⟩) rs.length d1') (.slice q2 hs.length d2') (set4u x g1 (T * 4) R) ∧ Bxs (set4u x g1 (T * 4) R) w6.heap.size 26 #[.slice (some ⟨g1, 0, none⟩) rs.length d1', .slice q2 hs.length d2'] ∧ Bxs (set4u x g1 (T * 4) R) (w.heap.size + 1 + 1) 32 #[.slice none 0 0, .slice none 0 0, .int .i64 0] ∧ Below w.heap.size w (set4u x g1 (T * 4) R)) := fun x hx => by
      have hgl := lt1.1 g1 rfl
      have OGb := ((((OGa x hx).set (T * 4) (.string R.k)).set (T * 4 + 1) (.string R.f)).set (T * 4 + 2) (.int .i64 R.l)).set (T * 4 + 3) (.int .i64 R.m)
      rw [rulRow_set] at OGb
      have P8 := (P7.below hx).new1 (rs' := rs.set T R) (v1' := .slice (some ⟨g1, 0, none⟩) rs.length d1') OGb.2 (by rw [List.length_set]; exact OGb.1) (fun j hj => .inl hj)
      exact ⟨P8, set4u_other (X7.below hx) (by omega) R, set4u_other (K1.out.below (chainB bw7 hx)) (by omega) R, set4u_below (chainB (chainB B2.out bw7) hx) (by omega) _ _⟩
    have iT : (T : Int) < rs.length := by omega
    clear hW7 OGa PO P7 b7 b6 lt1
    go_upto_region 8 with fail
    rw [← HW7.out]
    refine region_till (fun w' => w'.cell? ⟨w6.heap.size, 0, none⟩ = some (.slice (some ⟨g1, 0, none⟩) rs.length d1') ∧ (w'.cell? ⟨w.heap.size + 1, 0, none⟩ = some (.string R.k) ∧ w'.cell? ⟨w.heap.size + 1, 1, none⟩ = some (.string R.f) ∧ w'.cell? ⟨w.heap.size + 1, 2, none⟩ = some (.int .i64 R.l) ∧ w'.cell? ⟨w.heap.size + 1, 3, none⟩ = some (.int .i64 R.m))) 6 (by kernel_rfl) (HYS.out _ BR.out) (fun hHeld => ?_)
    refine till_take 0 (v := ?_) rfl (by kernel_rfl) (by kernel_rfl) (by kernel_rfl) (by kernel_rfl) (fun _ _ _ h => h) hHeld (Or.inl ⟨by rfl, ?_⟩) ?_
    rotate_left
    · (intro w hSw; (try dsimp only at hSw); go_simp; try with_reducible rfl)
    simp only [Act.put, List.setIfInBounds_toArray, List.set_cons_zero, List.set_cons_succ]
    refine till_take 1 (v := ?_) rfl (by kernel_rfl) (by kernel_rfl) (by kernel_rfl) (by kernel_rfl) (fun _ _ _ h => h) hHeld (Or.inl ⟨by rfl, ?_⟩) ?_
    rotate_left
    · (intro w hSw; (try dsimp only at hSw); go_simp; try with_reducible rfl)
    simp only [Act.put, List.setIfInBounds_toArray, List.set_cons_zero, List.set_cons_succ]
    refine till_take 2 (v := ?_) rfl (by kernel_rfl) (by kernel_rfl) (by kernel_rfl) (by kernel_rfl) (fun _ _ _ h => h) hHeld (Or.inl ⟨by rfl, ?_⟩) ?_
    rotate_left
    · (intro w hSw; (try dsimp only at hSw); go_simp; try with_reducible rfl)
    simp only [Act.put, List.setIfInBounds_toArray, List.set_cons_zero, List.set_cons_succ]
    refine till_take 3 (v := ?_) rfl (by kernel_rfl) (by kernel_rfl) (by kernel_rfl) (by kernel_rfl) (fun _ _ _ h => h) hHeld (Or.inl ⟨by rfl, ?_⟩) ?_
    rotate_left
    · (intro w hSw; (try dsimp only at hSw); go_simp; try with_reducible rfl)
    simp only [Act.put, List.setIfInBounds_toArray, List.set_cons_zero, List.set_cons_succ]
    refine till_ready 4 rfl (by kernel_rfl) (fun K hK => ?_)
    go_simp
    (go_at_call 25; with_reducible refine (HQc.out _).mono ?_; rintro e y1 ⟨rfl, z0⟩)
    have z1 : Below W7.heap.size W7 y1 := chainB BR.out z0
    refine hK.out _ _ (HYS.out _ z1) (fun hHeld => ?_)
    clear hK K
    try simp only [Act.put, List.setIfInBounds_toArray, List.set_cons_zero, List.set_cons_succ]
    refine till_take 5 (v := ?_) rfl (by kernel_rfl) (by kernel_rfl) (by kernel_rfl) (by kernel_rfl) (fun _ _ _ h => h) hHeld (Or.inl ⟨by rfl, ?_⟩) ?_
    rotate_left
    · (intro w hSw; (try dsimp only at hSw); go_simp; try with_reducible rfl)
    simp only [Act.put, List.setIfInBounds_toArray, List.set_cons_zero, List.set_cons_succ]
    obtain ⟨⟨⟨a0, c0⟩, ⟨a1, c1'⟩, ⟨a2, c2'⟩, a3, c3⟩, h0, h1, h2, h3⟩ := HCg.out y1 z1
    refine till_last rfl (by kernel_rfl) (by kernel_rfl) (fun K hK => ?_)
    go_simp
    refine hK.out _ _ ?_
    clear hK K hHeld
    obtain ⟨W9, hW9⟩ : ∃ W9, W9 = set4u y1 g1 (T * 4) R := ⟨_, rfl⟩
    obtain ⟨P9, X9, R9, B9⟩ := HFin.out y1 z1
    rw [← hW9] at P9 X9 R9 B9
    have hW9' := hW9
    unfold set4u at hW9'
    rw [← hW9']
    have i0 : W9.cell? ⟨w6.heap.size, 0, none⟩ = some (.slice (some ⟨g1, 0, none⟩) rs.length d1') := X9.cell 0
    have i1 : W9.cell? ⟨w6.heap.size, 1, none⟩ = some (.slice q2 hs.length d2') := X9.cell 1
    have r0 : W9.cell? ⟨w.heap.size + 1 + 1, 0, none⟩ = some (.slice none 0 0) := R9.cell 0
    have r1 : W9.cell? ⟨w.heap.size + 1 + 1, 1, none⟩ = some (.slice none 0 0) := R9.cell 1
    have r2 : W9.cell? ⟨w.heap.size + 1 + 1, 2, none⟩ = some (.int .i64 0) := R9.cell 2
    have f0 := R9.fr 0
    have f1 := R9.fr 1
    have f2 := R9.fr 2
    have HEnd : Hid (∀ b c d : Value, PolO w.heap.size (rs.set T R) hs (.slice (some ⟨g1, 0, none⟩) rs.length d1') (.slice q2 hs.length d2') (((W9.setCell ⟨w.heap.size + 1 + 1, 0, none⟩ b).setCell ⟨w.heap.size + 1 + 1, 1, none⟩ c).setCell ⟨w.heap.size + 1 + 1, 2, none⟩ d) ∧ Below w.heap.size w (((W9.setCell ⟨w.heap.size + 1 + 1, 0, none⟩ b).setCell ⟨w.heap.size + 1 + 1, 1, none⟩ c).setCell ⟨w.heap.size + 1 + 1, 2, none⟩ d)) := fun b c d =>
      ⟨(((P9.set (by omega) 0 b).set (by omega) 1 c).set (by omega) 2 d).lower (by omega), ((B9.setCell (by show w.heap.size ≤ w.heap.size + 1 + 1; omega) _).setCell (by show w.heap.size ≤ w.heap.size + 1 + 1; omega) _).setCell (by show w.heap.size ≤ w.heap.size + 1 + 1; omega) _⟩
    clear P9 X9 R9 B9 hW9 hW9' HFin HCg HYS X7 bw7 z1 z0 c0 c1' c2' c3 h0 h1 h2 h3
    go_wp2_with fail
    refine bodyPost_ret (v := .agg #[.slice (some ⟨g1, 0, none⟩) rs.length d1', .slice q2 hs.length d2', .int .i64 0]) (by simp [results, Try.results5, go_sem, r0, r1, r2]) rfl ?_
    exact ⟨_, _, rfl, HEnd.out _ _ _⟩
  | false =>
    by_cases h6 : rs.length = 6
    · have e1 : rpC rs hs R = 9 := by rw [HC.out, htb, if_pos h6]; rfl
      rw [HRr.out, HHr.out, e1, if_neg (by omega), if_neg (by omega)]
      rw [htb] at HSr
      generalize rpT rs R = T at *
      clear HC HRr HHr e1
      have dl : ((rs.length : Int) == 6) = true := by simp; omega
      clear h6
      go_enter Try.func5, Try.ntmps5
      go_wp2_with fail
      rw [← HW2.out]
      refine hQ.mono ?_
      rintro e w3 ⟨rfl, b3⟩
      obtain ⟨u0, u1, u2, u3⟩ := HPr.out w3 b3
      go_wp2_with fail
      refine (HK.out w3).mono ?_
      rintro e w4 ⟨rfl, b4⟩
      have b4 := chainB b3 b4
      clear u0 u1 u2 u3
      obtain ⟨u0, u1, u2, u3⟩ := HPr.out w4 b4
      obtain ⟨z0, z1⟩ := HP.out w4 b4
      go_wp2_with fail
      refine (HSr.out w4 b4).mono ?_
      rintro e w5 ⟨rfl, b5⟩
      have b5 := chainB b4 b5
      clear z0 z1 u0 u1 u2 u3
      obtain ⟨z0, z1⟩ := HP.out w5 b5
      obtain ⟨r0, r1, r2, f0, f1, f2⟩ := HR.out w5 b5
      have HE := HS3.out w5 b5 (.slice none 0 0) (.slice none 0 0) (.int .i64 9)
      go_wp2_with fail
      refine bodyPost_ret (v := .agg #[.slice none 0 0, .slice none 0 0, .int .i64 9]) (by simp [results, Try.results5, go_sem, r0, r1, r2]) rfl ?_
      exact ⟨_, _, rfl, PolO.nil _ _, HE⟩
    have e1 : rpC rs hs R = 0 := by rw [HC.out, htb, if_neg h6]; rfl
    rw [HRr.out, HHr.out, e1, if_pos rfl, if_pos rfl, htb, if_neg (by simp)]
    rw [htb] at HSr
    generalize rpT rs R = T at *
    have dl : ((rs.length : Int) == 6) = false := by simp; omega
    clear HC HRr HHr e1 HTl
    go_enter Try.func5, Try.ntmps5
    go_wp2_with fail
    rw [← HW2.out]
    refine hQ.mono ?_
    rintro e w3 ⟨rfl, b3⟩
    obtain ⟨u0, u1, u2, u3⟩ := HPr.out w3 b3
    go_wp2_with fail
    refine (HK.out w3).mono ?_
    rintro e w4 ⟨rfl, b4⟩
    have b4 := chainB b3 b4
    clear u0 u1 u2 u3
    obtain ⟨u0, u1, u2, u3⟩ := HPr.out w4 b4
    obtain ⟨z0, z1⟩ := HP.out w4 b4
    go_wp2_with fail
    refine (HSr.out w4 b4).mono ?_
    rintro e w5 ⟨rfl, b5⟩
    have b5 := chainB b4 b5
    clear z0 z1 u0 u1 u2 u3
    obtain ⟨z0, z1⟩ := HP.out w5 b5
    go_wp2_with fail
    refine (HCp.out w5 b5).mono ?_
    rintro e w6 ⟨v1, v2, rfl, PO, b6⟩
    obtain ⟨q1, d1', q2, d2', rfl, rfl, l1, l2⟩ := PO.form
    obtain ⟨W7, hW7⟩ : ∃ W7, W7 = w6.alloc (.cells #[.slice q1 rs.length d1', .slice q2 hs.length d2'] 26) := ⟨_, rfl⟩
    have HW7 : Hid (W7 = w6.alloc (.cells #[.slice q1 rs.length d1', .slice q2 hs.length d2'] 26)) := hW7
    have b7 : Below w6.heap.size w6 W7 := by rw [hW7]; exact (Below.refl _ _).alloc (Nat.le_refl _) _
    have X7 : Bxs W7 w6.heap.size 26 #[.slice q1 rs.length d1', .slice q2 hs.length d2'] := by rw [hW7]; exact Bxs.new _ _ _
    have P7 := PO.below b7
    have bw7 : Below W2.heap.size W2 W7 := chainB b5 (chainB b6 b7)
    have s6 := b6.size
    have s3 := b5.size
    have hS2 := HS2.out
    have lt1 := PO.lt
    have BR : Hid (Below W7.heap.size W7 W7.drew) := (Below.refl _ _).drew
    have HYS : Hid (∀ x, Below W7.heap.size W7 x → x.cell? ⟨w6.heap.size, 0, none⟩ = some (.slice q1 rs.length d1') ∧ (x.cell? ⟨w.heap.size + 1, 0, none⟩ = some (.string R.k) ∧ x.cell? ⟨w.heap.size + 1, 1, none⟩ = some (.string R.f) ∧ x.cell? ⟨w.heap.size + 1, 2, none⟩ = some (.int .i64 R.l) ∧ x.cell? ⟨w.heap.size + 1, 3, none⟩ = some (.int .i64 R.m))) := fun x hx => ⟨(X7.below hx).cell 0, HPr.out x (chainB bw7 hx)⟩
    have HIns : Hid (∀ x, Below W7.heap.size W7 x → Calls Try.prog 26 #[.slice q1 rs.length d1', .int .i64 (T : Int), .slice (some ⟨x.heap.size, 0, none⟩) 1 1] (x.alloc (.cells #[.string R.k, .string R.f, .int .i64 R.l, .int .i64 R.m] 28)) fun e w9 => ∃ p' c', e = .returned (.slice p' (rs.length + 1) c') ∧ Hid (w9.ownsRow w5.heap.size 28 4 (.slice p' (rs.length + 1) c') (rs.length + 1) (rulRow (rs.take T ++ [R] ++ rs.drop T)) ∧ (x.alloc (.cells #[.string R.k, .string R.f, .int .i64 R.l, .int .i64 R.m] 28)).grownBy w9 (Value.slice q1 rs.length d1').ownBlock ∧ Lies (x.alloc (.cells #[.string R.k, .string R.f, .int .i64 R.l, .int .i64 R.m] 28)) (.slice q1 rs.length d1') (.slice p' (rs.length + 1) c'))) := fun x hx => by
      have hv : Bxs (x.alloc (.cells #[.string R.k, .string R.f, .int .i64 R.l, .int .i64 R.m] 28)) x.heap.size 28 (rulRow [R]).toArray := Bxs.new _ _ _
      have hsx := hx.size
      have hx7 := X7.lt
      have h := insR_any w5.heap.size (.slice q1 rs.length d1') rs.length T (rulRow rs) x.heap.size (rulRow [R]) (x.alloc (.cells #[.string R.k, .string R.f, .int .i64 R.l, .int .i64 R.m] 28)) (ownS_below (ownS_below P7.own1 hx) ((Below.refl _ _).alloc (Nat.le_refl _) _)) hTn hv rfl (fun e => by have := (lt1.1 _ e.symm).2; omega) (oneR _) (oneR _) (by rw [szA]; omega) (by omega)
      rw [rulRow_take, rulRow_drop, ← rulRow_append, ← rulRow_append] at h
      refine h.mono ?_
      rintro e w9 ⟨v', rfl, o9, g9, li9⟩
      obtain ⟨p', c', rfl, -⟩ := own_form o9
      exact ⟨p', c', rfl, o9, g9, li9⟩
    have HAft : Hid (∀ y w9 (p' : Option Addr) (c' : Nat), Below W7.heap.size W7 y → (w9.ownsRow w5.heap.size 28 4 (.slice p' (rs.length + 1) c') (rs.length + 1) (rulRow (rs.take T ++ [R] ++ rs.drop T)) ∧ (y.alloc (.cells #[.string R.k, .string R.f, .int .i64 R.l, .int .i64 R.m] 28)).grownBy w9 (Value.slice q1 rs.length d1').ownBlock ∧ Lies (y.alloc (.cells #[.string R.k, .string R.f, .int .i64 R.l, .int .i64 R.m] 28)) (.slice q1 rs.length d1') (.slice p' (rs.length + 1) c')) →
        (w9.cell? ⟨w6.heap.size, 0, none⟩ = some (.slice q1 rs.length d1') ∧ (w9.cell? ⟨w.heap.size + 1, 0, none⟩ = some (.string R.k) ∧ w9.cell? ⟨w.heap.size + 1, 1, none⟩ = some (.string R.f) ∧ w9.cell? ⟨w.heap.size + 1, 2, none⟩ = some (.int .i64 R.l) ∧ w9.cell? ⟨w.heap.size + 1, 3, none⟩ = some (.int .i64 R.m))) ∧ (w9.cell? ⟨w6.heap.size, 0, none⟩ = some (.slice q1 rs.length d1') ∧ w9.frozen? ⟨w6.heap.size, 0, none⟩ = false) ∧ Hid (∀ a : Value, PolO w5.heap.size (rs.take T ++ [R] ++ rs.drop T) hs (.slice p' (rs.length + 1) c') (.slice q2 hs.length d2') (w9.setCell ⟨w6.heap.size, 0, none⟩ a) ∧ Bxs (w9.setCell ⟨w6.heap.size, 0, none⟩ a) w6.heap.size 26 #[a, .slice q2 hs.length d2'] ∧ Bxs (w9.setCell ⟨w6.heap.size, 0, none⟩ a) (w.heap.size + 1 + 1) 32 #[.slice none 0 0, .slice none 0 0, .int .i64 0] ∧ Below w.heap.size w (w9.setCell ⟨w6.heap.size, 0, none⟩ a))) := by
      rintro y w9 p' c' hy ⟨o9, g9, li9⟩
      have hya : Below W7.heap.size W7 (y.alloc (.cells #[.string R.k, .string R.f, .int .i64 R.l, .int .i64 R.m] 28)) := alB hy _
      have hx7 := X7.lt
      have hys := hya.size
      have o9' : w9.ownsRow w5.heap.size 28 4 (.slice p' (rs.length + 1) c') (rs.take T ++ [R] ++ rs.drop T).length (rulRow (rs.take T ++ [R] ++ rs.drop T)) := by
        have e : (rs.take T ++ [R] ++ rs.drop T).length = rs.length + 1 := by simp; omega
        rw [e]; exact o9
      have P9 := (P7.below hya).new1 g9 o9' li9
      have nq : ∀ g, g < w5.heap.size ∨ w6.heap.size ≤ g → some g ≠ (Value.slice q1 rs.length d1').ownBlock := fun g hg e => by have := lt1.1 _ e.symm; omega
      have X9 := (X7.below hya).grown g9 (nq _ (.inr (Nat.le_refl _)))
      have U9 := ((KR2.out.below bw7).below hya).grown g9 (nq _ (.inl (by omega)))
      have R9 := ((K1.out.below bw7).below hya).grown g9 (nq _ (.inl (by omega)))
      have B9 : Below w.heap.size w w9 := (chainB (chainB B2.out bw7) hya).grown g9 (by omega) (fun j hj => by have := (lt1.1 _ hj).1; omega)
      have nz : some w6.heap.size ≠ (Value.slice p' (rs.length + 1) c').ownBlock := fun e => by
        rcases li9 w6.heap.size e.symm with q | q
        · have := (lt1.1 _ q).2; omega
        · omega
      have nz2 : some w6.heap.size ≠ (Value.slice q2 hs.length d2').ownBlock := fun e => by have := (lt1.2 _ e.symm).2; omega
      exact ⟨⟨X9.cell 0, U9.four⟩, ⟨X9.cell 0, X9.fr 0⟩, fun a => ⟨P9.setN nz nz2 0 a, X9.set 0 a, R9.other _ _ (by omega) _, B9.setCell (by show w.heap.size ≤ w6.heap.size; omega) _⟩⟩
    clear hW7 PO P7 b7 b6 lt1
    go_upto_region 9 with fail
    rw [← HW7.out]
    refine region_till (fun w' => w'.cell? ⟨w6.heap.size, 0, none⟩ = some (.slice q1 rs.length d1') ∧ (w'.cell? ⟨w.heap.size + 1, 0, none⟩ = some (.string R.k) ∧ w'.cell? ⟨w.heap.size + 1, 1, none⟩ = some (.string R.f) ∧ w'.cell? ⟨w.heap.size + 1, 2, none⟩ = some (.int .i64 R.l) ∧ w'.cell? ⟨w.heap.size + 1, 3, none⟩ = some (.int .i64 R.m))) 8 (by kernel_rfl) (HYS.out _ BR.out) (fun hHeld => ?_)
    refine till_take 0 (v := ?_) rfl (by kernel_rfl) (by kernel_rfl) (by kernel_rfl) (by kernel_rfl) (fun _ _ _ h => h) hHeld (Or.inl ⟨by rfl, ?_⟩) ?_
    rotate_left
    · (intro w hSw; (try dsimp only at hSw); go_simp; try with_reducible rfl)
    simp only [Act.put, List.setIfInBounds_toArray, List.set_cons_zero, List.set_cons_succ]
    refine till_take 1 (v := ?_) rfl (by kernel_rfl) (by kernel_rfl) (by kernel_rfl) (by kernel_rfl) (fun _ _ _ h => h) hHeld (Or.inl ⟨by rfl, ?_⟩) ?_
    rotate_left
    · (intro w hSw; (try dsimp only at hSw); go_simp; try with_reducible rfl)
    simp only [Act.put, List.setIfInBounds_toArray, List.set_cons_zero, List.set_cons_succ]
    refine till_take 2 (v := ?_) rfl (by kernel_rfl) (by kernel_rfl) (by kernel_rfl) (by kernel_rfl) (fun _ _ _ h => h) hHeld (Or.inl ⟨by rfl, ?_⟩) ?_
    rotate_left
    · (intro w hSw; (try dsimp only at hSw); go_simp; try with_reducible rfl)
    simp only [Act.put, List.setIfInBounds_toArray, List.set_cons_zero, List.set_cons_succ]
    refine till_take 3 (v := ?_) rfl (by kernel_rfl) (by kernel_rfl) (by kernel_rfl) (by kernel_rfl) (fun _ _ _ h => h) hHeld (Or.inl ⟨by rfl, ?_⟩) ?_
    rotate_left
    · (intro w hSw; (try dsimp only at hSw); go_simp; try with_reducible rfl)
    simp only [Act.put, List.setIfInBounds_toArray, List.set_cons_zero, List.set_cons_succ]
    refine till_ready 4 rfl (by kernel_rfl) (fun K hK => ?_)
    go_simp
    (go_at_call 25; with_reducible refine (HQc.out _).mono ?_; rintro e y1 ⟨rfl, z0⟩)
    have z1 : Below W7.heap.size W7 y1 := chainB BR.out z0
    refine hK.out _ _ (HYS.out _ z1) (fun hHeld => ?_)
    clear hK K
    try simp only [Act.put, List.setIfInBounds_toArray, List.set_cons_zero, List.set_cons_succ]
    refine till_ready 5 rfl (by kernel_rfl) (fun K hK => ?_)
    go_simp
    refine hK.out _ _ (HYS.out _ (alB z1 _)) (fun hHeld => ?_)
    clear hK K
    try simp only [Act.put, List.setIfInBounds_toArray, List.set_cons_zero, List.set_cons_succ]
    refine till_ready 6 rfl (by kernel_rfl) (fun K hK => ?_)
    go_simp
    (go_at_call 26; with_reducible refine (HIns.out y1 z1).mono ?_; rintro e w9 ⟨p', c', rfl, F9⟩)
    obtain ⟨hS9, E9⟩ := HAft.out y1 w9 p' c' z1 F9.out
    refine hK.out _ _ (hS9) (fun hHeld => ?_)
    clear hK K
    try simp only [Act.put, List.setIfInBounds_toArray, List.set_cons_zero, List.set_cons_succ]
    refine till_take 7 (v := ?_) rfl (by kernel_rfl) (by kernel_rfl) (by kernel_rfl) (by kernel_rfl) (fun _ _ _ h => h) hHeld (Or.inl ⟨by rfl, ?_⟩) ?_
    rotate_left
    · (intro w hSw; (try dsimp only at hSw); go_simp; try with_reducible rfl)
    simp only [Act.put, List.setIfInBounds_toArray, List.set_cons_zero, List.set_cons_succ]
    obtain ⟨i0', fi⟩ := E9.1
    refine till_last rfl (by kernel_rfl) (by kernel_rfl) (fun K hK => ?_)
    go_simp
    refine hK.out _ _ ?_
    clear hK K hHeld hS9
    obtain ⟨W9, hW9⟩ : ∃ W9, W9 = w9.setCell ⟨w6.heap.size, 0, none⟩ (.slice p' (rs.length + 1) c') := ⟨_, rfl⟩
    obtain ⟨P9, X9, R9, B9⟩ := E9.2.out (.slice p' (rs.length + 1) c')
    rw [← hW9] at P9 X9 R9 B9 ⊢
    have i0 : W9.cell? ⟨w6.heap.size, 0, none⟩ = some (.slice p' (rs.length + 1) c') := X9.cell 0
    have i1 : W9.cell? ⟨w6.heap.size, 1, none⟩ = some (.slice q2 hs.length d2') := X9.cell 1
    have r0 : W9.cell? ⟨w.heap.size + 1 + 1, 0, none⟩ = some (.slice none 0 0) := R9.cell 0
    have r1 : W9.cell? ⟨w.heap.size + 1 + 1, 1, none⟩ = some (.slice none 0 0) := R9.cell 1
    have r2 : W9.cell? ⟨w.heap.size + 1 + 1, 2, none⟩ = some (.int .i64 0) := R9.cell 2
    have f0 := R9.fr 0
    have f1 := R9.fr 1
    have f2 := R9.fr 2
    have HEnd : Hid (∀ b c d : Value, PolO w.heap.size (rs.take T ++ [R] ++ rs.drop T) hs (.slice p' (rs.length + 1) c') (.slice q2 hs.length d2') (((W9.setCell ⟨w.heap.size + 1 + 1, 0, none⟩ b).setCell ⟨w.heap.size + 1 + 1, 1, none⟩ c).setCell ⟨w.heap.size + 1 + 1, 2, none⟩ d) ∧ Below w.heap.size w (((W9.setCell ⟨w.heap.size + 1 + 1, 0, none⟩ b).setCell ⟨w.heap.size + 1 + 1, 1, none⟩ c).setCell ⟨w.heap.size + 1 + 1, 2, none⟩ d)) := fun b c d =>
      ⟨(((P9.set (by omega) 0 b).set (by omega) 1 c).set (by omega) 2 d).lower (by omega), ((B9.setCell (by show w.heap.size ≤ w.heap.size + 1 + 1; omega) _).setCell (by show w.heap.size ≤ w.heap.size + 1 + 1; omega) _).setCell (by show w.heap.size ≤ w.heap.size + 1 + 1; omega) _⟩
    clear P9 X9 R9 B9 hW9 HIns HAft HYS X7 bw7 z1 z0 E9 F9 i0'
    go_wp2_with fail
    refine bodyPost_ret (v := .agg #[.slice p' (rs.length + 1) c', .slice q2 hs.length d2', .int .i64 0]) (by simp [results, Try.results5, go_sem, r0, r1, r2]) rfl ?_
    exact ⟨_, _, rfl, HEnd.out _ _ _⟩
end Go.Proofs.Ytbgpkngnlfafcaa
