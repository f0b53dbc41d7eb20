/-
  Parts of one proof, laid as one text: SrchI, InsI, ImplHo, ImplFe, PolCs; what each says stands at its head.
-/
import Derived.Test.YtbgpkngnlfafcaaRows
import Derived.Test.YtbgpkngnlfafcaaBytes
import Derived.Test.YtbgpkngnlfafcaaIntK
import Derived.Test.YtbgpkngnlfafcaaPolMath
import Derived.Test.YtbgpkngnlfafcaaPolIdx
import Derived.Handy
import Derived.WalkSpells
import Derived.OwnWalk
import Derived.Test.YtbgpkngnlfafcaaSlA
import Derived.Test.YtbgpkngnlfafcaaOwnS
import Derived.Test.YtbgpkngnlfafcaaBxK
import Derived.Test.YtbgpkngnlfafcaaStepApp
import Derived.Test.YtbgpkngnlfafcaaRowOps
import Derived.Test.YtbgpkngnlfafcaaDelI
import Derived.Deep.RegionLaw
import Derived.Deep.RegionWith
import Derived.Deep.Cut
import Derived.Laws.Externs
import Derived.Test.YtbgpkngnlfafcaaRulMath
import Derived.Test.YtbgpkngnlfafcaaRulBlk
import Derived.Test.YtbgpkngnlfafcaaRulI
import Derived.Test.YtbgpkngnlfafcaaPolI
import Derived.Test.YtbgpkngnlfafcaaLawI
import Derived.Test.YtbgpkngnlfafcaaPolO
import Derived.Test.YtbgpkngnlfafcaaPolCp
import Derived.Test.YtbgpkngnlfafcaaPolAns
import Derived.Test.YtbgpkngnlfafcaaSlB
import Derived.Test.YtbgpkngnlfafcaaDelR
import Derived.Deep.CutRange
/-
  What slices.BinarySearch answers for numbers that rise.
-/
namespace Go.Proofs.Ytbgpkngnlfafcaa
open Go.RowKit Go.Lib
set_option linter.unusedVariables false
set_option maxRecDepth 20000

theorem isNaN64_any (x : Int) (w : World) : Calls Try.prog 65 #[.int .i64 x] w fun e w' => e = .returned (.bool false) ∧ w' = w := by
  go_enter Try.func65, Try.ntmps65
  go_wp2_with fail
  go_ret
  exact ⟨rfl, rfl⟩
theorem isNaNs64_any (x : Int) (w : World) : Calls Try.prog 55 #[.int .i64 x] w fun e w' => e = .returned (.bool false) ∧ w' = w := by
  go_enter Try.func55, Try.ntmps55
  go_wp2_with fail
  go_ret
  exact ⟨rfl, rfl⟩
theorem less64_any (x y : Int) (w : World) : Calls Try.prog 54 #[.int .i64 x, .int .i64 y] w fun e w' => e = .returned (.bool (decide (x < y))) ∧ w' = w := by
  have h1 := isNaN64_any x w
  generalize hb : decide (x < y) = b
  go_enter Try.func54, Try.ntmps54
  go_wp2_with fail
  refine h1.mono ?_
  rintro e w1 ⟨rfl, rfl⟩
  go_wp2_with fail
  go_ret
  exact ⟨rfl, rfl⟩
set_option maxHeartbeats 2000000 in
theorem search_any (p : Option Addr) (cap : Nat) (hs : List Int) (r : Int) (w : World) (hp : IntAt w p hs) (hn : hs.length ≤ 1000) (ho : okL heB heLt hs = true) :
    Calls Try.prog 30 #[.slice p hs.length cap, .int .i64 r] w fun e w' => e = .returned (.tuple #[.int .i64 (twI (ltI r) hs : Nat), .bool (thereB (ltI r) (eqI r) hs)]) ∧ w' = w := by
  have HP : Hid (IntAt w p hs) := hp
  have HM : Hid (∀ j (hj : j < hs.length) i (hi : i ≤ j), ltI r hs[j] = true → ltI r (hs[i]'(by omega)) = true) := monoI ho r
  clear hp ho
  have hT := tw_le (ltI r) hs
  have HT1 : Hid (∀ j (h : j < hs.length), j < twI (ltI r) hs → ltI r hs[j] = true) := fun j h hj => tw_lt (ltI r) hs j hj
  have HT2 : Hid (∀ j (h : j < hs.length), twI (ltI r) hs ≤ j → ltI r hs[j] = false) := fun j h hj => by
    cases hq : ltI r hs[j] with
    | false => rfl
    | true =>
      have a := HM.out j h _ hj hq
      rw [tw_at (ltI r) hs (by omega)] at a; cases a
  have HTH : Hid (thereB (ltI r) (eqI r) hs = if h : twI (ltI r) hs < hs.length then eqI r hs[twI (ltI r) hs] else false) := rfl
  generalize thereB (ltI r) (eqI r) hs = TH at *
  generalize hTe : twI (ltI r) hs = T at *
  clear hTe HM
  go_enter Try.func30, Try.ntmps30
  go_wp2_with fail
  go_loopw [7, 8] (fun x y wr => ∃ i j : Nat, i ≤ T ∧ T ≤ j ∧ j ≤ hs.length ∧ x = .int .i64 i ∧ y = .int .i64 j ∧ Hid (wr = w)) (fun x y _ => (intOf y).toNat - (intOf x).toNat)
  case atStart => exact ⟨0, hs.length, by omega, by omega, by omega, rfl, rfl, rfl⟩
  case round =>
    obtain ⟨i, j, h1, h2, h3, rfl, rfl, HW⟩ := hrel
    have HW := HW.out
    subst HW
    by_cases hlt : i < j
    · have i1 : (i : Int) < j := by omega
      have hHj : (i + j) / 2 < hs.length := by omega
      obtain ⟨b, off, rfl, hb, hc⟩ := HP.out ((i + j) / 2) hHj
      have g1 : Hid (ltI r hs[(i + j) / 2] = true → (i + j) / 2 + 1 ≤ T) := fun h => by
        rcases Nat.lt_or_ge ((i + j) / 2) T with q | q
        · exact q
        · have := HT2.out _ hHj q; rw [h] at this; cases this
      have g2 : Hid (ltI r hs[(i + j) / 2] = false → T ≤ (i + j) / 2) := fun h => by
        rcases Nat.lt_or_ge ((i + j) / 2) T with q | q
        · have := HT1.out _ hHj q; rw [h] at this; cases this
        · exact q
      have hL := less64_any hs[(i + j) / 2] r wr
      have HE : Hid (ltI r hs[(i + j) / 2] = decide (hs[(i + j) / 2] < r)) := rfl
      cases hq : ltI r hs[(i + j) / 2] with
      | true =>
        have k1 := g1.out hq
        rw [← HE.out, hq] at hL
        generalize hs[(i + j) / 2] = x at *
        clear g1 g2 HE hq
        go_wp2_with fail
        refine hL.mono ?_
        rintro e w1 ⟨rfl, rfl⟩
        go_wp2_with fail
        go_roundw
        case rel => exact ⟨(i + j) / 2 + 1, j, k1, h2, h3, congrArg (Value.int .i64) (by omega), rfl, trivial⟩
        case measure => simp [intOf]; omega
      | false =>
        have k1 := g2.out hq
        rw [← HE.out, hq] at hL
        generalize hs[(i + j) / 2] = x at *
        clear g1 g2 HE hq
        go_wp2_with fail
        refine hL.mono ?_
        rintro e w1 ⟨rfl, rfl⟩
        go_wp2_with fail
        go_roundw
        case rel => exact ⟨i, (i + j) / 2, h1, k1, by omega, rfl, congrArg (Value.int .i64) (by omega), trivial⟩
        case measure => simp [intOf]; omega
    · obtain rfl : i = T := by omega
      obtain rfl : j = i := by omega
      by_cases hk : j < hs.length
      · have i1 : (j : Int) < hs.length := by omega
        rw [dif_pos hk] at HTH
        obtain ⟨b, off, rfl, hb, hc⟩ := HP.out j hk
        have HE : Hid (eqI r hs[j] = (hs[j] == r)) := rfl
        have hN := isNaNs64_any hs[j] wr
        cases hq : eqI r hs[j] with
        | true =>
          have HTT : Hid (TH = true) := by rw [hq] at HTH; exact HTH
          have hx : hs[j] = r := by simpa [eqI] using hq
          rw [hx] at hc
          clear HE hq hx HT1 HT2 HTH hN
          go_wp2_with fail
          go_ret2
          exact ⟨by rw [HTT.out]; rfl, rfl⟩
        | false =>
          have HTT : Hid (TH = false) := by rw [hq] at HTH; exact HTH
          have hx : (hs[j] == r) = false := hq
          generalize hs[j] = x at *
          clear HE hq HT1 HT2 HTH
          go_wp2_with fail
          refine hN.mono ?_
          rintro e w1 ⟨rfl, rfl⟩
          go_wp2_with fail
          go_ret2
          exact ⟨by rw [HTT.out]; rfl, rfl⟩
      · have i1 : decide ((j : Int) < hs.length) = false := decide_eq_false (by omega)
        rw [dif_neg hk] at HTH
        have HTT : Hid (TH = false) := HTH
        clear HT1 HT2 HTH
        go_wp2_with fail
        go_ret2
        exact ⟨by rw [HTT.out]; rfl, rfl⟩
end Go.Proofs.Ytbgpkngnlfafcaa
/-
  slices.Insert of one element, on a row of its own, at int64.
-/
namespace Go.Proofs.Ytbgpkngnlfafcaa
open Go.RowKit Go.Lib
set_option linter.unusedVariables false
set_option maxRecDepth 20000

theorem insI_a (L P X Y R : List Value) (a s : Nat) (hP : L.take a = P) (hs : Y.length = s) (hl : a + s ≤ L.length) : ((L.take (a + s) ++ X ++ R).take a ++ Y ++ (L.take (a + s) ++ X ++ R).drop (a + s)).take (a + s + X.length) = P ++ Y ++ X := by
  have hPl : P.length = a := by rw [← hP, List.length_take]; omega
  have h1 : (L.take (a + s) ++ X ++ R).take a = P := by
    rw [List.append_assoc, List.take_append_of_le_length (by rw [List.length_take]; omega), List.take_take, Nat.min_eq_left (by omega)]; exact hP
  have h2 : (L.take (a + s) ++ X ++ R).drop (a + s) = X ++ R := by
    have hl2 : (L.take (a + s)).length = a + s := by rw [List.length_take]; omega
    rw [List.append_assoc, List.drop_append, hl2, Nat.sub_self, List.drop_zero, List.drop_eq_nil_of_le (by omega), List.nil_append]
  rw [h1, h2]
  have hl3 : (P ++ Y ++ X).length = a + s + X.length := by rw [List.length_append, List.length_append, hPl, hs]
  rw [← List.append_assoc, ← hl3, List.take_append_of_le_length (Nat.le_refl _), List.take_length]
theorem insI_b (L P X Y R R2 : List Value) (a s : Nat) (hP : L.take a = P) (hPl : P.length = a) (hs : Y.length = s) : ((L.take a ++ Y ++ R).take (a + s) ++ X ++ R2).take (a + s + X.length) = P ++ Y ++ X := by
  have h1 : (L.take a ++ Y ++ R).take (a + s) = P ++ Y := by
    rw [hP]
    have hl3 : (P ++ Y).length = a + s := by rw [List.length_append, hPl, hs]
    rw [← hl3, List.take_append_of_le_length (Nat.le_refl _), List.take_length]
  rw [h1]
  have hl3 : (P ++ Y ++ X).length = a + s + X.length := by rw [List.length_append, List.length_append, hPl, hs]
  rw [← hl3, List.take_append_of_le_length (Nat.le_refl _), List.take_length]
set_option maxHeartbeats 4000000 in
theorem insI_end (base : Nat) (v : Value) (n : Nat) (xs : List Value) (vb : Nat) (ys : List Value) (w : World) (h : w.ownsRow base 2 1 v n xs) (hv : Bxs w vb 2 ys.toArray) (hyl : ys.length = 1) (oy : ∀ u ∈ ys, u.oneCell' = true) (hbase : base ≤ w.heap.size) (hn : n ≤ 1000000) :
    Calls Try.prog 31 #[v, .int .i64 (n : Int), .slice (some ⟨vb, 0, none⟩) 1 1] w fun e w' => ∃ v', e = .returned v' ∧ w'.ownsRow base 2 1 v' (n + 1) (xs ++ ys) ∧ w.grownBy w' v.ownBlock ∧ Lies w v v' := by
  obtain ⟨i0, E⟩ := elI
  have hcv : CelAt w (some ⟨vb, 0, none⟩) ys := fun j hj => ⟨vb, 0, rfl, hv.lt, by rw [hv.cell]; simp [hj]⟩
  obtain ⟨v', w', AP, HO, HG, HL⟩ := app_cel E 24 w base v n xs h (some ⟨vb, 0, none⟩) 1 1 ys hcv (by omega) oy (by omega) (by unfold maxLen; omega) hbase
  have HO : Hid (w'.ownsRow base 2 1 v' (n + 1) (xs ++ ys)) := HO
  have HG : Hid (w.grownBy w' v.ownBlock) := HG
  have HL : Hid (Lies w v v') := HL
  have hm : n ≤ 9223372036854775807 := by omega
  rcases h.2 with ⟨rfl, rfl⟩ | ⟨g, cap, cur, rfl, _, _, hnc, hcm, _, _⟩
  · clear h hcv hv E
    go_enter Try.func31, Try.ntmps31
    go_wp2_with (at_builtin; refine wpList_app rfl _ _ _ _ rfl _ _ _ _ rfl rfl AP ?_)
    all_goals
      go_ret
      exact ⟨_, rfl, HO.out, HG.out, HL.out⟩
  · clear h hcv hv E
    have hm2 : cap ≤ 9223372036854775807 := hcm
    go_enter Try.func31, Try.ntmps31
    go_wp2_with (at_builtin; refine wpList_app rfl _ _ _ _ rfl _ _ _ _ rfl rfl AP ?_)
    all_goals
      go_ret
      exact ⟨_, rfl, HO.out, HG.out, HL.out⟩
set_option maxHeartbeats 8000000 in
theorem insI_room (base g n cap i : Nat) (xs : List Value) (vb : Nat) (ys : List Value) (w : World) (h : w.ownsRow base 2 1 (.slice (some ⟨g, 0, none⟩) n cap) n xs) (hi : i < n) (hr : n + 1 ≤ cap) (hv : Bxs w vb 2 ys.toArray) (hyl : ys.length = 1) (hne : vb ≠ g) (ox : ∀ u ∈ xs, u.oneCell' = true) (oy : ∀ u ∈ ys, u.oneCell' = true) :
    Calls Try.prog 31 #[.slice (some ⟨g, 0, none⟩) n cap, .int .i64 (i : Int), .slice (some ⟨vb, 0, none⟩) 1 1] w fun e w' => ∃ v', e = .returned v' ∧ w'.ownsRow base 2 1 v' (n + 1) (xs.take (i * 1) ++ ys ++ xs.drop (i * 1)) ∧ w.grownBy w' (some g) ∧ v' = .slice (some ⟨g, 0, none⟩) (n + 1) cap := by
  obtain ⟨i0, E⟩ := elI
  obtain ⟨cur, hg, hb, hn, hm, hs, ht⟩ := own_bxs h
  have hxl := h.1
  have hcl : cur.toList.length = cap * 1 := by simpa using hs
  have hm' : cap ≤ 9223372036854775807 := hm
  obtain ⟨X, hX⟩ : ∃ X, X = xs.drop (i * 1) := ⟨_, rfl⟩
  have hXl : X.length = (n - i) * 1 := by rw [hX, List.length_drop, hxl, ← Nat.sub_mul]
  obtain ⟨R, hR⟩ : ∃ R, R = cur.toList.drop ((i + 1) * 1 + X.length) := ⟨_, rfl⟩
  obtain ⟨L1, hL1⟩ : ∃ c : List Value, c = cur.toList.take ((i + 1) * 1) ++ X ++ R := ⟨_, rfl⟩
  have h1l : L1.length = cap * 1 := by rw [hL1, hR]; simp only [List.length_append, List.length_take, List.length_drop, hcl, hXl]; omega
  obtain ⟨L2, hL2⟩ : ∃ c : List Value, c = L1.take (i * 1) ++ ys ++ L1.drop (i * 1 + ys.length) := ⟨_, rfl⟩
  have h2l : L2.length = cap * 1 := by rw [hL2]; simp only [List.length_append, List.length_take, List.length_drop, h1l, hyl]; omega
  have hxt : cur.toList.take (i * 1) = xs.take (i * 1) := by rw [← ht, List.take_take, Nat.min_eq_left (Nat.mul_le_mul_right _ (by omega))]
  have hfin : L2.take ((n + 1) * 1) = xs.take (i * 1) ++ ys ++ xs.drop (i * 1) := by
    have := insI_a cur.toList (xs.take (i * 1)) X ys R (i * 1) 1 hxt hyl (by rw [hcl]; omega)
    have e1 : (n + 1) * 1 = i * 1 + 1 + X.length := by rw [hXl]; omega
    rw [e1, hL2, hyl, hL1, show (i + 1) * 1 = i * 1 + 1 by omega, this, hX]
  obtain ⟨J, hJ⟩ : ∃ J, J = i + 1 := ⟨_, rfl⟩
  have CPa : (Builtin.copy_ #[24, 24] 3 #[.slice (some ⟨g, J, none⟩) (n + 1 - J) (cap - J), .slice (some ⟨g, i, none⟩) (n + 1 - i) (cap - i)]).run Try.prog w.drew = .ok (.int .i64 ((n - i : Nat) : Int)) (w.drew.setRow g L1.toArray) := by
    have e0 : (⟨g, J, none⟩ : Addr) = ⟨g, (i + 1) * 1, none⟩ := by subst hJ; first | rfl | (congr 1; omega)
    rw [e0, hL1, hR]
    exact run_copy_bx E 3 w.drew g ((i + 1) * 1) _ _ ⟨g, i, none⟩ _ _ (n - i) cur X hg (by show _ = min _ _; omega) hXl (fun j u hu => by
      obtain ⟨hj, rfl⟩ := List.getElem?_eq_some_iff.1 hu
      have hgd : Bxs w.drew g 2 cur := hg
      subst hX
      have hj2 : j < xs.length - i * 1 := by simpa using hj
      rw [Addr.add_lit, hgd.cell, show i + j = i * 1 + j by omega, List.getElem_drop, ← List.getElem?_eq_getElem (by omega), ← ht, List.getElem?_take_of_lt (by omega)]
      simp) (by rw [hXl, hs]; omega) (fun u hu => ox u (by rw [hX] at hu; exact List.mem_of_mem_drop hu))
  obtain ⟨W1, hW1⟩ : ∃ W1, W1 = w.drew.setRow g L1.toArray := ⟨_, rfl⟩
  rw [← hW1] at CPa
  have hg1 : Bxs W1 g 2 L1.toArray := by rw [hW1]; exact Bxs.row (cs := cur) hg _
  have hv1 : Bxs W1 vb 2 ys.toArray := by rw [hW1]; exact Bxs.rowOther (w := w.drew) hv g _ hne
  have CPb : (Builtin.copy_ #[24, 24] 3 #[.slice (some ⟨g, i, none⟩) (n + 1 - i) (cap - i), .slice (some ⟨vb, 0, none⟩) 1 1]).run Try.prog W1 = .ok (.int .i64 1) (W1.setRow g L2.toArray) := by
    have e0 : (⟨g, i, none⟩ : Addr) = ⟨g, i * 1, none⟩ := by first | rfl | (congr 1; omega)
    rw [e0, hL2]
    have := run_copy_bx E 3 W1 g (i * 1) (n + 1 - i) (cap - i) ⟨vb, 0, none⟩ 1 1 1 L1.toArray ys hg1 (by show _ = min _ _; omega) (by omega) (fun j u hu => by
      obtain ⟨hj, rfl⟩ := List.getElem?_eq_some_iff.1 hu
      rw [Addr.add_lit, Nat.zero_add, hv1.cell]
      simp [hj]) (by rw [hyl]; simp [h1l]; omega) oy
    rw [List.toList_toArray] at this
    exact this
  obtain ⟨W2, hW2⟩ : ∃ W2, W2 = W1.setRow g L2.toArray := ⟨_, rfl⟩
  rw [← hW2] at CPb
  have HO : Hid (W2.ownsRow base 2 1 (.slice (some ⟨g, 0, none⟩) (n + 1) cap) (n + 1) (xs.take (i * 1) ++ ys ++ xs.drop (i * 1))) := by
    show World.ownsRow _ _ _ _ _ _ _
    rw [hW2]; exact bxs_own (hg1.row _) hb hr hm (by simp [h2l]) (by rw [List.toList_toArray]; exact hfin)
  have HG : Hid (w.grownBy W2 (some g)) := by
    rw [hW2, hW1]
    refine ⟨rfl, rfl, rfl, by simp, fun k hk hne => ?_⟩
    rw [row_other _ _ _ _ (fun e => hne (by rw [e])), row_other _ _ _ _ (fun e => hne (by rw [e]))]; rfl
  have OV : Hid (∀ y : World, y.heap = w.heap → (callFunc 56 #[.slice (some ⟨vb, 0, none⟩) 1 1, .slice (some ⟨g, J, none⟩) (n + 1 - J) (cap - J)]).run Try.prog y = .ok (.value (.bool false)) y) := fun y hy => by
    have yg : Bxs y g 2 cur := by unfold Bxs; rw [hy]; exact hg
    have yv : Bxs y vb 2 ys.toArray := by unfold Bxs; rw [hy]; exact hv
    rw [run_callFunc_extern Try.func56 (by kernel_rfl) (by kernel_rfl) (by kernel_rfl) (e := Extern.SlicesOverlaps.overlaps #[24, 24] #[4]) (by kernel_rfl),
      Lib.run_overlaps_apart y 24 4 2 Try.underlying24 1 Try.sizeOf2 ⟨vb, 0, none⟩ ⟨g, J, none⟩ 1 1 (n + 1 - J) (cap - J) hne 2 2 ys.toArray.size cur.size (by unfold Bxs at yv; simp [World.shape?, yv]) (by unfold Bxs at yg; simp [World.shape?, yg]) (by omega) (yv.fr 0) (yv.fr _)]
    rfl
  clear hg hg1 hv1 hv hW1 hW2 hL1 hL2 h1l h2l hfin hX hXl hR E h ox oy ht hxt hxl hcl hs hb
  have q1 : (i : Int) ≤ n := by omega
  have q2 : decide ((i : Int) = n) = false := decide_eq_false (by omega)
  have q3 : ((i : Int) == n) = false := by simp; omega
  have q4 : decide ((cap : Int) < (n : Int) + 1) = false := decide_eq_false (by omega)
  have OV1 := OV.out w rfl
  have hic : i ≤ cap := by omega
  have hjc : i + 1 ≤ cap := by omega
  have hj0 : (0 : Int) ≤ (i : Int) + 1 := by omega
  have hin : i ≤ n := by omega
  have hin1 : i + 1 ≤ n + 1 := by omega
  have hin2 : i ≤ n + 1 := by omega
  have hin3 : (i : Int) ≤ (n : Int) + 1 := by omega
  have hci : ¬ cap = i := by omega
  have hci1 : ¬ cap = i + 1 := by omega
  have hcJ : ¬ cap = J := by omega
  have hJn : (J : Int) ≤ (n : Int) + 1 := by omega
  have hJw : IntKind.i64.wrap ((i : Int) + 1) = (J : Int) := by rw [IntKind.wrap_i64]; omega
  have HJ : Hid (J = i + 1) := hJ
  clear hJ
  go_enter Try.func31, Try.ntmps31
  go_wp2_with fail
  go_region_law (refine step_copy_bx rfl (.tmp 73) (.tmp 76) 24 24 rfl _ _ _ _ (by simp [Act.eval, Act.put]) (by simp [Act.eval, Act.put]) CPa ?_)
  all_goals
    go_wp2_with (at_builtin; refine wpList_copy_bx rfl _ _ _ _ rfl _ _ _ _ rfl rfl CPb ?_)
    go_ret
    exact ⟨_, rfl, HO.out, HG.out, rfl⟩
set_option maxHeartbeats 8000000 in
theorem insI_grow (base g n cap i : Nat) (xs : List Value) (vb : Nat) (ys : List Value) (w : World) (h : w.ownsRow base 2 1 (.slice (some ⟨g, 0, none⟩) n cap) n xs) (hi : i < n) (hr : cap < n + 1) (hv : Bxs w vb 2 ys.toArray) (hyl : ys.length = 1) (ox : ∀ u ∈ xs, u.oneCell' = true) (oy : ∀ u ∈ ys, u.oneCell' = true) (hbase : base ≤ w.heap.size) (hn6 : n ≤ 1000000) :
    Calls Try.prog 31 #[.slice (some ⟨g, 0, none⟩) n cap, .int .i64 (i : Int), .slice (some ⟨vb, 0, none⟩) 1 1] w fun e w' => ∃ v', e = .returned v' ∧ w'.ownsRow base 2 1 v' (n + 1) (xs.take (i * 1) ++ ys ++ xs.drop (i * 1)) ∧ w.grownBy w' (some g) ∧ ∃ C, v' = .slice (some ⟨w.heap.size, 0, none⟩) (n + 1) C := by
  obtain ⟨i0, E⟩ := elI
  obtain ⟨cur, hg, hb, hn, hm, hs, ht⟩ := own_bxs h
  have hgl := hg.lt
  have hvl := hv.lt
  have hxl := h.1
  have hm' : cap ≤ 9223372036854775807 := hm
  obtain ⟨k, hk⟩ : ∃ k, k = n + 1 - i := ⟨_, rfl⟩
  have hik : i + k = n + 1 := by omega
  obtain ⟨olds, holds⟩ : ∃ o, o = xs.take (i * 1) := ⟨_, rfl⟩
  have hol : olds.length = i * 1 := by rw [holds, List.length_take, hxl]; omega
  have hold : (Builtin.firstCells i0.size i (.slice (some ⟨g, 0, none⟩) i cap)).run Try.prog w.drew = .ok olds.toArray w.drew := by
    rw [E.hs]
    refine run_firstCells_some (P := Try.prog) w.drew 1 i ⟨g, 0, none⟩ i cap olds hol (fun j u hu => ?_)
    obtain ⟨hj, rfl⟩ := List.getElem?_eq_some_iff.1 hu
    have hgd : Bxs w.drew g 2 cur := hg
    subst holds
    have hj2 : j < xs.length := by rw [List.length_take] at hj; omega
    rw [Addr.add_lit, hgd.cell, Nat.zero_add, List.getElem_take, ← List.getElem?_eq_getElem hj2, ← ht, List.getElem?_take_of_lt (by omega)]
    simp
  have hfits : Builtin.nextslicecap (i + k) cap * i0.bytes ≤ 281474976710656 := by
    rw [hik, E.hb]; exact growslice_fits hr (by omega)
  have AZ := run_append_grow_zeros (P := Try.prog) w 24 3 24 2 i0 (.int .i64 0) .i64 .i64 E.ht Try.underlying3 E.hi E.hz (some ⟨g, 0, none⟩) i cap olds hold k (by omega) (by rw [E.hs]; omega) (by omega) (by omega) (by rw [E.hb]; omega) hfits
  have hge := grownCap_ge w (i + k) cap 2
  have hcm : grownCap w (i + k) cap 2 ≤ maxLen := grownCap_le_maxLen w (i + k) cap 2 (by unfold maxLen; omega)
  rw [hik] at AZ hge hcm
  generalize grownCap w (n + 1) cap 2 = C at *
  have hcm' : C ≤ 9223372036854775807 := hcm
  rw [show ((k : Nat) : Int) = (n : Int) + 1 - i by omega] at AZ
  obtain ⟨c1, hc1⟩ : ∃ c : Array Value, c = olds.toArray ++ Builtin.zeroCells (Value.cells (.int .i64 0)) k ++ Builtin.zeroCells (Value.cells (.int .i64 0)) (C - (n + 1)) := ⟨_, rfl⟩
  rw [← hc1] at AZ
  have h1l : c1.toList.length = C * 1 := by
    rw [Array.length_toList, hc1]
    simp only [Array.size_append, List.size_toArray, size_zeroCells, E.hzs, hol]
    omega
  have h1t : c1.toList.take (i * 1) = olds := by
    rw [hc1, Array.toList_append, Array.toList_append, List.append_assoc, ← hol, List.take_append_of_le_length (Nat.le_refl _), List.take_length]
  obtain ⟨W1, hW1⟩ : ∃ W1, W1 = w.drew.alloc (.cells c1 2) := ⟨_, rfl⟩
  rw [← hW1] at AZ
  have hg1 : Bxs W1 w.heap.size 2 c1 := by rw [hW1]; exact Bxs.new w.drew _ _
  have hv1 : Bxs W1 vb 2 ys.toArray := by rw [hW1]; exact Bxs.alloc (w := w.drew) hv _
  have hs1 : Bxs W1 g 2 cur := by rw [hW1]; exact Bxs.alloc (w := w.drew) hg _
  obtain ⟨R, hR⟩ : ∃ R, R = c1.toList.drop (i * 1 + ys.length) := ⟨_, rfl⟩
  obtain ⟨L2, hL2⟩ : ∃ c : List Value, c = c1.toList.take (i * 1) ++ ys ++ R := ⟨_, rfl⟩
  have h2l : L2.length = C * 1 := by rw [hL2, hR]; simp only [List.length_append, List.length_take, List.length_drop, h1l, hyl]; omega
  have CPb : (Builtin.copy_ #[24, 24] 3 #[.slice (some ⟨w.heap.size, i, none⟩) (n + 1 - i) (C - i), .slice (some ⟨vb, 0, none⟩) 1 1]).run Try.prog W1 = .ok (.int .i64 1) (W1.setRow w.heap.size L2.toArray) := by
    have e0 : (⟨w.heap.size, i, none⟩ : Addr) = ⟨w.heap.size, i * 1, none⟩ := by first | rfl | (congr 1; omega)
    rw [e0, hL2, hR]
    exact run_copy_bx E 3 W1 w.heap.size (i * 1) (n + 1 - i) (C - i) ⟨vb, 0, none⟩ 1 1 1 c1 ys hg1 (by show _ = min _ _; omega) (by omega) (fun j u hu => by
      obtain ⟨hj, rfl⟩ := List.getElem?_eq_some_iff.1 hu
      rw [Addr.add_lit, Nat.zero_add, hv1.cell]
      simp [hj]) (by rw [hyl]; simp at h1l; omega) oy
  obtain ⟨W2, hW2⟩ : ∃ W2, W2 = W1.setRow w.heap.size L2.toArray := ⟨_, rfl⟩
  rw [← hW2] at CPb
  have hg2 : Bxs W2 w.heap.size 2 L2.toArray := by rw [hW2]; exact hg1.row _
  have hs2 : Bxs W2 g 2 cur := by rw [hW2]; exact hs1.rowOther _ _ (by omega)
  obtain ⟨X, hX⟩ : ∃ X, X = xs.drop (i * 1) := ⟨_, rfl⟩
  have hXl : X.length = (n - i) * 1 := by rw [hX, List.length_drop, hxl, ← Nat.sub_mul]
  obtain ⟨L3, hL3⟩ : ∃ c : List Value, c = L2.take ((i + 1) * 1) ++ X ++ L2.drop ((i + 1) * 1 + X.length) := ⟨_, rfl⟩
  have h3l : L3.length = C * 1 := by rw [hL3]; simp only [List.length_append, List.length_take, List.length_drop, h2l, hXl]; omega
  obtain ⟨J, hJ⟩ : ∃ J, J = i + 1 := ⟨_, rfl⟩
  have CPa : (Builtin.copy_ #[24, 24] 3 #[.slice (some ⟨w.heap.size, J, none⟩) (n + 1 - J) (C - J), .slice (some ⟨g, i, none⟩) (n - i) (cap - i)]).run Try.prog W2.drew = .ok (.int .i64 ((n - i : Nat) : Int)) (W2.drew.setRow w.heap.size L3.toArray) := by
    have e0 : (⟨w.heap.size, J, none⟩ : Addr) = ⟨w.heap.size, (i + 1) * 1, none⟩ := by subst hJ; first | rfl | (congr 1; omega)
    rw [e0, hL3]
    have := run_copy_bx E 3 W2.drew w.heap.size ((i + 1) * 1) (n + 1 - J) (C - J) ⟨g, i, none⟩ (n - i) (cap - i) (n - i) L2.toArray X hg2 (by show _ = min _ _; omega) hXl (fun j u hu => by
      obtain ⟨hj, rfl⟩ := List.getElem?_eq_some_iff.1 hu
      have hgd : Bxs W2.drew g 2 cur := hs2
      subst hX
      have hj2 : j < xs.length - i * 1 := by simpa using hj
      rw [Addr.add_lit, hgd.cell, show i + j = i * 1 + j by omega, List.getElem_drop, ← List.getElem?_eq_getElem (by omega), ← ht, List.getElem?_take_of_lt (by omega)]
      simp) (by rw [hXl]; simp [h2l]; omega) (fun u hu => ox u (by rw [hX] at hu; exact List.mem_of_mem_drop hu))
    rw [List.toList_toArray] at this
    exact this
  obtain ⟨W3, hW3⟩ : ∃ W3, W3 = W2.drew.setRow w.heap.size L3.toArray := ⟨_, rfl⟩
  rw [← hW3] at CPa
  have hfin : L3.take ((n + 1) * 1) = xs.take (i * 1) ++ ys ++ xs.drop (i * 1) := by
    have := insI_b c1.toList olds X ys R (L2.drop ((i + 1) * 1 + X.length)) (i * 1) 1 h1t hol hyl
    have e1 : (n + 1) * 1 = i * 1 + 1 + X.length := by rw [hXl]; omega
    rw [← hL2, show i * 1 + 1 = (i + 1) * 1 by omega, ← hL3] at this
    rw [e1, show i * 1 + 1 = (i + 1) * 1 by omega, this, holds, hX]
  have HO : Hid (W3.ownsRow base 2 1 (.slice (some ⟨w.heap.size, 0, none⟩) (n + 1) C) (n + 1) (xs.take (i * 1) ++ ys ++ xs.drop (i * 1))) := by
    show World.ownsRow _ _ _ _ _ _ _
    rw [hW3]; exact bxs_own (Bxs.row (w := W2.drew) hg2 _) hbase hge hcm (by simp [h3l]) (by rw [List.toList_toArray]; exact hfin)
  have HG : Hid (w.grownBy W3 (some g)) := by
    rw [hW3, hW2, hW1]
    refine ⟨rfl, rfl, rfl, by simp [World.setRow], fun k hk hne => ?_⟩
    rw [row_other _ _ _ _ (by omega)]
    show (World.setRow _ _ _).heap[k]? = _
    rw [row_other _ _ _ _ (by omega)]
    exact Below.heap_alloc _ _ _ hk
  clear hg hg1 hv1 hv hs1 hs2 hg2 hW1 hW2 hW3 hL2 hL3 h1l h2l h3l hfin hX hXl hR E h ox oy ht hxl hs hb hold holds hol hc1 h1t hfits hgl hvl
  have q1 : (i : Int) ≤ n := by omega
  have q2 : decide ((i : Int) = n) = false := decide_eq_false (by omega)
  have q3 : ((i : Int) == n) = false := by simp; omega
  have q4 : decide ((cap : Int) < (n : Int) + 1) = true := decide_eq_true (by omega)
  have hic : i ≤ cap := by omega
  have hin : i ≤ n := by omega
  have hin2 : i ≤ n + 1 := by omega
  have hin3 : (i : Int) ≤ (n : Int) + 1 := by omega
  have hci : ¬ cap = i := by omega
  have hCi : ¬ C = i := by omega
  have hCJ : ¬ C = J := by omega
  have hJn : (J : Int) ≤ (n : Int) + 1 := by omega
  have hJw : IntKind.i64.wrap ((i : Int) + 1) = (J : Int) := by rw [IntKind.wrap_i64]; omega
  have HJ : Hid (J = i + 1) := hJ
  clear hJ hik hk
  go_enter Try.func31, Try.ntmps31
  go_wp2_with (first | (at_builtin; refine wpList_app rfl _ _ _ _ rfl _ _ _ _ rfl rfl AZ ?_) | (at_builtin; refine wpList_copy_bx rfl _ _ _ _ rfl _ _ _ _ rfl rfl CPb ?_))
  go_region_law (refine step_copy_bx rfl (.tmp 50) (.tmp 53) 24 24 rfl _ _ _ _ (by simp [Act.eval, Act.put]) (by simp [Act.eval, Act.put]) CPa ?_)
  all_goals
    go_wp2_with fail
    go_ret
    exact ⟨_, rfl, HO.out, HG.out, _, rfl⟩
theorem insI_any (base : Nat) (v : Value) (n i : Nat) (xs : List Value) (vb : Nat) (ys : List Value) (w : World) (h : w.ownsRow base 2 1 v n xs) (hi : i ≤ n) (hv : Bxs w vb 2 ys.toArray) (hyl : ys.length = 1) (hne : some vb ≠ v.ownBlock) (ox : ∀ u ∈ xs, u.oneCell' = true) (oy : ∀ u ∈ ys, u.oneCell' = true) (hbase : base ≤ w.heap.size) (hn6 : n ≤ 1000000) :
    Calls Try.prog 31 #[v, .int .i64 (i : Int), .slice (some ⟨vb, 0, none⟩) 1 1] w fun e w' => ∃ v', e = .returned v' ∧ w'.ownsRow base 2 1 v' (n + 1) (xs.take (i * 1) ++ ys ++ xs.drop (i * 1)) ∧ w.grownBy w' v.ownBlock ∧ Lies w v v' := by
  by_cases he : i = n
  · subst he
    have e1 : xs.take (i * 1) = xs := List.take_of_length_le (by rw [h.1]; exact Nat.le_refl _)
    have e2 : xs.drop (i * 1) = [] := List.drop_eq_nil_of_le (by rw [h.1]; exact Nat.le_refl _)
    rw [e1, e2, List.append_nil]
    exact insI_end base v i xs vb ys w h hv hyl oy hbase hn6
  · rcases h.2 with ⟨rfl, rfl⟩ | ⟨g, cap, cur, rfl, _, _, hnc, hcm, _, _⟩
    · omega
    · by_cases hr : n + 1 ≤ cap
      · refine (insI_room base g n cap i xs vb ys w h (by omega) hr hv hyl (fun e => hne (by rw [e]; rfl)) ox oy).mono ?_
        rintro e w' ⟨v', rfl, h1, h2, rfl⟩
        exact ⟨_, rfl, h1, h2, fun j hj => .inl hj⟩
      · refine (insI_grow base g n cap i xs vb ys w h (by omega) (by omega) hv hyl ox oy hbase hn6).mono ?_
        rintro e w' ⟨v', rfl, h1, h2, C, rfl⟩
        exact ⟨_, rfl, h1, h2, fun j hj => .inr (by have : some w.heap.size = some j := hj; cases this; exact Nat.le_refl _)⟩
end Go.Proofs.Ytbgpkngnlfafcaa
/-
  What the program's Hold and Free answer.
  Conditions: the cells of Rules and Held hold the rules and numbers.
-/
namespace Go.Proofs.Ytbgpkngnlfafcaa
open Go.RowKit Go.Lib
set_option linter.unusedVariables false
set_option maxRecDepth 20000

set_option maxHeartbeats 4000000 in
theorem implHold_any (p1 p2 : Option Addr) (c1 c2 : Nat) (rs : List Rul) (hs : List Int) (r : Int) (w : World) (hr : RulAt w p1 rs) (hh : IntAt w p2 hs) (n1 : rs.length ≤ 1048576) (n2 : hs.length ≤ 1048576) (m1 : rs.length ≤ c1) (m2 : hs.length ≤ c2) (hz : RulsLe rs) :
    Calls Try.prog 8 #[.agg #[.slice p1 rs.length c1, .slice p2 hs.length c2], .int .i64 r] w fun e w' => ∃ v1 v2, e = .returned (.agg #[v1, v2, .int .i64 (hoC rs hs r)]) ∧ PolO w.heap.size (hoR rs hs r) (hoH rs hs r) v1 v2 w' ∧ Below w.heap.size w w' := by
  have HC : Hid (hoC rs hs r = if polB rs hs = true ∧ heB r = true then (if hoB hs r = true then 7 else 0) else 1) := rfl
  have HRr : Hid (hoR rs hs r = if hoC rs hs r = 0 then rs else []) := rfl
  have HHr : Hid (hoH rs hs r = if hoC rs hs r = 0 then hs.take (hoT hs r) ++ [r] ++ hs.drop (hoT hs r) else []) := rfl
  obtain ⟨W2, hW2⟩ : ∃ W2, W2 = (w.alloc (.cells #[.slice p1 rs.length c1, .slice p2 hs.length c2] 26)).alloc (.cells #[.slice none 0 0, .slice none 0 0, .int .i64 0] 32) := ⟨_, rfl⟩
  have HW2 : Hid (W2 = (w.alloc (.cells #[.slice p1 rs.length c1, .slice p2 hs.length c2] 26)).alloc (.cells #[.slice none 0 0, .slice none 0 0, .int .i64 0] 32)) := hW2
  have hs1 : (w.alloc (.cells #[.slice p1 rs.length c1, .slice p2 hs.length c2] 26)).heap.size = w.heap.size + 1 := by simp
  have HS2 : Hid (W2.heap.size = w.heap.size + 2) := by rw [hW2]; show _ = _; simp
  have K0 : Hid (Bxs W2 w.heap.size 26 #[.slice p1 rs.length c1, .slice p2 hs.length c2]) := by rw [hW2]; exact (Bxs.new _ _ _).alloc _
  have K1 : Hid (Bxs W2 (w.heap.size + 1) 32 #[.slice none 0 0, .slice none 0 0, .int .i64 0]) := by rw [hW2, ← hs1]; exact Bxs.new _ _ _
  have B2 : Hid (Below w.heap.size w W2) := by rw [hW2]; exact ((Below.refl _ _).alloc (Nat.le_refl _) _).alloc (by rw [hs1]; omega) _
  have HP : Hid (∀ x, Below W2.heap.size W2 x → x.cell? ⟨w.heap.size, 0, none⟩ = some (.slice p1 rs.length c1) ∧ x.cell? ⟨w.heap.size, 1, none⟩ = some (.slice p2 hs.length c2)) := fun x hb => (K0.out.below hb).two
  have HR : Hid (∀ x, Below W2.heap.size W2 x → x.cell? ⟨w.heap.size + 1, 0, none⟩ = some (.slice none 0 0) ∧ x.cell? ⟨w.heap.size + 1, 1, none⟩ = some (.slice none 0 0) ∧ x.cell? ⟨w.heap.size + 1, 2, none⟩ = some (.int .i64 0) ∧ x.frozen? ⟨w.heap.size + 1, 0, none⟩ = false ∧ x.frozen? ⟨w.heap.size + 1, 1, none⟩ = false ∧ x.frozen? ⟨w.heap.size + 1, 2, none⟩ = false) := fun x hb => ⟨(K1.out.below hb).cell 0, (K1.out.below hb).cell 1, (K1.out.below hb).cell 2, (K1.out.below hb).fr 0, (K1.out.below hb).fr 1, (K1.out.below hb).fr 2⟩
  have HS3 : Hid (∀ x, Below W2.heap.size W2 x → ∀ a b c : Value, Below w.heap.size w (((x.setCell ⟨w.heap.size + 1, 0, none⟩ a).setCell ⟨w.heap.size + 1, 1, none⟩ b).setCell ⟨w.heap.size + 1, 2, none⟩ c)) := fun x hb a b c => (((chainB B2.out hb).setCell (by show w.heap.size ≤ w.heap.size + 1; omega) _).setCell (by show w.heap.size ≤ w.heap.size + 1; omega) _).setCell (by show w.heap.size ≤ w.heap.size + 1; omega) _
  have HRu : Hid (RulAt W2 p1 rs) := hr.below B2.out
  have HIn : Hid (IntAt W2 p2 hs) := hh.below B2.out
  obtain ⟨x0, x1⟩ := HP.out W2 (Below.refl _ _)
  have y0 := x0
  have y1 := x1
  rw [hW2] at y0 y1
  have hQ := implPolicyRight_any p1 p2 c1 c2 rs hs W2 HRu.out HIn.out n1 n2 m1 m2 hz
  have HK : Hid (∀ x, Calls Try.prog 29 #[.int .i64 r] x fun e w' => e = .returned (.bool (heB r)) ∧ w' = x) := fun x => heldRowRight_any r x
  clear hW2 hs1 hr hh K0 hz
  cases hpb : polB rs hs with
  | false =>
    have e1 : hoC rs hs r = 1 := by rw [HC.out, if_neg (by rw [hpb]; simp)]
    rw [HRr.out, HHr.out, e1, if_neg (by omega), if_neg (by omega)]
    rw [hpb] at hQ
    clear HC HRr HHr e1
    go_enter Try.func8, Try.ntmps8
    go_wp2_with fail
    rw [← HW2.out]
    refine hQ.mono ?_
    rintro e w3 ⟨rfl, b3⟩
    obtain ⟨r0, r1, r2, f0, f1, f2⟩ := HR.out w3 b3
    have HE := HS3.out w3 b3 (.slice none 0 0) (.slice none 0 0) (.int .i64 1)
    go_wp2_with fail
    refine bodyPost_ret (v := .agg #[.slice none 0 0, .slice none 0 0, .int .i64 1]) (by simp [results, Try.results8, go_sem, r0, r1, r2]) rfl ?_
    exact ⟨_, _, rfl, PolO.nil _ _, HE⟩
  | true =>
  obtain ⟨hl6, ho1, ho2, hh6, hsz⟩ := polB_parts hpb
  rw [hpb] at hQ
  cases hhb : heB r with
  | false =>
    have e1 : hoC rs hs r = 1 := by rw [HC.out, if_neg (by rw [hhb]; simp)]
    rw [HRr.out, HHr.out, e1, if_neg (by omega), if_neg (by omega)]
    rw [hhb] at HK
    clear HC HRr HHr e1
    go_enter Try.func8, Try.ntmps8
    go_wp2_with fail
    rw [← HW2.out]
    refine hQ.mono ?_
    rintro e w3 ⟨rfl, b3⟩
    go_wp2_with fail
    refine (HK.out w3).mono ?_
    rintro e w4 ⟨rfl, rfl⟩
    obtain ⟨r0, r1, r2, f0, f1, f2⟩ := HR.out w4 b3
    have HE := HS3.out w4 b3 (.slice none 0 0) (.slice none 0 0) (.int .i64 1)
    go_wp2_with fail
    refine bodyPost_ret (v := .agg #[.slice none 0 0, .slice none 0 0, .int .i64 1]) (by simp [results, Try.results8, go_sem, r0, r1, r2]) rfl ?_
    exact ⟨_, _, rfl, PolO.nil _ _, HE⟩
  | true =>
  rw [hhb] at HK
  rw [if_pos (show polB rs hs = true ∧ heB r = true from ⟨hpb, hhb⟩)] at HC
  have HSr : Hid (∀ x, Below W2.heap.size W2 x → Calls Try.prog 30 #[.slice p2 hs.length c2, .int .i64 r] x fun e w' => e = .returned (.tuple #[.int .i64 (hoT hs r : Nat), .bool (hoB hs r)]) ∧ w' = x) := fun x hb => search_any p2 c2 hs r x (HIn.out.below hb) (by omega) ho2
  have HCp : Hid (∀ x, Below W2.heap.size W2 x → Calls Try.prog 24 #[.agg #[.slice p1 rs.length c1, .slice p2 hs.length c2]] x fun e w' => ∃ v1 v2, e = .returned (.agg #[v1, v2]) ∧ PolO x.heap.size rs hs v1 v2 w' ∧ Below x.heap.size x w') := fun x hb => copiedPolicy_any p1 p2 c1 c2 rs hs x (HRu.out.below hb) (HIn.out.below hb) n1 n2 m1 (fun q hq => by have := hsz q hq; omega)
  have hTn : hoT hs r ≤ hs.length := tw_le _ _
  have HTl : Hid (hoB hs r = true → hoT hs r < hs.length) := fun h => there_lt h
  cases htb : hoB hs r with
  | true =>
    have e1 : hoC rs hs r = 7 := by rw [HC.out, htb]; rfl
    rw [HRr.out, HHr.out, e1, if_neg (by omega), if_neg (by omega)]
    rw [htb] at HSr
    generalize hoT hs r = T at *
    clear HC HRr HHr e1
    go_enter Try.func8, Try.ntmps8
    go_wp2_with fail
    rw [← HW2.out]
    refine hQ.mono ?_
    rintro e w3 ⟨rfl, b3⟩
    go_wp2_with fail
    refine (HK.out w3).mono ?_
    rintro e w4 ⟨rfl, rfl⟩
    obtain ⟨z0, z1⟩ := HP.out w4 b3
    go_wp2_with fail
    refine (HSr.out w4 b3).mono ?_
    rintro e w5 ⟨rfl, rfl⟩
    obtain ⟨r0, r1, r2, f0, f1, f2⟩ := HR.out w5 b3
    have HE := HS3.out w5 b3 (.slice none 0 0) (.slice none 0 0) (.int .i64 7)
    go_wp2_with fail
    refine bodyPost_ret (v := .agg #[.slice none 0 0, .slice none 0 0, .int .i64 7]) (by simp [results, Try.results8, go_sem, r0, r1, r2]) rfl ?_
    exact ⟨_, _, rfl, PolO.nil _ _, HE⟩
  | false =>
    have e1 : hoC rs hs r = 0 := by rw [HC.out, htb]; rfl
    rw [HRr.out, HHr.out, e1, if_pos rfl, if_pos rfl]
    rw [htb] at HSr
    generalize hoT hs r = T at *
    clear HC HRr HHr e1 HTl
    go_enter Try.func8, Try.ntmps8
    go_wp2_with fail
    rw [← HW2.out]
    refine hQ.mono ?_
    rintro e w3 ⟨rfl, b3⟩
    go_wp2_with fail
    refine (HK.out w3).mono ?_
    rintro e w4 ⟨rfl, rfl⟩
    obtain ⟨z0, z1⟩ := HP.out w4 b3
    go_wp2_with fail
    refine (HSr.out w4 b3).mono ?_
    rintro e w5 ⟨rfl, rfl⟩
    go_wp2_with fail
    refine (HCp.out w5 b3).mono ?_
    rintro e w6 ⟨v1, v2, rfl, PO, b6⟩
    obtain ⟨q1, d1, q2, d2, rfl, rfl, l1, l2⟩ := PO.form
    obtain ⟨W7, hW7⟩ : ∃ W7, W7 = w6.alloc (.cells #[.slice q1 rs.length d1, .slice q2 hs.length d2] 26) := ⟨_, rfl⟩
    have HW7 : Hid (W7 = w6.alloc (.cells #[.slice q1 rs.length d1, .slice q2 hs.length d2] 26)) := hW7
    have b7 : Below w6.heap.size w6 W7 := by rw [hW7]; exact (Below.refl _ _).alloc (Nat.le_refl _) _
    have X7 : Bxs W7 w6.heap.size 26 #[.slice q1 rs.length d1, .slice q2 hs.length d2] := by rw [hW7]; exact Bxs.new _ _ _
    have P7 := PO.below b7
    have bw7 : Below W2.heap.size W2 W7 := chainB b3 (chainB b6 b7)
    have s6 := b6.size
    have s3 := b3.size
    have hS2 := HS2.out
    have lt1 := PO.lt
    obtain ⟨W8, hW8⟩ : ∃ W8, W8 = W7.alloc (.cells #[.int .i64 r] 2) := ⟨_, rfl⟩
    have HW8 : Hid (W8 = (w6.alloc (.cells #[.slice q1 rs.length d1, .slice q2 hs.length d2] 26)).alloc (.cells #[.int .i64 r] 2)) := by rw [hW8, hW7]; exact rfl
    have b8 : Below W7.heap.size W7 W8 := by rw [hW8]; exact (Below.refl _ _).alloc (Nat.le_refl _) _
    have hsz7 : W7.heap.size = w6.heap.size + 1 := by rw [hW7]; simp
    have V8 : Bxs W8 W7.heap.size 2 (intRow [r]).toArray := by rw [hW8]; exact Bxs.new _ _ _
    have P8 := P7.below b8
    have X8 := X7.below b8
    have hO := insI_any w5.heap.size (.slice q2 hs.length d2) hs.length T (intRow hs) W7.heap.size (intRow [r]) W8 P8.own2 (by omega) V8 rfl (fun e => by have := (lt1.2 _ e.symm).2; omega) (oneI _) (oneI _) (by have := b8.size; omega) (by omega)
    rw [intRow_take, intRow_drop, ← intRow_app, ← intRow_app, hsz7] at hO
    have bw8 : Below W2.heap.size W2 W8 := chainB bw7 b8
    clear hW7 hW8
    go_wp2_with fail
    rw [← HW8.out]
    refine hO.mono ?_
    rintro e w9 ⟨v2', rfl, o9, g9, li9⟩
    have o9 : w9.ownsRow w5.heap.size 2 1 v2' (hs.take T ++ [r] ++ hs.drop T).length (intRow (hs.take T ++ [r] ++ hs.drop T)) := by
      have e : (hs.take T ++ [r] ++ hs.drop T).length = hs.length + 1 := by simp; omega
      rw [e]; exact o9
    have P9 : PolO w5.heap.size rs (hs.take T ++ [r] ++ hs.drop T) (.slice q1 rs.length d1) v2' w9 := P8.new2 g9 o9 li9
    have nz : some w6.heap.size ≠ v2'.ownBlock := fun e => by
      rcases li9 w6.heap.size e.symm with q | q
      · have := (lt1.2 _ q).2; omega
      · have := b8.size; omega
    have nz1 : some w6.heap.size ≠ (Value.slice q1 rs.length d1).ownBlock := fun e => by have := (lt1.1 _ e.symm).2; omega
    have X9 := X8.grown g9 (fun e => by have := (lt1.2 _ e.symm).2; omega)
    have R9 := (K1.out.below bw8).grown g9 (fun e => by have := (lt1.2 _ e.symm).1; omega)
    have B9 : Below w.heap.size w w9 := (chainB B2.out bw8).grown g9 (by have := bw8.size; omega) (fun j hj => by have := (lt1.2 _ hj).1; omega)
    obtain ⟨q3, d3, e3, -⟩ := own_form o9
    have i0 : w9.cell? ⟨w6.heap.size, 0, none⟩ = some (.slice q1 rs.length d1) := X9.cell 0
    have i1 : w9.cell? ⟨w6.heap.size, 1, none⟩ = some (.slice q2 hs.length d2) := X9.cell 1
    have fi := X9.fr 1
    have r0 : w9.cell? ⟨w.heap.size + 1, 0, none⟩ = some (.slice none 0 0) := R9.cell 0
    have r1 : w9.cell? ⟨w.heap.size + 1, 1, none⟩ = some (.slice none 0 0) := R9.cell 1
    have r2 : w9.cell? ⟨w.heap.size + 1, 2, none⟩ = some (.int .i64 0) := R9.cell 2
    have f0 := R9.fr 0
    have f1 := R9.fr 1
    have f2 := R9.fr 2
    have HEnd : Hid (∀ a b c d : Value, PolO w.heap.size rs (hs.take T ++ [r] ++ hs.drop T) (.slice q1 rs.length d1) v2' ((((w9.setCell ⟨w6.heap.size, 1, none⟩ a).setCell ⟨w.heap.size + 1, 0, none⟩ b).setCell ⟨w.heap.size + 1, 1, none⟩ c).setCell ⟨w.heap.size + 1, 2, none⟩ d) ∧ Below w.heap.size w ((((w9.setCell ⟨w6.heap.size, 1, none⟩ a).setCell ⟨w.heap.size + 1, 0, none⟩ b).setCell ⟨w.heap.size + 1, 1, none⟩ c).setCell ⟨w.heap.size + 1, 2, none⟩ d)) := fun a b c d =>
      ⟨((((P9.setN nz1 nz 1 a).set (by omega) 0 b).set (by omega) 1 c).set (by omega) 2 d).lower (by omega), (((B9.setCell (by show w.heap.size ≤ w6.heap.size; omega) _).setCell (by show w.heap.size ≤ w.heap.size + 1; omega) _).setCell (by show w.heap.size ≤ w.heap.size + 1; omega) _).setCell (by show w.heap.size ≤ w.heap.size + 1; omega) _⟩
    have n9 : ¬ w6.heap.size = w.heap.size + 1 := by omega
    have n10 : ¬ w.heap.size + 1 = w6.heap.size := by omega
    subst e3
    clear P9 X9 R9 B9 o9 g9 li9 nz nz1 hO PO P7 X7 bw7 b7 b6 b3 lt1 P8 X8 V8 b8 bw8
    go_wp2_with fail
    refine bodyPost_ret (v := .agg #[.slice q1 rs.length d1, .slice q3 (hs.take T ++ [r] ++ hs.drop T).length d3, .int .i64 0]) (by simp [results, Try.results8, go_sem, r0, r1, r2]; omega) rfl ?_
    exact ⟨_, _, rfl, HEnd.out _ _ _ _⟩
end Go.Proofs.Ytbgpkngnlfafcaa
/-
  What the program's Hold and Free answer.
  Conditions: the cells of Rules and Held hold the rules and numbers.
-/
namespace Go.Proofs.Ytbgpkngnlfafcaa
open Go.RowKit Go.Lib
set_option linter.unusedVariables false
set_option maxRecDepth 20000

set_option maxHeartbeats 4000000 in
theorem implFree_any (p1 p2 : Option Addr) (c1 c2 : Nat) (rs : List Rul) (hs : List Int) (r : Int) (w : World) (hr : RulAt w p1 rs) (hh : IntAt w p2 hs) (n1 : rs.length ≤ 1048576) (n2 : hs.length ≤ 1048576) (m1 : rs.length ≤ c1) (m2 : hs.length ≤ c2) (hz : RulsLe rs) :
    Calls Try.prog 15 #[.agg #[.slice p1 rs.length c1, .slice p2 hs.length c2], .int .i64 r] w fun e w' => ∃ v1 v2, e = .returned (.agg #[v1, v2, .int .i64 (frC rs hs r)]) ∧ PolO w.heap.size (frR rs hs r) (frH rs hs r) v1 v2 w' ∧ Below w.heap.size w w' := by
  have HC : Hid (frC rs hs r = if polB rs hs = true ∧ heB r = true then (if hoB hs r = true then 0 else 6) else 1) := rfl
  have HRr : Hid (frR rs hs r = if frC rs hs r = 0 then rs else []) := rfl
  have HHr : Hid (frH rs hs r = if frC rs hs r = 0 then hs.take (hoT hs r) ++ hs.drop (hoT hs r + 1) else []) := rfl
  obtain ⟨W2, hW2⟩ : ∃ W2, W2 = (w.alloc (.cells #[.slice p1 rs.length c1, .slice p2 hs.length c2] 26)).alloc (.cells #[.slice none 0 0, .slice none 0 0, .int .i64 0] 32) := ⟨_, rfl⟩
  have HW2 : Hid (W2 = (w.alloc (.cells #[.slice p1 rs.length c1, .slice p2 hs.length c2] 26)).alloc (.cells #[.slice none 0 0, .slice none 0 0, .int .i64 0] 32)) := hW2
  have hs1 : (w.alloc (.cells #[.slice p1 rs.length c1, .slice p2 hs.length c2] 26)).heap.size = w.heap.size + 1 := by simp
  have HS2 : Hid (W2.heap.size = w.heap.size + 2) := by rw [hW2]; show _ = _; simp
  have K0 : Hid (Bxs W2 w.heap.size 26 #[.slice p1 rs.length c1, .slice p2 hs.length c2]) := by rw [hW2]; exact (Bxs.new _ _ _).alloc _
  have K1 : Hid (Bxs W2 (w.heap.size + 1) 32 #[.slice none 0 0, .slice none 0 0, .int .i64 0]) := by rw [hW2, ← hs1]; exact Bxs.new _ _ _
  have B2 : Hid (Below w.heap.size w W2) := by rw [hW2]; exact ((Below.refl _ _).alloc (Nat.le_refl _) _).alloc (by rw [hs1]; omega) _
  have HP : Hid (∀ x, Below W2.heap.size W2 x → x.cell? ⟨w.heap.size, 0, none⟩ = some (.slice p1 rs.length c1) ∧ x.cell? ⟨w.heap.size, 1, none⟩ = some (.slice p2 hs.length c2)) := fun x hb => (K0.out.below hb).two
  have HR : Hid (∀ x, Below W2.heap.size W2 x → x.cell? ⟨w.heap.size + 1, 0, none⟩ = some (.slice none 0 0) ∧ x.cell? ⟨w.heap.size + 1, 1, none⟩ = some (.slice none 0 0) ∧ x.cell? ⟨w.heap.size + 1, 2, none⟩ = some (.int .i64 0) ∧ x.frozen? ⟨w.heap.size + 1, 0, none⟩ = false ∧ x.frozen? ⟨w.heap.size + 1, 1, none⟩ = false ∧ x.frozen? ⟨w.heap.size + 1, 2, none⟩ = false) := fun x hb => ⟨(K1.out.below hb).cell 0, (K1.out.below hb).cell 1, (K1.out.below hb).cell 2, (K1.out.below hb).fr 0, (K1.out.below hb).fr 1, (K1.out.below hb).fr 2⟩
  have HS3 : Hid (∀ x, Below W2.heap.size W2 x → ∀ a b c : Value, Below w.heap.size w (((x.setCell ⟨w.heap.size + 1, 0, none⟩ a).setCell ⟨w.heap.size + 1, 1, none⟩ b).setCell ⟨w.heap.size + 1, 2, none⟩ c)) := fun x hb a b c => (((chainB B2.out hb).setCell (by show w.heap.size ≤ w.heap.size + 1; omega) _).setCell (by show w.heap.size ≤ w.heap.size + 1; omega) _).setCell (by show w.heap.size ≤ w.heap.size + 1; omega) _
  have HRu : Hid (RulAt W2 p1 rs) := hr.below B2.out
  have HIn : Hid (IntAt W2 p2 hs) := hh.below B2.out
  obtain ⟨x0, x1⟩ := HP.out W2 (Below.refl _ _)
  have y0 := x0
  have y1 := x1
  rw [hW2] at y0 y1
  have hQ := implPolicyRight_any p1 p2 c1 c2 rs hs W2 HRu.out HIn.out n1 n2 m1 m2 hz
  have HK : Hid (∀ x, Calls Try.prog 29 #[.int .i64 r] x fun e w' => e = .returned (.bool (heB r)) ∧ w' = x) := fun x => heldRowRight_any r x
  clear hW2 hs1 hr hh K0 hz
  cases hpb : polB rs hs with
  | false =>
    have e1 : frC rs hs r = 1 := by rw [HC.out, if_neg (by rw [hpb]; simp)]
    rw [HRr.out, HHr.out, e1, if_neg (by omega), if_neg (by omega)]
    rw [hpb] at hQ
    clear HC HRr HHr e1
    go_enter Try.func15, Try.ntmps15
    go_wp2_with fail
    rw [← HW2.out]
    refine hQ.mono ?_
    rintro e w3 ⟨rfl, b3⟩
    obtain ⟨r0, r1, r2, f0, f1, f2⟩ := HR.out w3 b3
    have HE := HS3.out w3 b3 (.slice none 0 0) (.slice none 0 0) (.int .i64 1)
    go_wp2_with fail
    refine bodyPost_ret (v := .agg #[.slice none 0 0, .slice none 0 0, .int .i64 1]) (by simp [results, Try.results15, go_sem, r0, r1, r2]) rfl ?_
    exact ⟨_, _, rfl, PolO.nil _ _, HE⟩
  | true =>
  obtain ⟨hl6, ho1, ho2, hh6, hsz⟩ := polB_parts hpb
  rw [hpb] at hQ
  cases hhb : heB r with
  | false =>
    have e1 : frC rs hs r = 1 := by rw [HC.out, if_neg (by rw [hhb]; simp)]
    rw [HRr.out, HHr.out, e1, if_neg (by omega), if_neg (by omega)]
    rw [hhb] at HK
    clear HC HRr HHr e1
    go_enter Try.func15, Try.ntmps15
    go_wp2_with fail
    rw [← HW2.out]
    refine hQ.mono ?_
    rintro e w3 ⟨rfl, b3⟩
    go_wp2_with fail
    refine (HK.out w3).mono ?_
    rintro e w4 ⟨rfl, rfl⟩
    obtain ⟨r0, r1, r2, f0, f1, f2⟩ := HR.out w4 b3
    have HE := HS3.out w4 b3 (.slice none 0 0) (.slice none 0 0) (.int .i64 1)
    go_wp2_with fail
    refine bodyPost_ret (v := .agg #[.slice none 0 0, .slice none 0 0, .int .i64 1]) (by simp [results, Try.results15, go_sem, r0, r1, r2]) rfl ?_
    exact ⟨_, _, rfl, PolO.nil _ _, HE⟩
  | true =>
  rw [hhb] at HK
  rw [if_pos (show polB rs hs = true ∧ heB r = true from ⟨hpb, hhb⟩)] at HC
  have HSr : Hid (∀ x, Below W2.heap.size W2 x → Calls Try.prog 30 #[.slice p2 hs.length c2, .int .i64 r] x fun e w' => e = .returned (.tuple #[.int .i64 (hoT hs r : Nat), .bool (hoB hs r)]) ∧ w' = x) := fun x hb => search_any p2 c2 hs r x (HIn.out.below hb) (by omega) ho2
  have HCp : Hid (∀ x, Below W2.heap.size W2 x → Calls Try.prog 24 #[.agg #[.slice p1 rs.length c1, .slice p2 hs.length c2]] x fun e w' => ∃ v1 v2, e = .returned (.agg #[v1, v2]) ∧ PolO x.heap.size rs hs v1 v2 w' ∧ Below x.heap.size x w') := fun x hb => copiedPolicy_any p1 p2 c1 c2 rs hs x (HRu.out.below hb) (HIn.out.below hb) n1 n2 m1 (fun q hq => by have := hsz q hq; omega)
  have hTn : hoT hs r ≤ hs.length := tw_le _ _
  have HTl : Hid (hoB hs r = true → hoT hs r < hs.length) := fun h => there_lt h
  cases htb : hoB hs r with
  | false =>
    have e1 : frC rs hs r = 6 := by rw [HC.out, htb]; rfl
    rw [HRr.out, HHr.out, e1, if_neg (by omega), if_neg (by omega)]
    rw [htb] at HSr
    generalize hoT hs r = T at *
    clear HC HRr HHr e1
    go_enter Try.func15, Try.ntmps15
    go_wp2_with fail
    rw [← HW2.out]
    refine hQ.mono ?_
    rintro e w3 ⟨rfl, b3⟩
    go_wp2_with fail
    refine (HK.out w3).mono ?_
    rintro e w4 ⟨rfl, rfl⟩
    obtain ⟨z0, z1⟩ := HP.out w4 b3
    go_wp2_with fail
    refine (HSr.out w4 b3).mono ?_
    rintro e w5 ⟨rfl, rfl⟩
    obtain ⟨r0, r1, r2, f0, f1, f2⟩ := HR.out w5 b3
    have HE := HS3.out w5 b3 (.slice none 0 0) (.slice none 0 0) (.int .i64 6)
    go_wp2_with fail
    refine bodyPost_ret (v := .agg #[.slice none 0 0, .slice none 0 0, .int .i64 6]) (by simp [results, Try.results15, go_sem, r0, r1, r2]) rfl ?_
    exact ⟨_, _, rfl, PolO.nil _ _, HE⟩
  | true =>
    have e1 : frC rs hs r = 0 := by rw [HC.out, htb]; rfl
    rw [HRr.out, HHr.out, e1, if_pos rfl, if_pos rfl]
    rw [htb] at HSr
    have hTl := HTl.out htb
    generalize hoT hs r = T at *
    clear HC HRr HHr e1 HTl
    go_enter Try.func15, Try.ntmps15
    go_wp2_with fail
    rw [← HW2.out]
    refine hQ.mono ?_
    rintro e w3 ⟨rfl, b3⟩
    go_wp2_with fail
    refine (HK.out w3).mono ?_
    rintro e w4 ⟨rfl, rfl⟩
    obtain ⟨z0, z1⟩ := HP.out w4 b3
    go_wp2_with fail
    refine (HSr.out w4 b3).mono ?_
    rintro e w5 ⟨rfl, rfl⟩
    go_wp2_with fail
    refine (HCp.out w5 b3).mono ?_
    rintro e w6 ⟨v1, v2, rfl, PO, b6⟩
    obtain ⟨q1, d1, q2, d2, rfl, rfl, l1, l2⟩ := PO.form
    obtain ⟨W7, hW7⟩ : ∃ W7, W7 = w6.alloc (.cells #[.slice q1 rs.length d1, .slice q2 hs.length d2] 26) := ⟨_, rfl⟩
    have HW7 : Hid (W7 = w6.alloc (.cells #[.slice q1 rs.length d1, .slice q2 hs.length d2] 26)) := hW7
    have b7 : Below w6.heap.size w6 W7 := by rw [hW7]; exact (Below.refl _ _).alloc (Nat.le_refl _) _
    have X7 : Bxs W7 w6.heap.size 26 #[.slice q1 rs.length d1, .slice q2 hs.length d2] := by rw [hW7]; exact Bxs.new _ _ _
    have P7 := PO.below b7
    have bw7 : Below W2.heap.size W2 W7 := chainB b3 (chainB b6 b7)
    have s6 := b6.size
    have s3 := b3.size
    have hS2 := HS2.out
    have lt1 := PO.lt
    obtain ⟨g2, rfl⟩ : ∃ g2, q2 = some ⟨g2, 0, none⟩ := by
      rcases PO.own2.2 with ⟨h0, h1⟩ | ⟨g2, _, _, h1, _⟩
      · omega
      · cases h1; exact ⟨g2, rfl⟩
    have hO := delI_any w5.heap.size g2 hs.length d2 T (intRow hs) W7 P7.own2 (by omega) (oneI _)
    rw [intRow_take, intRow_drop, ← intRow_app] at hO
    have x70 : W7.cell? ⟨w6.heap.size, 0, none⟩ = some (.slice q1 rs.length d1) := X7.cell 0
    have x71 : W7.cell? ⟨w6.heap.size, 1, none⟩ = some (.slice (some ⟨g2, 0, none⟩) hs.length d2) := X7.cell 1
    rw [hW7] at x70 x71
    clear hW7 
    go_wp2_with fail
    rw [← HW7.out]
    refine hO.mono ?_
    rintro e w9 ⟨rfl, o9, g9⟩
    have li9 : Lies W7 (.slice (some ⟨g2, 0, none⟩) hs.length d2) (.slice (some ⟨g2, 0, none⟩) (hs.length - 1) d2) := fun j hj => .inl hj
    have o9 : w9.ownsRow w5.heap.size 2 1 (.slice (some ⟨g2, 0, none⟩) (hs.length - 1) d2) (hs.take T ++ hs.drop (T + 1)).length (intRow (hs.take T ++ hs.drop (T + 1))) := by
      have e : (hs.take T ++ hs.drop (T + 1)).length = hs.length - 1 := by simp; omega
      rw [e]; exact o9
    have g9 : W7.grownBy w9 (Value.slice (some ⟨g2, 0, none⟩) hs.length d2).ownBlock := g9
    generalize hv2 : Value.slice (some ⟨g2, 0, none⟩) (hs.length - 1) d2 = v2' at *
    clear hv2
    have P9 : PolO w5.heap.size rs (hs.take T ++ hs.drop (T + 1)) (.slice q1 rs.length d1) v2' w9 := P7.new2 g9 o9 li9
    have nz : some w6.heap.size ≠ v2'.ownBlock := fun e => by
      rcases li9 w6.heap.size e.symm with q | q
      · have := (lt1.2 _ q).2; omega
      · have := X7.lt; omega
    have nz1 : some w6.heap.size ≠ (Value.slice q1 rs.length d1).ownBlock := fun e => by have := (lt1.1 _ e.symm).2; omega
    have X9 := X7.grown g9 (fun e => by have := (lt1.2 _ e.symm).2; omega)
    have R9 := (K1.out.below bw7).grown g9 (fun e => by have := (lt1.2 _ e.symm).1; omega)
    have B9 : Below w.heap.size w w9 := (chainB B2.out bw7).grown g9 (by have := bw7.size; omega) (fun j hj => by have := (lt1.2 _ hj).1; omega)
    obtain ⟨q3, d3, e3, -⟩ := own_form o9
    have i0 : w9.cell? ⟨w6.heap.size, 0, none⟩ = some (.slice q1 rs.length d1) := X9.cell 0
    have i1 : w9.cell? ⟨w6.heap.size, 1, none⟩ = some (.slice (some ⟨g2, 0, none⟩) hs.length d2) := X9.cell 1
    have fi := X9.fr 1
    have r0 : w9.cell? ⟨w.heap.size + 1, 0, none⟩ = some (.slice none 0 0) := R9.cell 0
    have r1 : w9.cell? ⟨w.heap.size + 1, 1, none⟩ = some (.slice none 0 0) := R9.cell 1
    have r2 : w9.cell? ⟨w.heap.size + 1, 2, none⟩ = some (.int .i64 0) := R9.cell 2
    have f0 := R9.fr 0
    have f1 := R9.fr 1
    have f2 := R9.fr 2
    have HEnd : Hid (∀ a b c d : Value, PolO w.heap.size rs (hs.take T ++ hs.drop (T + 1)) (.slice q1 rs.length d1) v2' ((((w9.setCell ⟨w6.heap.size, 1, none⟩ a).setCell ⟨w.heap.size + 1, 0, none⟩ b).setCell ⟨w.heap.size + 1, 1, none⟩ c).setCell ⟨w.heap.size + 1, 2, none⟩ d) ∧ Below w.heap.size w ((((w9.setCell ⟨w6.heap.size, 1, none⟩ a).setCell ⟨w.heap.size + 1, 0, none⟩ b).setCell ⟨w.heap.size + 1, 1, none⟩ c).setCell ⟨w.heap.size + 1, 2, none⟩ d)) := fun a b c d =>
      ⟨((((P9.setN nz1 nz 1 a).set (by omega) 0 b).set (by omega) 1 c).set (by omega) 2 d).lower (by omega), (((B9.setCell (by show w.heap.size ≤ w6.heap.size; omega) _).setCell (by show w.heap.size ≤ w.heap.size + 1; omega) _).setCell (by show w.heap.size ≤ w.heap.size + 1; omega) _).setCell (by show w.heap.size ≤ w.heap.size + 1; omega) _⟩
    have n9 : ¬ w6.heap.size = w.heap.size + 1 := by omega
    have n10 : ¬ w.heap.size + 1 = w6.heap.size := by omega
    subst e3
    clear P9 X9 R9 B9 o9 g9 li9 nz nz1 hO PO P7 X7 bw7 b7 b6 b3 lt1 
    go_wp2_with fail
    refine bodyPost_ret (v := .agg #[.slice q1 rs.length d1, .slice q3 (hs.take T ++ hs.drop (T + 1)).length d3, .int .i64 0]) (by simp [results, Try.results15, go_sem, r0, r1, r2]; omega) rfl ?_
    exact ⟨_, _, rfl, HEnd.out _ _ _ _⟩
end Go.Proofs.Ytbgpkngnlfafcaa
/-
  What the specification's l10Copy and l10Ill answer.
-/
namespace Go.Proofs.Ytbgpkngnlfafcaa
open Go.RowKit Go.Lib
set_option linter.unusedVariables false
set_option maxRecDepth 20000

/-- A copy of a row: a block of its own that came behind, or the empty one at g. -/
structure CopP (w : World) (g : Nat) (e : TypeId) (s : Nat) (n : Nat) (xs : List Value) (v : Value) (w' : World) : Prop where
  own : w'.ownsRow 0 e s v n xs
  bel : Below w.heap.size w w'
  at_ : ∃ b c, v = .slice (some ⟨b, 0, none⟩) n c ∧ n ≤ c ∧ (b = g ∨ w.heap.size ≤ b) ∧ b < w'.heap.size
theorem copP_of {t e : TypeId} {i : TypeInfo} {z : Value} {size bytes : Nat} (E : ElT Try.prog t e i z size bytes) (ty : TypeId) (w : World) (g : Nat) (hg : w.heap[g]? = some (.cells #[] e (0, 0))) (p : Option Addr) (n cap : Nat) (xs : List Value) (hp : CelAt w p xs) (hl : xs.length = n * size) (one : ∀ u ∈ xs, u.oneCell' = true) (hn : n ≤ 1048576) (hb : bytes ≤ 1000) :
    ∃ v' w', (Builtin.append_ #[t, t] ty #[.slice (some ⟨g, 0, none⟩) 0 0, .slice p n cap]).run Try.prog w = .ok v' w' ∧ CopP w g e size n xs v' w' := by
  have own0 : w.ownsRow 0 e size (.slice (some ⟨g, 0, none⟩) 0 0) 0 [] := ⟨by simp, .inr ⟨g, 0, #[], rfl, Nat.zero_le _, hg, Nat.le_refl _, by unfold maxLen; omega, by simp, by simp⟩⟩
  have hmul : (0 + n) * bytes ≤ 140737488355328 := Nat.le_trans (Nat.mul_le_mul (show 0 + n ≤ 1048576 by omega) hb) (by omega)
  obtain ⟨v', w', h1, h2, h3, h4⟩ := app_cel E ty w 0 _ 0 [] own0 p n cap xs hp hl one hmul (by unfold maxLen; omega) (Nat.zero_le _)
  rw [Nat.zero_add, List.nil_append] at h2
  by_cases h0 : n = 0
  · subst h0
    have hx : xs = [] := List.eq_nil_of_length_eq_zero (by simpa using hl)
    subst hx
    have hr : (Builtin.append_ #[t, t] ty #[.slice (some ⟨g, 0, none⟩) 0 0, .slice p 0 cap]).run Try.prog w = .ok (.slice (some ⟨g, 0, none⟩) 0 0) w := by
      cases p <;> simp [Builtin.append_, run_underlying E.ht, sizeOf, typeInfo, E.hi, Builtin.lenOf, Builtin.firstCells, storeCells, loadCells, loadCellsFrom]
    exact ⟨_, w, hr, own0, Below.refl _ _, g, 0, rfl, Nat.le_refl _, .inl rfl, lt_of_block hg⟩
  · have hpos : 0 < xs.length := by rw [hl]; exact Nat.mul_pos (by omega) E.h0
    obtain ⟨b, off, rfl⟩ := hp.some_of hpos
    obtain ⟨v', w', h1, h2, h3⟩ := run_append_arg_grows (P := Try.prog) w t ty e i z size bytes E.ht E.hi E.hz E.hs E.hb E.hzs E.h0 ⟨g, 0, none⟩ 0 0 [] (by simp) (fun j u hu => by simp at hu) ⟨b, off, none⟩ n cap xs hl hp.src (by omega) (by unfold maxLen; omega) hmul
    rw [Nat.zero_add, List.nil_append] at h2
    rcases h2.2 with ⟨hv, hn0⟩ | ⟨b', c', cur, rfl, hb1, hb2, hb3, -⟩
    · exact absurd hn0 h0
    · exact ⟨_, w', h1, own_lower h2 (Nat.zero_le _), below_none h3, b', c', rfl, hb3, .inr hb1, lt_of_block hb2⟩
theorem copy_ruls (w : World) (g : Nat) (hg : w.heap[g]? = some (.cells #[] 28 (0, 0))) (p : Option Addr) (cap : Nat) (ss : List Rul) (hp : RulAt w p ss) (hn : ss.length ≤ 1048576) :
    ∃ v' w', (Builtin.append_ #[23, 23] 23 #[.slice (some ⟨g, 0, none⟩) 0 0, .slice p ss.length cap]).run Try.prog w = .ok v' w' ∧ CopP w g 28 4 ss.length (rulRow ss) v' w' := by
  obtain ⟨i0, E⟩ := elR
  exact copP_of E _ w g hg p ss.length cap (rulRow ss) hp.cel (rulRow_len ss) (oneR ss) hn (by omega)
theorem copy_ints (w : World) (g : Nat) (hg : w.heap[g]? = some (.cells #[] 2 (0, 0))) (p : Option Addr) (cap : Nat) (ps : List Int) (hp : IntAt w p ps) (hn : ps.length ≤ 1048576) :
    ∃ v' w', (Builtin.append_ #[24, 24] 24 #[.slice (some ⟨g, 0, none⟩) 0 0, .slice p ps.length cap]).run Try.prog w = .ok v' w' ∧ CopP w g 2 1 ps.length (intRow ps) v' w' := by
  obtain ⟨i0, E⟩ := elI
  exact copP_of E _ w g hg p ps.length cap (intRow ps) hp.cel (by rw [intRow_len]; omega) (oneI ps) hn (by omega)
theorem step_copy_ruls {w : World} {ops : Array Oper} {o : Oper} {a : Act} {K : Act → World → Prop} {Q : Exit → Act → World → Prop} {E : Prop} (hgd : o.guard = none) (s x : Operand)
    (ho : o.op = .call { callee := .builtin .append, args := #[s, x], argTypes := #[23, 23] }) (hty : o.type = 23) (g : Nat) (p : Option Addr) (cap : Nat) (ss : List Rul) (hs : a.eval s = .slice (some ⟨g, 0, none⟩) 0 0) (hx : a.eval x = .slice p ss.length cap)
    (hg : w.heap[g]? = some (.cells #[] 28 (0, 0))) (hp : RulAt w p ss) (hn : ss.length ≤ 1048576) (h : ∀ v' w', CopP w g 28 4 ss.length (rulRow ss) v' w' → K (a.put o.dst v') w') :
    if Region.wanted o (yielded ops a.tmps) = true then Oper.wp Try.prog o a w K Q else E := by
  obtain ⟨v', w', hr, hc⟩ := copy_ruls w g hg p cap ss hp hn
  exact step_append_run hgd s x 23 ho _ _ v' w' hs hx (by rw [hty]; exact hr) (h v' w' hc)
theorem step_copy_ints {w : World} {ops : Array Oper} {o : Oper} {a : Act} {K : Act → World → Prop} {Q : Exit → Act → World → Prop} {E : Prop} (hgd : o.guard = none) (s x : Operand)
    (ho : o.op = .call { callee := .builtin .append, args := #[s, x], argTypes := #[24, 24] }) (hty : o.type = 24) (g : Nat) (p : Option Addr) (cap : Nat) (ps : List Int) (hs : a.eval s = .slice (some ⟨g, 0, none⟩) 0 0) (hx : a.eval x = .slice p ps.length cap)
    (hg : w.heap[g]? = some (.cells #[] 2 (0, 0))) (hp : IntAt w p ps) (hn : ps.length ≤ 1048576) (h : ∀ v' w', CopP w g 2 1 ps.length (intRow ps) v' w' → K (a.put o.dst v') w') :
    if Region.wanted o (yielded ops a.tmps) = true then Oper.wp Try.prog o a w K Q else E := by
  obtain ⟨v', w', hr, hc⟩ := copy_ints w g hg p cap ps hp hn
  exact step_append_run hgd s x 24 ho _ _ v' w' hs hx (by rw [hty]; exact hr) (h v' w' hc)
theorem l10Ill_any (c : Int) (w : World) : Calls Try.prog 33 #[.int .i64 c] w fun e w' => e = .returned (.agg #[.slice none 0 0, .slice none 0 0, .int .i64 c]) ∧ Below w.heap.size w w' := by
  have B1 : Below w.heap.size w (w.alloc (.cells #[.slice none 0 0, .slice none 0 0, .int .i64 c] 32)) := (Below.refl _ _).alloc (Nat.le_refl _) _
  go_enter Try.func33, Try.ntmps33
  go_wp2_with fail
  refine bodyPost_ret (v := .agg #[.slice none 0 0, .slice none 0 0, .int .i64 c]) (by simp [results, Try.results33, go_sem]) rfl ?_
  exact ⟨rfl, B1⟩
theorem own_upP {w : World} {e : TypeId} {s : Nat} {b n c : Nat} {xs : List Value} {base : Nat} (h : w.ownsRow 0 e s (.slice (some ⟨b, 0, none⟩) n c) n xs) (hb : base ≤ b) : w.ownsRow base e s (.slice (some ⟨b, 0, none⟩) n c) n xs := by
  refine ⟨h.1, ?_⟩
  rcases h.2 with ⟨h0, _⟩ | ⟨g, cap, cur, h1, h2, h3⟩
  · cases h0
  · cases h1
    exact .inr ⟨b, c, cur, rfl, hb, h3⟩

/-- What the box of a result holds: a policy of its own memory. -/
def CopEndP (w : World) (ss : List Rul) (ps : List Int) (wx : World) : Prop := ∃ b1 d1 b2 d2, wx.heap[w.heap.size + 1]? = some (.cells #[.slice (some ⟨b1, 0, none⟩) ss.length d1, .slice (some ⟨b2, 0, none⟩) ps.length d2] 26 (0, 0)) ∧ PolO w.heap.size ss ps (.slice (some ⟨b1, 0, none⟩) ss.length d1) (.slice (some ⟨b2, 0, none⟩) ps.length d2) wx ∧ Below w.heap.size w wx
theorem hgAp (X : World) (T : TypeId) (g : Nat) (h : g = X.heap.size) : (X.alloc (.cells #[] T)).heap[g]? = some (.cells #[] T (0, 0)) := by subst h; exact (MapKept.heap_alloc X _).1
theorem hgBp (X : World) (T : TypeId) (g : Nat) (o : Obj) (h : g = X.heap.size) : ((X.alloc (.cells #[] T)).alloc o).heap[g]? = some (.cells #[] T (0, 0)) := (Below.heap_alloc _ _ _ (by subst h; simp)).trans (hgAp X T g h)
set_option maxHeartbeats 4000000 in
theorem l10Copy_any (q1 : Option Addr) (c1 : Nat) (ss : List Rul) (q2 : Option Addr) (c2 : Nat) (ps : List Int) (w : World) (h1 : RulAt w q1 ss) (h2 : IntAt w q2 ps) (n1 : ss.length ≤ 1048576) (n2 : ps.length ≤ 1048576) (m1 : ss.length ≤ c1) (m2 : ps.length ≤ c2) :
    Calls Try.prog 34 #[.agg #[.slice q1 ss.length c1, .slice q2 ps.length c2]] w fun e w' => ∃ v1 v2, e = .returned (.agg #[v1, v2]) ∧ PolO w.heap.size ss ps v1 v2 w' ∧ Below w.heap.size w w' := by
  obtain ⟨W2, hW2⟩ : ∃ W2, W2 = (w.alloc (.cells #[.slice q1 ss.length c1, .slice q2 ps.length c2] 26)).alloc (.cells #[.slice none 0 0, .slice none 0 0] 26) := ⟨_, rfl⟩
  have HW2 : Hid (W2 = (w.alloc (.cells #[.slice q1 ss.length c1, .slice q2 ps.length c2] 26)).alloc (.cells #[.slice none 0 0, .slice none 0 0] 26)) := hW2
  have hs1 : (w.alloc (.cells #[.slice q1 ss.length c1, .slice q2 ps.length c2] 26)).heap.size = w.heap.size + 1 := by simp
  have S2 : W2.heap.size = w.heap.size + 2 := by rw [hW2]; simp
  have R0 : W2.heap[w.heap.size]? = some (.cells #[.slice q1 ss.length c1, .slice q2 ps.length c2] 26 (0, 0)) := by rw [hW2]; exact (Below.heap_alloc _ _ _ (by rw [hs1]; omega)).trans (MapKept.heap_alloc w _).1
  have R1 : W2.heap[w.heap.size + 1]? = some (.cells #[.slice none 0 0, .slice none 0 0] 26 (0, 0)) := by rw [hW2, ← hs1]; exact (MapKept.heap_alloc _ _).1
  have B2 : Hid (Below w.heap.size w W2) := by rw [hW2]; exact ((Below.refl _ _).alloc (Nat.le_refl _) _).alloc (by rw [hs1]; omega) _
  have T1 : Hid (RulAt W2 q1 ss) := h1.below B2.out
  have T2 : Hid (IntAt W2 q2 ps) := h2.below B2.out
  have HX : Hid (∀ x, Below W2.heap.size W2 x → x.cell? ⟨w.heap.size, 0, none⟩ = some (.slice q1 ss.length c1) ∧ x.cell? ⟨w.heap.size, 1, none⟩ = some (.slice q2 ps.length c2) ∧ x.cell? ⟨w.heap.size + 1, 0, none⟩ = some (.slice none 0 0) ∧ x.cell? ⟨w.heap.size + 1, 1, none⟩ = some (.slice none 0 0) ∧ x.frozen? ⟨w.heap.size + 1, 0, none⟩ = false ∧ x.frozen? ⟨w.heap.size + 1, 1, none⟩ = false) := fun x hb => by
    have h0 := (hb.block w.heap.size (by omega)).trans R0
    have h1 := (hb.block (w.heap.size + 1) (by omega)).trans R1
    simp [World.cell?, World.frozen?, h0, h1]
  have HEnd : Hid (∀ (y : World) (b1 d1 b2 d2 : Nat), y.ownsRow 0 28 4 (.slice (some ⟨b1, 0, none⟩) ss.length d1) ss.length (rulRow ss) → y.ownsRow 0 2 1 (.slice (some ⟨b2, 0, none⟩) ps.length d2) ps.length (intRow ps) → (w.heap.size + 2 ≤ b1 ∧ w.heap.size + 2 ≤ b2 ∧ b1 ≠ b2) → Below W2.heap.size W2 y →
      CopEndP w ss ps ((y.setCell ⟨w.heap.size + 1, 0, none⟩ (.slice (some ⟨b1, 0, none⟩) ss.length d1)).setCell ⟨w.heap.size + 1, 1, none⟩ (.slice (some ⟨b2, 0, none⟩) ps.length d2))) := by
    intro y b1 d1 b2 d2 o1 o2 hl hb
    obtain ⟨l1, l2, hne⟩ := hl
    have hup : ∀ {e : TypeId} {s b n c : Nat} {xs : List Value}, y.ownsRow 0 e s (.slice (some ⟨b, 0, none⟩) n c) n xs → w.heap.size + 2 ≤ b → ((y.setCell ⟨w.heap.size + 1, 0, none⟩ (.slice (some ⟨b1, 0, none⟩) ss.length d1)).setCell ⟨w.heap.size + 1, 1, none⟩ (.slice (some ⟨b2, 0, none⟩) ps.length d2)).ownsRow w.heap.size e s (.slice (some ⟨b, 0, none⟩) n c) n xs := fun h hl => ownS_mono (ownsRow_setCell_below (ownsRow_setCell_below (own_upP h hl) (by show w.heap.size + 1 < _; omega) _) (by show w.heap.size + 1 < _; omega) _) (by omega)
    have h0 : y.heap[w.heap.size + 1]? = some (.cells #[.slice none 0 0, .slice none 0 0] 26 (0, 0)) := (hb.block (w.heap.size + 1) (by omega)).trans R1
    exact ⟨b1, d1, b2, d2, by simp [World.setCell, Array.getElem?_modify, h0], ⟨hup o1 l1, hup o2 l2, .inr (fun h => hne (by simpa [Value.ownBlock] using h))⟩, ((chainB B2.out hb).setCell (by show w.heap.size ≤ w.heap.size + 1; omega) _).setCell (by show w.heap.size ≤ w.heap.size + 1; omega) _⟩
  obtain ⟨x0, x1, x2, x3, x4, x5⟩ := HX.out W2 (Below.refl _ _)
  have E1 := HX.out _ (alB (Below.refl W2.heap.size W2) (.cells #[] 28))
  have E2 := HX.out _ (alB (Below.refl W2.heap.size W2) (.cells #[] 2))
  have E3 := HX.out _ (alB (alB (Below.refl W2.heap.size W2) (.cells #[] 28)) (.cells #[] 2))
  have E4 := HX.out _ (alB (alB (Below.refl W2.heap.size W2) (.cells #[] 2)) (.cells #[] 28))
  clear hW2 R0 R1 h1 h2 hs1
  go_enter Try.func34, Try.ntmps34
  go_upto_region 1 with fail
  rw [← HW2.out]
  go_cut [2] from 3 to 11 (fun s2 wx => s2 = .pointer (some ⟨w.heap.size + 1, 0, none⟩) ∧ Hid (CopEndP w ss ps wx))
  case first =>
    go_region_law (first
      | (refine step_copy_ruls rfl _ _ rfl rfl _ q1 c1 ss rfl rfl (by first | exact hgAp _ _ _ (by first | rfl | omega | (rw [szA]; omega) | (rw [szA, szA]; omega) | (rw [szD, szA]; omega) | (rw [szD, szA, szA]; omega)) | exact hgBp _ _ _ _ (by first | rfl | omega | (rw [szA]; omega) | (rw [szA, szA]; omega) | (rw [szD, szA]; omega) | (rw [szD, szA, szA]; omega)) | exact (cop2.bel.block _ (by first | rfl | omega | (rw [szA]; omega) | (rw [szA, szA]; omega) | (rw [szD, szA]; omega) | (rw [szD, szA, szA]; omega))).trans (hgAp _ _ _ (by first | rfl | omega | (rw [szA]; omega) | (rw [szA, szA]; omega) | (rw [szD, szA]; omega) | (rw [szD, szA, szA]; omega))) | exact (cop2.bel.block _ (by first | omega | (rw [szA]; omega) | (rw [szA, szA]; omega) | (rw [szD, szA]; omega) | (rw [szD, szA, szA]; omega))).trans (hgBp _ _ _ _ (by first | rfl | omega | (rw [szA]; omega) | (rw [szA, szA]; omega) | (rw [szD, szA]; omega) | (rw [szD, szA, szA]; omega)))) (T1.out.below (by repeat (first | exact z2 | exact Below.refl _ _ | refine alB ?_ _ | refine Below.drew ?_))) n1 ?_; intro v1 y1 cop1; obtain ⟨b1, d1, rfl, i1, i2, i3⟩ := cop1.at_; have z1 : Below W2.heap.size W2 y1 := chainB (by repeat (first | exact z2 | exact Below.refl _ _ | refine alB ?_ _ | refine Below.drew ?_)) cop1.bel; have F1 := HX.out y1 z1; have F2 := HX.out _ (alB z1 (.cells #[] 2)))
      | (refine step_copy_ints rfl _ _ rfl rfl _ q2 c2 ps rfl rfl (by first | exact hgAp _ _ _ (by first | rfl | omega | (rw [szA]; omega) | (rw [szA, szA]; omega) | (rw [szD, szA]; omega) | (rw [szD, szA, szA]; omega)) | exact hgBp _ _ _ _ (by first | rfl | omega | (rw [szA]; omega) | (rw [szA, szA]; omega) | (rw [szD, szA]; omega) | (rw [szD, szA, szA]; omega)) | exact (cop1.bel.block _ (by first | rfl | omega | (rw [szA]; omega) | (rw [szA, szA]; omega) | (rw [szD, szA]; omega) | (rw [szD, szA, szA]; omega))).trans (hgAp _ _ _ (by first | rfl | omega | (rw [szA]; omega) | (rw [szA, szA]; omega) | (rw [szD, szA]; omega) | (rw [szD, szA, szA]; omega))) | exact (cop1.bel.block _ (by first | omega | (rw [szA]; omega) | (rw [szA, szA]; omega) | (rw [szD, szA]; omega) | (rw [szD, szA, szA]; omega))).trans (hgBp _ _ _ _ (by first | rfl | omega | (rw [szA]; omega) | (rw [szA, szA]; omega) | (rw [szD, szA]; omega) | (rw [szD, szA, szA]; omega)))) (T2.out.below (by repeat (first | exact z1 | exact Below.refl _ _ | refine alB ?_ _ | refine Below.drew ?_))) n2 ?_; intro v2 y2 cop2; obtain ⟨b2, d2, rfl, j1, j2, j3⟩ := cop2.at_; have z2 : Below W2.heap.size W2 y2 := chainB (by repeat (first | exact z1 | exact Below.refl _ _ | refine alB ?_ _ | refine Below.drew ?_)) cop2.bel; have F3 := HX.out y2 z2; have F4 := HX.out _ (alB z2 (.cells #[] 28))))
    all_goals
      clear E1 E2 E3 E4 x0 x1 x2 x3 x4 x5 T1 T2
      have u1 := cop1.bel.size
      have u2 := cop2.bel.size
      have u3 := z1.size
      have u4 := z2.size
      simp only [szA, szD] at i2 j2 u1 u2
      have hne : w.heap.size + 2 ≤ b1 ∧ w.heap.size + 2 ≤ b2 ∧ b1 ≠ b2 := by omega
      first
        | (have o1 := ownS_below (ownS_below cop1.own (by repeat (first | exact Below.refl _ _ | refine alB ?_ _ | refine Below.drew ?_))) cop2.bel
           have HE : Hid _ := HEnd.out y2 b1 d1 b2 d2 o1 cop2.own hne z2
           clear F1 F2 F3 F4 cop1 cop2 z1 z2 o1 i1 i2 i3 j1 j2 j3 hne u1 u2 u3 u4
           go_wp2_with fail
           go_meet
           exact ⟨rfl, HE⟩)
        | (have o2 := ownS_below (ownS_below cop2.own (by repeat (first | exact Below.refl _ _ | refine alB ?_ _ | refine Below.drew ?_))) cop1.bel
           have HE : Hid _ := HEnd.out y1 b1 d1 b2 d2 cop1.own o2 hne z1
           clear F1 F2 F3 F4 cop1 cop2 z1 z2 o2 i1 i2 i3 j1 j2 j3 hne u1 u2 u3 u4
           go_wp2_with fail
           go_meet
           exact ⟨rfl, HE⟩)
  case rest =>
  obtain ⟨rfl, hE⟩ := hcut
  obtain ⟨b1, d1, b2, d2, r1, ho, hb⟩ := hE.out
  have k0 : wc.cell? ⟨w.heap.size + 1, 0, none⟩ = some (.slice (some ⟨b1, 0, none⟩) ss.length d1) ∧ wc.cell? ⟨w.heap.size + 1, 1, none⟩ = some (.slice (some ⟨b2, 0, none⟩) ps.length d2) := by simp [World.cell?, r1]
  obtain ⟨k0, k1⟩ := k0
  clear hE HEnd HX E1 E2 E3 E4 x0 x1 x2 x3 x4 x5 T1 T2 r1
  go_wp2_with fail
  refine bodyPost_ret (v := .agg #[.slice (some ⟨b1, 0, none⟩) ss.length d1, .slice (some ⟨b2, 0, none⟩) ps.length d2]) (by simp [results, Try.results34, go_sem, k0, k1]) rfl ?_
  exact ⟨_, _, rfl, ho, hb⟩
end Go.Proofs.Ytbgpkngnlfafcaa
