/-
  slices.Insert of one element, on a row of its own, at impl.Rule.
-/
import Derived.Test.YtbgpkngnlfafcaaRows
import Derived.Test.YtbgpkngnlfafcaaBytes
import Derived.Test.YtbgpkngnlfafcaaSlA
import Derived.Test.YtbgpkngnlfafcaaOwnS
import Derived.Test.YtbgpkngnlfafcaaBxK
import Derived.Test.YtbgpkngnlfafcaaStepApp
import Derived.Test.YtbgpkngnlfafcaaRowOps
import Derived.Test.YtbgpkngnlfafcaaDelR
import Derived.Handy
import Derived.WalkSpells
import Derived.OwnWalk
import Derived.Deep.RegionLaw
import Derived.Deep.RegionWith
import Derived.Deep.Cut
import Derived.Laws.Externs
namespace Go.Proofs.Ytbgpkngnlfafcaa
open Go.RowKit Go.Lib
set_option linter.unusedVariables false
set_option maxRecDepth 20000

theorem insR_a (L P X Y R : List Value) (a s : Nat) (hP : L.take a = P) (hs : Y.length = s) (hl : a + s ≤ L.length) : ((L.take (a + s) ++ X ++ R).take a ++ Y ++ (L.take (a + s) ++ X ++ R).drop (a + s)).take (a + s + X.length) = P ++ Y ++ X := by
  have hPl : P.length = a := by rw [← hP, List.length_take]; omega
  have h1 : (L.take (a + s) ++ X ++ R).take a = P := by
    rw [List.append_assoc, List.take_append_of_le_length (by rw [List.length_take]; omega), List.take_take, Nat.min_eq_left (by omega)]; exact hP
  have h2 : (L.take (a + s) ++ X ++ R).drop (a + s) = X ++ R := by
    have hl2 : (L.take (a + s)).length = a + s := by rw [List.length_take]; omega
    rw [List.append_assoc, List.drop_append, hl2, Nat.sub_self, List.drop_zero, List.drop_eq_nil_of_le (by omega), List.nil_append]
  rw [h1, h2]
  have hl3 : (P ++ Y ++ X).length = a + s + X.length := by rw [List.length_append, List.length_append, hPl, hs]
  rw [← List.append_assoc, ← hl3, List.take_append_of_le_length (Nat.le_refl _), List.take_length]
theorem insR_b (L P X Y R R2 : List Value) (a s : Nat) (hP : L.take a = P) (hPl : P.length = a) (hs : Y.length = s) : ((L.take a ++ Y ++ R).take (a + s) ++ X ++ R2).take (a + s + X.length) = P ++ Y ++ X := by
  have h1 : (L.take a ++ Y ++ R).take (a + s) = P ++ Y := by
    rw [hP]
    have hl3 : (P ++ Y).length = a + s := by rw [List.length_append, hPl, hs]
    rw [← hl3, List.take_append_of_le_length (Nat.le_refl _), List.take_length]
  rw [h1]
  have hl3 : (P ++ Y ++ X).length = a + s + X.length := by rw [List.length_append, List.length_append, hPl, hs]
  rw [← hl3, List.take_append_of_le_length (Nat.le_refl _), List.take_length]
set_option maxHeartbeats 4000000 in
theorem insR_end (base : Nat) (v : Value) (n : Nat) (xs : List Value) (vb : Nat) (ys : List Value) (w : World) (h : w.ownsRow base 28 4 v n xs) (hv : Bxs w vb 28 ys.toArray) (hyl : ys.length = 4) (oy : ∀ u ∈ ys, u.oneCell' = true) (hbase : base ≤ w.heap.size) (hn : n ≤ 1000000) :
    Calls Try.prog 26 #[v, .int .i64 (n : Int), .slice (some ⟨vb, 0, none⟩) 1 1] w fun e w' => ∃ v', e = .returned v' ∧ w'.ownsRow base 28 4 v' (n + 1) (xs ++ ys) ∧ w.grownBy w' v.ownBlock ∧ Lies w v v' := by
  obtain ⟨i0, E⟩ := elR
  have hcv : CelAt w (some ⟨vb, 0, none⟩) ys := fun j hj => ⟨vb, 0, rfl, hv.lt, by rw [hv.cell]; simp [hj]⟩
  obtain ⟨v', w', AP, HO, HG, HL⟩ := app_cel E 23 w base v n xs h (some ⟨vb, 0, none⟩) 1 1 ys hcv (by omega) oy (by omega) (by unfold maxLen; omega) hbase
  have HO : Hid (w'.ownsRow base 28 4 v' (n + 1) (xs ++ ys)) := HO
  have HG : Hid (w.grownBy w' v.ownBlock) := HG
  have HL : Hid (Lies w v v') := HL
  have hm : n ≤ 9223372036854775807 := by omega
  rcases h.2 with ⟨rfl, rfl⟩ | ⟨g, cap, cur, rfl, _, _, hnc, hcm, _, _⟩
  · clear h hcv hv E
    go_enter Try.func26, Try.ntmps26
    go_wp2_with (at_builtin; refine wpList_app rfl _ _ _ _ rfl _ _ _ _ rfl rfl AP ?_)
    all_goals
      go_ret
      exact ⟨_, rfl, HO.out, HG.out, HL.out⟩
  · clear h hcv hv E
    have hm2 : cap ≤ 9223372036854775807 := hcm
    go_enter Try.func26, Try.ntmps26
    go_wp2_with (at_builtin; refine wpList_app rfl _ _ _ _ rfl _ _ _ _ rfl rfl AP ?_)
    all_goals
      go_ret
      exact ⟨_, rfl, HO.out, HG.out, HL.out⟩
set_option maxHeartbeats 8000000 in
theorem insR_room (base g n cap i : Nat) (xs : List Value) (vb : Nat) (ys : List Value) (w : World) (h : w.ownsRow base 28 4 (.slice (some ⟨g, 0, none⟩) n cap) n xs) (hi : i < n) (hr : n + 1 ≤ cap) (hv : Bxs w vb 28 ys.toArray) (hyl : ys.length = 4) (hne : vb ≠ g) (ox : ∀ u ∈ xs, u.oneCell' = true) (oy : ∀ u ∈ ys, u.oneCell' = true) :
    Calls Try.prog 26 #[.slice (some ⟨g, 0, none⟩) n cap, .int .i64 (i : Int), .slice (some ⟨vb, 0, none⟩) 1 1] w fun e w' => ∃ v', e = .returned v' ∧ w'.ownsRow base 28 4 v' (n + 1) (xs.take (i * 4) ++ ys ++ xs.drop (i * 4)) ∧ w.grownBy w' (some g) ∧ v' = .slice (some ⟨g, 0, none⟩) (n + 1) cap := by
  obtain ⟨i0, E⟩ := elR
  obtain ⟨cur, hg, hb, hn, hm, hs, ht⟩ := own_bxs h
  have hxl := h.1
  have hcl : cur.toList.length = cap * 4 := by simpa using hs
  have hm' : cap ≤ 9223372036854775807 := hm
  obtain ⟨X, hX⟩ : ∃ X, X = xs.drop (i * 4) := ⟨_, rfl⟩
  have hXl : X.length = (n - i) * 4 := by rw [hX, List.length_drop, hxl, ← Nat.sub_mul]
  obtain ⟨R, hR⟩ : ∃ R, R = cur.toList.drop ((i + 1) * 4 + X.length) := ⟨_, rfl⟩
  obtain ⟨L1, hL1⟩ : ∃ c : List Value, c = cur.toList.take ((i + 1) * 4) ++ X ++ R := ⟨_, rfl⟩
  have h1l : L1.length = cap * 4 := by rw [hL1, hR]; simp only [List.length_append, List.length_take, List.length_drop, hcl, hXl]; omega
  obtain ⟨L2, hL2⟩ : ∃ c : List Value, c = L1.take (i * 4) ++ ys ++ L1.drop (i * 4 + ys.length) := ⟨_, rfl⟩
  have h2l : L2.length = cap * 4 := by rw [hL2]; simp only [List.length_append, List.length_take, List.length_drop, h1l, hyl]; omega
  have hxt : cur.toList.take (i * 4) = xs.take (i * 4) := by rw [← ht, List.take_take, Nat.min_eq_left (Nat.mul_le_mul_right _ (by omega))]
  have hfin : L2.take ((n + 1) * 4) = xs.take (i * 4) ++ ys ++ xs.drop (i * 4) := by
    have := insR_a cur.toList (xs.take (i * 4)) X ys R (i * 4) 4 hxt hyl (by rw [hcl]; omega)
    have e1 : (n + 1) * 4 = i * 4 + 4 + X.length := by rw [hXl]; omega
    rw [e1, hL2, hyl, hL1, show (i + 1) * 4 = i * 4 + 4 by omega, this, hX]
  obtain ⟨J, hJ⟩ : ∃ J, J = i + 1 := ⟨_, rfl⟩
  have CPa : (Builtin.copy_ #[23, 23] 3 #[.slice (some ⟨g, J * 4, none⟩) (n + 1 - J) (cap - J), .slice (some ⟨g, i * 4, none⟩) (n + 1 - i) (cap - i)]).run Try.prog w.drew = .ok (.int .i64 ((n - i : Nat) : Int)) (w.drew.setRow g L1.toArray) := by
    have e0 : (⟨g, J * 4, none⟩ : Addr) = ⟨g, (i + 1) * 4, none⟩ := by subst hJ; first | rfl | (congr 1; omega)
    rw [e0, hL1, hR]
    exact run_copy_bx E 3 w.drew g ((i + 1) * 4) _ _ ⟨g, i * 4, none⟩ _ _ (n - i) cur X hg (by show _ = min _ _; omega) hXl (fun j u hu => by
      obtain ⟨hj, rfl⟩ := List.getElem?_eq_some_iff.1 hu
      have hgd : Bxs w.drew g 28 cur := hg
      subst hX
      have hj2 : j < xs.length - i * 4 := by simpa using hj
      rw [Addr.add_lit, hgd.cell, show i * 4 + j = i * 4 + j by omega, List.getElem_drop, ← List.getElem?_eq_getElem (by omega), ← ht, List.getElem?_take_of_lt (by omega)]
      simp) (by rw [hXl, hs]; omega) (fun u hu => ox u (by rw [hX] at hu; exact List.mem_of_mem_drop hu))
  obtain ⟨W1, hW1⟩ : ∃ W1, W1 = w.drew.setRow g L1.toArray := ⟨_, rfl⟩
  rw [← hW1] at CPa
  have hg1 : Bxs W1 g 28 L1.toArray := by rw [hW1]; exact Bxs.row (cs := cur) hg _
  have hv1 : Bxs W1 vb 28 ys.toArray := by rw [hW1]; exact Bxs.rowOther (w := w.drew) hv g _ hne
  have CPb : (Builtin.copy_ #[23, 23] 3 #[.slice (some ⟨g, i * 4, none⟩) (n + 1 - i) (cap - i), .slice (some ⟨vb, 0, none⟩) 1 1]).run Try.prog W1 = .ok (.int .i64 1) (W1.setRow g L2.toArray) := by
    have e0 : (⟨g, i * 4, none⟩ : Addr) = ⟨g, i * 4, none⟩ := by first | rfl | (congr 1; omega)
    rw [e0, hL2]
    have := run_copy_bx E 3 W1 g (i * 4) (n + 1 - i) (cap - i) ⟨vb, 0, none⟩ 1 1 1 L1.toArray ys hg1 (by show _ = min _ _; omega) (by omega) (fun j u hu => by
      obtain ⟨hj, rfl⟩ := List.getElem?_eq_some_iff.1 hu
      rw [Addr.add_lit, Nat.zero_add, hv1.cell]
      simp [hj]) (by rw [hyl]; simp [h1l]; omega) oy
    rw [List.toList_toArray] at this
    exact this
  obtain ⟨W2, hW2⟩ : ∃ W2, W2 = W1.setRow g L2.toArray := ⟨_, rfl⟩
  rw [← hW2] at CPb
  have HO : Hid (W2.ownsRow base 28 4 (.slice (some ⟨g, 0, none⟩) (n + 1) cap) (n + 1) (xs.take (i * 4) ++ ys ++ xs.drop (i * 4))) := by
    show World.ownsRow _ _ _ _ _ _ _
    rw [hW2]; exact bxs_own (hg1.row _) hb hr hm (by simp [h2l]) (by rw [List.toList_toArray]; exact hfin)
  have HG : Hid (w.grownBy W2 (some g)) := by
    rw [hW2, hW1]
    refine ⟨rfl, rfl, rfl, by simp, fun k hk hne => ?_⟩
    rw [row_other _ _ _ _ (fun e => hne (by rw [e])), row_other _ _ _ _ (fun e => hne (by rw [e]))]; rfl
  have OV : Hid (∀ y : World, y.heap = w.heap → (callFunc 52 #[.slice (some ⟨vb, 0, none⟩) 1 1, .slice (some ⟨g, J * 4, none⟩) (n + 1 - J) (cap - J)]).run Try.prog y = .ok (.value (.bool false)) y) := fun y hy => by
    have yg : Bxs y g 28 cur := by unfold Bxs; rw [hy]; exact hg
    have yv : Bxs y vb 28 ys.toArray := by unfold Bxs; rw [hy]; exact hv
    rw [run_callFunc_extern Try.func52 (by kernel_rfl) (by kernel_rfl) (by kernel_rfl) (e := Extern.SlicesOverlaps.overlaps #[23, 23] #[4]) (by kernel_rfl),
      Lib.run_overlaps_apart y 23 4 28 Try.underlying23 4 Try.sizeOf28 ⟨vb, 0, none⟩ ⟨g, J * 4, none⟩ 1 1 (n + 1 - J) (cap - J) hne 28 28 ys.toArray.size cur.size (by unfold Bxs at yv; simp [World.shape?, yv]) (by unfold Bxs at yg; simp [World.shape?, yg]) (by omega) (yv.fr 0) (yv.fr _)]
    rfl
  clear hg hg1 hv1 hv hW1 hW2 hL1 hL2 h1l h2l hfin hX hXl hR E h ox oy ht hxt hxl hcl hs hb
  have q1 : (i : Int) ≤ n := by omega
  have q2 : decide ((i : Int) = n) = false := decide_eq_false (by omega)
  have q3 : ((i : Int) == n) = false := by simp; omega
  have q4 : decide ((cap : Int) < (n : Int) + 1) = false := decide_eq_false (by omega)
  have OV1 := OV.out w rfl
  have hic : i ≤ cap := by omega
  have hjc : i + 1 ≤ cap := by omega
  have hj0 : (0 : Int) ≤ (i : Int) + 1 := by omega
  have hin : i ≤ n := by omega
  have hin1 : i + 1 ≤ n + 1 := by omega
  have hin2 : i ≤ n + 1 := by omega
  have hin3 : (i : Int) ≤ (n : Int) + 1 := by omega
  have hci : ¬ cap = i := by omega
  have hci1 : ¬ cap = i + 1 := by omega
  have hcJ : ¬ cap = J := by omega
  have hJn : (J : Int) ≤ (n : Int) + 1 := by omega
  have hJw : IntKind.i64.wrap ((i : Int) + 1) = (J : Int) := by rw [IntKind.wrap_i64]; omega
  have HJ : Hid (J = i + 1) := hJ
  clear hJ
  go_enter Try.func26, Try.ntmps26
  go_wp2_with fail
  go_region_law (refine step_copy_bx rfl (.tmp 73) (.tmp 76) 23 23 rfl _ _ _ _ (by simp [Act.eval, Act.put]) (by simp [Act.eval, Act.put]) CPa ?_)
  all_goals
    go_wp2_with (at_builtin; refine wpList_copy_bx rfl _ _ _ _ rfl _ _ _ _ rfl rfl CPb ?_)
    go_ret
    exact ⟨_, rfl, HO.out, HG.out, rfl⟩
set_option maxHeartbeats 8000000 in
theorem insR_grow (base g n cap i : Nat) (xs : List Value) (vb : Nat) (ys : List Value) (w : World) (h : w.ownsRow base 28 4 (.slice (some ⟨g, 0, none⟩) n cap) n xs) (hi : i < n) (hr : cap < n + 1) (hv : Bxs w vb 28 ys.toArray) (hyl : ys.length = 4) (ox : ∀ u ∈ xs, u.oneCell' = true) (oy : ∀ u ∈ ys, u.oneCell' = true) (hbase : base ≤ w.heap.size) (hn6 : n ≤ 1000000) :
    Calls Try.prog 26 #[.slice (some ⟨g, 0, none⟩) n cap, .int .i64 (i : Int), .slice (some ⟨vb, 0, none⟩) 1 1] w fun e w' => ∃ v', e = .returned v' ∧ w'.ownsRow base 28 4 v' (n + 1) (xs.take (i * 4) ++ ys ++ xs.drop (i * 4)) ∧ w.grownBy w' (some g) ∧ ∃ C, v' = .slice (some ⟨w.heap.size, 0, none⟩) (n + 1) C := by
  obtain ⟨i0, E⟩ := elR
  obtain ⟨cur, hg, hb, hn, hm, hs, ht⟩ := own_bxs h
  have hgl := hg.lt
  have hvl := hv.lt
  have hxl := h.1
  have hm' : cap ≤ 9223372036854775807 := hm
  obtain ⟨k, hk⟩ : ∃ k, k = n + 1 - i := ⟨_, rfl⟩
  have hik : i + k = n + 1 := by omega
  obtain ⟨olds, holds⟩ : ∃ o, o = xs.take (i * 4) := ⟨_, rfl⟩
  have hol : olds.length = i * 4 := by rw [holds, List.length_take, hxl]; omega
  have hold : (Builtin.firstCells i0.size i (.slice (some ⟨g, 0, none⟩) i cap)).run Try.prog w.drew = .ok olds.toArray w.drew := by
    rw [E.hs]
    refine run_firstCells_some (P := Try.prog) w.drew 4 i ⟨g, 0, none⟩ i cap olds hol (fun j u hu => ?_)
    obtain ⟨hj, rfl⟩ := List.getElem?_eq_some_iff.1 hu
    have hgd : Bxs w.drew g 28 cur := hg
    subst holds
    have hj2 : j < xs.length := by rw [List.length_take] at hj; omega
    rw [Addr.add_lit, hgd.cell, Nat.zero_add, List.getElem_take, ← List.getElem?_eq_getElem hj2, ← ht, List.getElem?_take_of_lt (by omega)]
    simp
  have hfits : Builtin.nextslicecap (i + k) cap * i0.bytes ≤ 281474976710656 := by
    rw [hik, E.hb]; exact growslice_fits hr (by omega)
  have AZ := run_append_grow_zeros (P := Try.prog) w 23 3 23 28 i0 (.agg #[.string ByteArray.empty, .string ByteArray.empty, .int .i64 0, .int .i64 0]) .i64 .i64 E.ht Try.underlying3 E.hi E.hz (some ⟨g, 0, none⟩) i cap olds hold k (by omega) (by rw [E.hs]; omega) (by omega) (by omega) (by rw [E.hb]; omega) hfits
  have hge := grownCap_ge w (i + k) cap 28
  have hcm : grownCap w (i + k) cap 28 ≤ maxLen := grownCap_le_maxLen w (i + k) cap 28 (by unfold maxLen; omega)
  rw [hik] at AZ hge hcm
  generalize grownCap w (n + 1) cap 28 = C at *
  have hcm' : C ≤ 9223372036854775807 := hcm
  rw [show ((k : Nat) : Int) = (n : Int) + 1 - i by omega] at AZ
  obtain ⟨c1, hc1⟩ : ∃ c : Array Value, c = olds.toArray ++ Builtin.zeroCells (Value.cells (.agg #[.string ByteArray.empty, .string ByteArray.empty, .int .i64 0, .int .i64 0])) k ++ Builtin.zeroCells (Value.cells (.agg #[.string ByteArray.empty, .string ByteArray.empty, .int .i64 0, .int .i64 0])) (C - (n + 1)) := ⟨_, rfl⟩
  rw [← hc1] at AZ
  have h1l : c1.toList.length = C * 4 := by
    rw [Array.length_toList, hc1]
    simp only [Array.size_append, List.size_toArray, size_zeroCells, E.hzs, hol]
    omega
  have h1t : c1.toList.take (i * 4) = olds := by
    rw [hc1, Array.toList_append, Array.toList_append, List.append_assoc, ← hol, List.take_append_of_le_length (Nat.le_refl _), List.take_length]
  obtain ⟨W1, hW1⟩ : ∃ W1, W1 = w.drew.alloc (.cells c1 28) := ⟨_, rfl⟩
  rw [← hW1] at AZ
  have hg1 : Bxs W1 w.heap.size 28 c1 := by rw [hW1]; exact Bxs.new w.drew _ _
  have hv1 : Bxs W1 vb 28 ys.toArray := by rw [hW1]; exact Bxs.alloc (w := w.drew) hv _
  have hs1 : Bxs W1 g 28 cur := by rw [hW1]; exact Bxs.alloc (w := w.drew) hg _
  obtain ⟨R, hR⟩ : ∃ R, R = c1.toList.drop (i * 4 + ys.length) := ⟨_, rfl⟩
  obtain ⟨L2, hL2⟩ : ∃ c : List Value, c = c1.toList.take (i * 4) ++ ys ++ R := ⟨_, rfl⟩
  have h2l : L2.length = C * 4 := by rw [hL2, hR]; simp only [List.length_append, List.length_take, List.length_drop, h1l, hyl]; omega
  have CPb : (Builtin.copy_ #[23, 23] 3 #[.slice (some ⟨w.heap.size, i * 4, none⟩) (n + 1 - i) (C - i), .slice (some ⟨vb, 0, none⟩) 1 1]).run Try.prog W1 = .ok (.int .i64 1) (W1.setRow w.heap.size L2.toArray) := by
    have e0 : (⟨w.heap.size, i * 4, none⟩ : Addr) = ⟨w.heap.size, i * 4, none⟩ := by first | rfl | (congr 1; omega)
    rw [e0, hL2, hR]
    exact run_copy_bx E 3 W1 w.heap.size (i * 4) (n + 1 - i) (C - i) ⟨vb, 0, none⟩ 1 1 1 c1 ys hg1 (by show _ = min _ _; omega) (by omega) (fun j u hu => by
      obtain ⟨hj, rfl⟩ := List.getElem?_eq_some_iff.1 hu
      rw [Addr.add_lit, Nat.zero_add, hv1.cell]
      simp [hj]) (by rw [hyl]; simp at h1l; omega) oy
  obtain ⟨W2, hW2⟩ : ∃ W2, W2 = W1.setRow w.heap.size L2.toArray := ⟨_, rfl⟩
  rw [← hW2] at CPb
  have hg2 : Bxs W2 w.heap.size 28 L2.toArray := by rw [hW2]; exact hg1.row _
  have hs2 : Bxs W2 g 28 cur := by rw [hW2]; exact hs1.rowOther _ _ (by omega)
  obtain ⟨X, hX⟩ : ∃ X, X = xs.drop (i * 4) := ⟨_, rfl⟩
  have hXl : X.length = (n - i) * 4 := by rw [hX, List.length_drop, hxl, ← Nat.sub_mul]
  obtain ⟨L3, hL3⟩ : ∃ c : List Value, c = L2.take ((i + 1) * 4) ++ X ++ L2.drop ((i + 1) * 4 + X.length) := ⟨_, rfl⟩
  have h3l : L3.length = C * 4 := by rw [hL3]; simp only [List.length_append, List.length_take, List.length_drop, h2l, hXl]; omega
  obtain ⟨J, hJ⟩ : ∃ J, J = i + 1 := ⟨_, rfl⟩
  have CPa : (Builtin.copy_ #[23, 23] 3 #[.slice (some ⟨w.heap.size, J * 4, none⟩) (n + 1 - J) (C - J), .slice (some ⟨g, i * 4, none⟩) (n - i) (cap - i)]).run Try.prog W2.drew = .ok (.int .i64 ((n - i : Nat) : Int)) (W2.drew.setRow w.heap.size L3.toArray) := by
    have e0 : (⟨w.heap.size, J * 4, none⟩ : Addr) = ⟨w.heap.size, (i + 1) * 4, none⟩ := by subst hJ; first | rfl | (congr 1; omega)
    rw [e0, hL3]
    have := run_copy_bx E 3 W2.drew w.heap.size ((i + 1) * 4) (n + 1 - J) (C - J) ⟨g, i * 4, none⟩ (n - i) (cap - i) (n - i) L2.toArray X hg2 (by show _ = min _ _; omega) hXl (fun j u hu => by
      obtain ⟨hj, rfl⟩ := List.getElem?_eq_some_iff.1 hu
      have hgd : Bxs W2.drew g 28 cur := hs2
      subst hX
      have hj2 : j < xs.length - i * 4 := by simpa using hj
      rw [Addr.add_lit, hgd.cell, show i * 4 + j = i * 4 + j by omega, List.getElem_drop, ← List.getElem?_eq_getElem (by omega), ← ht, List.getElem?_take_of_lt (by omega)]
      simp) (by rw [hXl]; simp [h2l]; omega) (fun u hu => ox u (by rw [hX] at hu; exact List.mem_of_mem_drop hu))
    rw [List.toList_toArray] at this
    exact this
  obtain ⟨W3, hW3⟩ : ∃ W3, W3 = W2.drew.setRow w.heap.size L3.toArray := ⟨_, rfl⟩
  rw [← hW3] at CPa
  have hfin : L3.take ((n + 1) * 4) = xs.take (i * 4) ++ ys ++ xs.drop (i * 4) := by
    have := insR_b c1.toList olds X ys R (L2.drop ((i + 1) * 4 + X.length)) (i * 4) 4 h1t hol hyl
    have e1 : (n + 1) * 4 = i * 4 + 4 + X.length := by rw [hXl]; omega
    rw [← hL2, show i * 4 + 4 = (i + 1) * 4 by omega, ← hL3] at this
    rw [e1, show i * 4 + 4 = (i + 1) * 4 by omega, this, holds, hX]
  have HO : Hid (W3.ownsRow base 28 4 (.slice (some ⟨w.heap.size, 0, none⟩) (n + 1) C) (n + 1) (xs.take (i * 4) ++ ys ++ xs.drop (i * 4))) := by
    show World.ownsRow _ _ _ _ _ _ _
    rw [hW3]; exact bxs_own (Bxs.row (w := W2.drew) hg2 _) hbase hge hcm (by simp [h3l]) (by rw [List.toList_toArray]; exact hfin)
  have HG : Hid (w.grownBy W3 (some g)) := by
    rw [hW3, hW2, hW1]
    refine ⟨rfl, rfl, rfl, by simp [World.setRow], fun k hk hne => ?_⟩
    rw [row_other _ _ _ _ (by omega)]
    show (World.setRow _ _ _).heap[k]? = _
    rw [row_other _ _ _ _ (by omega)]
    exact Below.heap_alloc _ _ _ hk
  clear hg hg1 hv1 hv hs1 hs2 hg2 hW1 hW2 hW3 hL2 hL3 h1l h2l h3l hfin hX hXl hR E h ox oy ht hxl hs hb hold holds hol hc1 h1t hfits hgl hvl
  have q1 : (i : Int) ≤ n := by omega
  have q2 : decide ((i : Int) = n) = false := decide_eq_false (by omega)
  have q3 : ((i : Int) == n) = false := by simp; omega
  have q4 : decide ((cap : Int) < (n : Int) + 1) = true := decide_eq_true (by omega)
  have hic : i ≤ cap := by omega
  have hin : i ≤ n := by omega
  have hin2 : i ≤ n + 1 := by omega
  have hin3 : (i : Int) ≤ (n : Int) + 1 := by omega
  have hci : ¬ cap = i := by omega
  have hCi : ¬ C = i := by omega
  have hCJ : ¬ C = J := by omega
  have hJn : (J : Int) ≤ (n : Int) + 1 := by omega
  have hJw : IntKind.i64.wrap ((i : Int) + 1) = (J : Int) := by rw [IntKind.wrap_i64]; omega
  have HJ : Hid (J = i + 1) := hJ
  clear hJ hik hk
  go_enter Try.func26, Try.ntmps26
  go_wp2_with (first | (at_builtin; refine wpList_app rfl _ _ _ _ rfl _ _ _ _ rfl rfl AZ ?_) | (at_builtin; refine wpList_copy_bx rfl _ _ _ _ rfl _ _ _ _ rfl rfl CPb ?_))
  go_region_law (refine step_copy_bx rfl (.tmp 50) (.tmp 53) 23 23 rfl _ _ _ _ (by simp [Act.eval, Act.put]) (by simp [Act.eval, Act.put]) CPa ?_)
  all_goals
    go_wp2_with fail
    go_ret
    exact ⟨_, rfl, HO.out, HG.out, _, rfl⟩
theorem insR_any (base : Nat) (v : Value) (n i : Nat) (xs : List Value) (vb : Nat) (ys : List Value) (w : World) (h : w.ownsRow base 28 4 v n xs) (hi : i ≤ n) (hv : Bxs w vb 28 ys.toArray) (hyl : ys.length = 4) (hne : some vb ≠ v.ownBlock) (ox : ∀ u ∈ xs, u.oneCell' = true) (oy : ∀ u ∈ ys, u.oneCell' = true) (hbase : base ≤ w.heap.size) (hn6 : n ≤ 1000000) :
    Calls Try.prog 26 #[v, .int .i64 (i : Int), .slice (some ⟨vb, 0, none⟩) 1 1] w fun e w' => ∃ v', e = .returned v' ∧ w'.ownsRow base 28 4 v' (n + 1) (xs.take (i * 4) ++ ys ++ xs.drop (i * 4)) ∧ w.grownBy w' v.ownBlock ∧ Lies w v v' := by
  by_cases he : i = n
  · subst he
    have e1 : xs.take (i * 4) = xs := List.take_of_length_le (by rw [h.1]; exact Nat.le_refl _)
    have e2 : xs.drop (i * 4) = [] := List.drop_eq_nil_of_le (by rw [h.1]; exact Nat.le_refl _)
    rw [e1, e2, List.append_nil]
    exact insR_end base v i xs vb ys w h hv hyl oy hbase hn6
  · rcases h.2 with ⟨rfl, rfl⟩ | ⟨g, cap, cur, rfl, _, _, hnc, hcm, _, _⟩
    · omega
    · by_cases hr : n + 1 ≤ cap
      · refine (insR_room base g n cap i xs vb ys w h (by omega) hr hv hyl (fun e => hne (by rw [e]; rfl)) ox oy).mono ?_
        rintro e w' ⟨v', rfl, h1, h2, rfl⟩
        exact ⟨_, rfl, h1, h2, fun j hj => .inl hj⟩
      · refine (insR_grow base g n cap i xs vb ys w h (by omega) (by omega) hv hyl ox oy hbase hn6).mono ?_
        rintro e w' ⟨v', rfl, h1, h2, C, rfl⟩
        exact ⟨_, rfl, h1, h2, fun j hj => .inr (by have : some w.heap.size = some j := hj; cases this; exact Nat.le_refl _)⟩
end Go.Proofs.Ytbgpkngnlfafcaa
