/-
  slices.Delete of one element, on a row of its own, at impl.Rule.
-/
import Derived.Test.YtbgpkngnlfafcaaRows
import Derived.Test.YtbgpkngnlfafcaaBytes
import Derived.Test.YtbgpkngnlfafcaaSlA
import Derived.Test.YtbgpkngnlfafcaaOwnS
import Derived.Test.YtbgpkngnlfafcaaBxK
import Derived.Test.YtbgpkngnlfafcaaStepApp
import Derived.Test.YtbgpkngnlfafcaaRowOps
import Derived.Handy
import Derived.WalkSpells
import Derived.OwnWalk
import Derived.Deep.RegionLaw
import Derived.Deep.RegionWith
import Derived.Deep.Cut
namespace Go.Proofs.Ytbgpkngnlfafcaa
open Go.RowKit Go.Lib
set_option linter.unusedVariables false
set_option maxRecDepth 20000

theorem elR : ∃ i, ElT Try.prog 23 28 i (.agg #[.string ByteArray.empty, .string ByteArray.empty, .int .i64 0, .int .i64 0]) 4 48 :=
  elT_of Try.underlying23 (by kernel_rfl) (by kernel_rfl) (by omega) (by intro v hv; simp [Value.cells] at hv; first | (rcases hv with rfl | rfl | rfl | rfl <;> rfl) | (rcases hv with rfl | rfl <;> rfl) | (subst hv; rfl))
theorem delR_row (cur : List Value) (xs : List Value) (zs : List Value) (i n S : Nat) (hi : i < n) (hS : zs.length = S) (hcur : n * S ≤ cur.length) (hx : cur.take (n * S) = xs) :
    ((cur.take (i * S) ++ xs.drop ((i + 1) * S) ++ cur.drop (i * S + (xs.drop ((i + 1) * S)).length)).take ((n - 1) * S) ++ zs ++ (cur.take (i * S) ++ xs.drop ((i + 1) * S) ++ cur.drop (i * S + (xs.drop ((i + 1) * S)).length)).drop ((n - 1) * S + S)).take ((n - 1) * S) = xs.take (i * S) ++ xs.drop ((i + 1) * S) := by
  have hxl : xs.length = n * S := by rw [← hx, List.length_take]; omega
  have h1 : (i + 1) * S ≤ n * S := Nat.mul_le_mul_right _ (by omega)
  have h2 : (i + 1) * S = i * S + S := by rw [Nat.add_mul, Nat.one_mul]
  have h3 : (n - 1) * S = n * S - S := by rw [Nat.sub_mul, Nat.one_mul]
  have e1 : cur.take (i * S) = xs.take (i * S) := by rw [← hx, List.take_take, Nat.min_eq_left (by omega)]
  have l1 : (xs.take (i * S) ++ xs.drop ((i + 1) * S)).length = (n - 1) * S := by rw [List.length_append, List.length_take, List.length_drop, hxl]; omega
  rw [e1]
  rw [List.append_assoc (List.take _ _), List.take_append_of_le_length (by rw [List.length_take, List.length_append, l1]; omega), List.take_take, Nat.min_self, ← l1, List.take_append_of_le_length (Nat.le_refl _), List.take_length]
set_option maxHeartbeats 4000000 in
theorem delR_any (base g n cap i : Nat) (xs : List Value) (w : World) (h : w.ownsRow base 28 4 (.slice (some ⟨g, 0, none⟩) n cap) n xs) (hi : i < n) (one : ∀ u ∈ xs, u.oneCell' = true) :
    Calls Try.prog 36 #[.slice (some ⟨g, 0, none⟩) n cap, .int .i64 (i : Int), .int .i64 ((i : Int) + 1)] w fun e w' => e = .returned (.slice (some ⟨g, 0, none⟩) (n - 1) cap) ∧ w'.ownsRow base 28 4 (.slice (some ⟨g, 0, none⟩) (n - 1) cap) (n - 1) (xs.take (i * 4) ++ xs.drop ((i + 1) * 4)) ∧ w.grownBy w' (some g) := by
  obtain ⟨i0, E⟩ := elR
  obtain ⟨cur, hg, hb, hn, hm, hs, ht⟩ := own_bxs h
  have hxl := h.1
  have hcl : cur.toList.length = cap * 4 := by simpa using hs
  have hm' : cap ≤ 9223372036854775807 := hm
  obtain ⟨news, hnews⟩ : ∃ news, news = xs.drop ((i + 1) * 4) := ⟨_, rfl⟩
  have hnl : news.length = (n - (i + 1)) * 4 := by rw [hnews, List.length_drop, hxl, ← Nat.sub_mul]
  obtain ⟨cur2, hcur2⟩ : ∃ c : List Value, c = cur.toList.take (i * 4) ++ news ++ cur.toList.drop (i * 4 + news.length) := ⟨_, rfl⟩
  have h2l : cur2.length = cap * 4 := by rw [hcur2]; simp only [List.length_append, List.length_take, List.length_drop, hcl, hnl]; omega
  obtain ⟨W1, hW1⟩ : ∃ W1, W1 = w.setRow g cur2.toArray := ⟨_, rfl⟩
  have hg1 : Bxs W1 g 28 cur2.toArray := by rw [hW1]; exact Bxs.row hg _
  obtain ⟨A, hA, HSrc⟩ : ∃ A : Addr, (if cap = i + 1 then some (⟨g, 0, none⟩ : Addr) else some ⟨g, (i + 1) * 4, none⟩) = some A ∧ Hid (∀ y : World, y.heap = w.heap → ∀ j u, news[j]? = some u → y.cell? (A.add j) = some u) := by
    by_cases hq : cap = i + 1
    · refine ⟨⟨g, 0, none⟩, by simp [hq], fun y hy t u hu => ?_⟩
      have h0 : news.length = 0 := by rw [hnl]; omega
      rw [List.length_eq_zero_iff.1 h0] at hu
      simp at hu
    · refine ⟨⟨g, (i + 1) * 4, none⟩, by simp [hq], fun y hy t u hu => ?_⟩
      rw [Addr.add_lit]
      have e1 : (i + 1) * 4 = (i + 1) * 4 := by omega
      rw [e1]
      obtain ⟨ht', rfl⟩ := List.getElem?_eq_some_iff.1 hu
      have hy2 : Bxs y g 28 cur := by unfold Bxs; rw [hy]; exact hg
      rw [hy2.cell]
      subst hnews
      have hlt : (i + 1) * 4 + t < xs.length := by rw [List.length_drop] at ht'; omega
      rw [List.getElem_drop, ← List.getElem?_eq_getElem hlt, ← ht, List.getElem?_take_of_lt (by rw [← hxl]; exact hlt)]
      simp
  have AP : Hid (∀ y : World, y.heap = w.heap → (Builtin.append_ #[23, 23] 23 #[.slice (some ⟨g, 0, none⟩) i cap, .slice (some A) (n - (i + 1)) (cap - (i + 1))]).run Try.prog y = .ok (.slice (some ⟨g, 0, none⟩) (i + (n - (i + 1))) cap) (y.setRow g cur2.toArray)) := fun y hy => by
    rw [hcur2]
    exact run_append_bx E _ y g i cap A _ _ cur news (by unfold Bxs; rw [hy]; exact hg) hnl (HSrc.out y hy) (by omega) (by rw [hnl, hs]; omega) (fun u hu => one u (by rw [hnews] at hu; exact List.mem_of_mem_drop hu))
  have CL : Hid (∀ y, Bxs y g 28 cur2.toArray → (Builtin.clear_ #[23] 0 #[.slice (some ⟨g, (n - 1) * 4, none⟩) 1 (cap - (n - 1))]).run Try.prog y = .ok (.tuple #[]) (y.setRow g (cur2.take ((n - 1) * 4) ++ (Value.cells (.agg #[.string ByteArray.empty, .string ByteArray.empty, .int .i64 0, .int .i64 0])).toList ++ cur2.drop ((n - 1) * 4 + 4)).toArray)) := fun y hy => by
    have := run_clear_bx E 0 y g ((n - 1) * 4) (cap - (n - 1)) cur2.toArray hy (by simp [h2l]; omega)
    rw [List.toList_toArray] at this
    rw [show (⟨g, (n - 1) * 4, none⟩ : Addr) = ⟨g, (n - 1) * 4, none⟩ from by first | rfl | (congr 1; omega)]
    exact this
  have HW1 : Hid (W1 = w.setRow g cur2.toArray) := hW1
  have HG1 : Hid (∀ y : World, y.heap = w.heap → Bxs (y.setRow g cur2.toArray) g 28 cur2.toArray) := fun y hy => Bxs.row (cs := cur) (by unfold Bxs; rw [hy]; exact hg) _
  have HEnd : Hid (∀ y : World, y.heap = w.heap → y.os = w.os → y.tape = w.tape → y.output = w.output → ((y.setRow g cur2.toArray).setRow g (cur2.take ((n - 1) * 4) ++ (Value.cells (.agg #[.string ByteArray.empty, .string ByteArray.empty, .int .i64 0, .int .i64 0])).toList ++ cur2.drop ((n - 1) * 4 + 4)).toArray).ownsRow base 28 4 (.slice (some ⟨g, 0, none⟩) (n - 1) cap) (n - 1) (xs.take (i * 4) ++ xs.drop ((i + 1) * 4)) ∧ w.grownBy ((y.setRow g cur2.toArray).setRow g (cur2.take ((n - 1) * 4) ++ (Value.cells (.agg #[.string ByteArray.empty, .string ByteArray.empty, .int .i64 0, .int .i64 0])).toList ++ cur2.drop ((n - 1) * 4 + 4)).toArray) (some g)) := fun y h1 h2 h3 h4 => by
    refine ⟨bxs_own (Bxs.row (HG1.out y h1) _) hb (by omega) hm (by simp only [List.size_toArray, List.length_append, List.length_take, List.length_drop, h2l]; simp [Value.cells]; omega) ?_, ?_⟩
    · rw [List.toList_toArray, hcur2, hnews]
      exact delR_row cur.toList xs _ i n 4 hi (by simp [Value.cells]) (by rw [hcl]; exact Nat.mul_le_mul_right _ hn) ht
    · refine ⟨h2, h3, h4, by simp [h1], fun k hk hne => ?_⟩
      rw [row_other _ _ _ _ (fun e => hne (by rw [e])), row_other _ _ _ _ (fun e => hne (by rw [e])), h1]
  have hn1 : i + (n - (i + 1)) = n - 1 := by omega
  clear hg1 hW1 HW1 hcur2 h2l HSrc hnews hnl E h one ht hxl hcl hs hg hb
  have hni : n ≠ 0 := by omega
  have hic : i ≤ cap := by omega
  have hjc : i + 1 ≤ cap := by omega
  have hjn : i + 1 ≤ n := by omega
  have hj0 : (0 : Int) ≤ (i : Int) + 1 := by omega
  have hn1c : n - 1 ≤ cap := by omega
  have hn1n : n - 1 ≤ n := by omega
  have hnn : n - (n - 1) = 1 := by omega
  have hcn : ¬ cap = n - 1 := by omega
  have q1 : (i : Int) + 1 ≤ n := by omega
  have q2 : IntKind.i64.wrap ((i : Int) + 1) = (i : Int) + 1 := by rw [IntKind.wrap_i64]; omega
  go_enter Try.func36, Try.ntmps36
  go_wp2_with fail
  have AP1 := AP.out w.drew rfl
  have G1 := HG1.out w.drew rfl
  have CL1 := CL.out _ G1
  have HE1 := HEnd.out w.drew rfl rfl rfl rfl
  obtain ⟨W5, hW5⟩ : ∃ W5, W5 = w.drew.setRow g cur2.toArray := ⟨_, rfl⟩
  rw [← hW5] at AP1 CL1 HE1
  obtain ⟨W6, hW6⟩ : ∃ W6, W6 = W5.setRow g (cur2.take ((n - 1) * 4) ++ (Value.cells (.agg #[.string ByteArray.empty, .string ByteArray.empty, .int .i64 0, .int .i64 0])).toList ++ cur2.drop ((n - 1) * 4 + 4)).toArray := ⟨_, rfl⟩
  rw [← hW6] at CL1 HE1
  obtain ⟨HO6, HG6⟩ := HE1
  have HO6 : Hid (W6.ownsRow base 28 4 (.slice (some ⟨g, 0, none⟩) (n - 1) cap) (n - 1) (xs.take (i * 4) ++ xs.drop ((i + 1) * 4))) := HO6
  have HG6 : Hid (w.grownBy W6 (some g)) := HG6
  rw [hn1] at AP1
  clear AP CL HEnd HG1 G1 hW5 hW6
  go_region_law (refine step_append_run rfl (.tmp 22) (.tmp 25) 23 rfl (.slice (some ⟨g, 0, none⟩) i cap) (.slice (some A) (n - (i + 1)) (cap - (i + 1))) _ _ (by simp [Act.eval, Act.put]) (by simp [Act.eval, Act.put]) AP1 ?_)
  all_goals
    go_wp2_with fail
    go_ret
    exact ⟨rfl, HO6.out, HG6.out⟩
end Go.Proofs.Ytbgpkngnlfafcaa
