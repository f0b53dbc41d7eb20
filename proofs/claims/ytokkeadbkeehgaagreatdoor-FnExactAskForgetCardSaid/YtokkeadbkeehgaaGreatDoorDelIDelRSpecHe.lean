/-
  Parts of one proof, laid as one text: DelI, DelR, SpecHe; what each says stands at its head.
-/
import Derived.Test.YtokkeadbkeehgaaGreatDoorRows
import Derived.Test.YtokkeadbkeehgaaGreatDoorBytesDigMathTreeMathSlASlBBxKOwnSTakesLTillTwo
import Derived.Test.YtokkeadbkeehgaaGreatDoorPolAnsKeepMAfMathLawAfStepAppOwnBTurn2
import Derived.Test.YtokkeadbkeehgaaGreatDoorLawLkRowOpsLgOLawLo
import Derived.Handy
import Derived.WalkSpells
import Derived.OwnWalk
import Derived.Deep.RegionLaw
import Derived.Deep.RegionWith
import Derived.Deep.Cut
import Derived.Test.YtokkeadbkeehgaaGreatDoorLgAtKShwKOneKFldGFldBlkRwBlkIntKLawILawOGLawImBlNotRulMathAppS
import Derived.Test.YtokkeadbkeehgaaGreatDoorRulBlkLawRlLawPoLawSLawM
import Derived.Test.YtokkeadbkeehgaaGreatDoorLawSwLfMathLaMathLfSumPolMathPolIdxRulIdxPolO
/-
  slices.Delete of one element, on a row of its own, at int64.
-/
namespace Go.Proofs.YtokkeadbkeehgaaGreatDoor
open Go.RowKit Go.Lib
set_option linter.unusedVariables false
set_option maxRecDepth 20000

theorem elI : ∃ i, ElT Tryz.prog 27 2 i (.int .i64 0) 1 8 :=
  elT_of Tryz.underlying27 (by kernel_rfl) (by kernel_rfl) (by omega) (by intro v hv; simp [Value.cells] at hv; first | (rcases hv with rfl | rfl | rfl | rfl <;> rfl) | (rcases hv with rfl | rfl <;> rfl) | (subst hv; rfl))
theorem delI_row (cur : List Value) (xs : List Value) (zs : List Value) (i n S : Nat) (hi : i < n) (hS : zs.length = S) (hcur : n * S ≤ cur.length) (hx : cur.take (n * S) = xs) :
    ((cur.take (i * S) ++ xs.drop ((i + 1) * S) ++ cur.drop (i * S + (xs.drop ((i + 1) * S)).length)).take ((n - 1) * S) ++ zs ++ (cur.take (i * S) ++ xs.drop ((i + 1) * S) ++ cur.drop (i * S + (xs.drop ((i + 1) * S)).length)).drop ((n - 1) * S + S)).take ((n - 1) * S) = xs.take (i * S) ++ xs.drop ((i + 1) * S) := by
  have hxl : xs.length = n * S := by rw [← hx, List.length_take]; omega
  have h1 : (i + 1) * S ≤ n * S := Nat.mul_le_mul_right _ (by omega)
  have h2 : (i + 1) * S = i * S + S := by rw [Nat.add_mul, Nat.one_mul]
  have h3 : (n - 1) * S = n * S - S := by rw [Nat.sub_mul, Nat.one_mul]
  have e1 : cur.take (i * S) = xs.take (i * S) := by rw [← hx, List.take_take, Nat.min_eq_left (by omega)]
  have l1 : (xs.take (i * S) ++ xs.drop ((i + 1) * S)).length = (n - 1) * S := by rw [List.length_append, List.length_take, List.length_drop, hxl]; omega
  rw [e1]
  rw [List.append_assoc (List.take _ _), List.take_append_of_le_length (by rw [List.length_take, List.length_append, l1]; omega), List.take_take, Nat.min_self, ← l1, List.take_append_of_le_length (Nat.le_refl _), List.take_length]
end Go.Proofs.YtokkeadbkeehgaaGreatDoor
/-
  slices.Delete of one element, on a row of its own, at impl.Rule.
-/
namespace Go.Proofs.YtokkeadbkeehgaaGreatDoor
open Go.RowKit Go.Lib
set_option linter.unusedVariables false
set_option maxRecDepth 20000

theorem elR : ∃ i, ElT Tryz.prog 38 101 i (.agg #[.string ByteArray.empty, .string ByteArray.empty, .int .i64 0, .int .i64 0]) 4 48 :=
  elT_of Tryz.underlying38 (by kernel_rfl) (by kernel_rfl) (by omega) (by intro v hv; simp [Value.cells] at hv; first | (rcases hv with rfl | rfl | rfl | rfl <;> rfl) | (rcases hv with rfl | rfl <;> rfl) | (subst hv; rfl))
theorem delR_row (cur : List Value) (xs : List Value) (zs : List Value) (i n S : Nat) (hi : i < n) (hS : zs.length = S) (hcur : n * S ≤ cur.length) (hx : cur.take (n * S) = xs) :
    ((cur.take (i * S) ++ xs.drop ((i + 1) * S) ++ cur.drop (i * S + (xs.drop ((i + 1) * S)).length)).take ((n - 1) * S) ++ zs ++ (cur.take (i * S) ++ xs.drop ((i + 1) * S) ++ cur.drop (i * S + (xs.drop ((i + 1) * S)).length)).drop ((n - 1) * S + S)).take ((n - 1) * S) = xs.take (i * S) ++ xs.drop ((i + 1) * S) := by
  have hxl : xs.length = n * S := by rw [← hx, List.length_take]; omega
  have h1 : (i + 1) * S ≤ n * S := Nat.mul_le_mul_right _ (by omega)
  have h2 : (i + 1) * S = i * S + S := by rw [Nat.add_mul, Nat.one_mul]
  have h3 : (n - 1) * S = n * S - S := by rw [Nat.sub_mul, Nat.one_mul]
  have e1 : cur.take (i * S) = xs.take (i * S) := by rw [← hx, List.take_take, Nat.min_eq_left (by omega)]
  have l1 : (xs.take (i * S) ++ xs.drop ((i + 1) * S)).length = (n - 1) * S := by rw [List.length_append, List.length_take, List.length_drop, hxl]; omega
  rw [e1]
  rw [List.append_assoc (List.take _ _), List.take_append_of_le_length (by rw [List.length_take, List.length_append, l1]; omega), List.take_take, Nat.min_self, ← l1, List.take_append_of_le_length (Nat.le_refl _), List.take_length]
end Go.Proofs.YtokkeadbkeehgaaGreatDoor
/-
  What the specification's l10Held and l10Of answer; appending to a row of its own.
  Conditions: the cells of Rules and Held hold the rules and numbers.
-/
namespace Go.Proofs.YtokkeadbkeehgaaGreatDoor
open Go.RowKit Go.Lib
set_option linter.unusedVariables false
set_option maxRecDepth 20000

set_option maxHeartbeats 1000000 in
theorem l10Held_any (p1 p2 : Option Addr) (n1 c1 c2 : Nat) (hs : List Int) (r : Int) (w : World) (hh : IntAt w p2 hs) (n2 : hs.length ≤ 1048576) (m2 : hs.length ≤ c2) :
    Calls Tryz.prog 66 #[.agg #[.slice p1 n1 c1, .slice p2 hs.length c2], .int .i64 r] w fun e w' => e = .returned (.int .i64 (fstI (eqI r) hs)) ∧ Below w.heap.size w w' := by
  obtain ⟨W1, hW1⟩ : ∃ W1, W1 = w.alloc (.cells #[.slice p1 n1 c1, .slice p2 hs.length c2] 40) := ⟨_, rfl⟩
  have HW1 : Hid (W1 = w.alloc (.cells #[.slice p1 n1 c1, .slice p2 hs.length c2] 40)) := hW1
  have B1 : Hid (Below w.heap.size w W1) := by rw [hW1]; exact (Below.refl _ _).alloc (Nat.le_refl _) _
  have K1 : Bxs W1 w.heap.size 40 #[.slice p1 n1 c1, .slice p2 hs.length c2] := by rw [hW1]; exact Bxs.new _ _ _
  have x1 : W1.cell? ⟨w.heap.size, 1, none⟩ = some (.slice p2 hs.length c2) := K1.cell 1
  have HI : Hid (IntAt W1 p2 hs) := hh.below B1.out
  clear hW1 hh K1
  go_enter Tryz.func66, Tryz.ntmps66
  go_wp2_with fail
  rw [← HW1.out]
  go_loopw [5] (fun i wr => ∃ k : Nat, k ≤ hs.length ∧ i = .int .i64 k ∧ Hid (wr = W1) ∧ Hid (∀ j (h : j < hs.length), j < k → eqI r hs[j] = false)) (fun i _ => hs.length - (intOf i).toNat)
  case atStart => exact ⟨0, Nat.zero_le _, rfl, rfl, fun j h hk => by omega⟩
  case round =>
    obtain ⟨k, hk, rfl, HW, HF⟩ := hrel
    have HW := HW.out
    subst HW
    by_cases hlt : k < hs.length
    · have i1 : (k : Int) < hs.length := by omega
      obtain ⟨b, off, rfl, hb, hc⟩ := HI.out k hlt
      have HE : Hid (eqI r hs[k] = (hs[k] == r)) := rfl
      cases hq : eqI r hs[k] with
      | true =>
        have HV : Hid (fstI (eqI r) hs = k) := fst_at hlt HF.out hq
        have hx : (hs[k] == r) = true := hq
        generalize hs[k] = x at *
        clear HE hq HF
        go_wp2_with fail
        go_ret
        exact ⟨by rw [HV.out]; rfl, B1.out⟩
      | false =>
        have HF2 : Hid (∀ j (h : j < hs.length), j < k + 1 → eqI r hs[j] = false) := fun j h hj => if he : j = k then by subst he; exact hq else HF.out j h (by omega)
        have hx : (hs[k] == r) = false := hq
        generalize hs[k] = x at *
        clear HE hq HF
        go_wp2_with fail
        go_roundw
        case rel => exact ⟨k + 1, by omega, by go_num, trivial, HF2⟩
        case measure => simp [intOf]; omega
    · have HV : Hid (fstI (eqI r) hs = -1) := fst_none (fun j h => HF.out j h (by omega))
      obtain rfl : k = hs.length := by omega
      clear HF
      go_wp2_with fail
      go_ret
      exact ⟨by rw [HV.out]; rfl, B1.out⟩
set_option maxHeartbeats 1000000 in
theorem l10Of_any (p1 p2 : Option Addr) (n2 c1 c2 : Nat) (rs : List Rul) (tk tf : ByteArray) (w : World) (hr : RulAt w p1 rs) (n1 : rs.length ≤ 1048576) (m1 : rs.length ≤ c1) :
    Calls Tryz.prog 67 #[.agg #[.slice p1 rs.length c1, .slice p2 n2 c2], .string tk, .string tf] w fun e w' => e = .returned (.int .i64 (fstI (eqR tk tf) rs)) ∧ Below w.heap.size w w' := by
  obtain ⟨W1, hW1⟩ : ∃ W1, W1 = w.alloc (.cells #[.slice p1 rs.length c1, .slice p2 n2 c2] 40) := ⟨_, rfl⟩
  have HW1 : Hid (W1 = w.alloc (.cells #[.slice p1 rs.length c1, .slice p2 n2 c2] 40)) := hW1
  have B1 : Hid (Below w.heap.size w W1) := by rw [hW1]; exact (Below.refl _ _).alloc (Nat.le_refl _) _
  have K1 : Bxs W1 w.heap.size 40 #[.slice p1 rs.length c1, .slice p2 n2 c2] := by rw [hW1]; exact Bxs.new _ _ _
  have x0 : W1.cell? ⟨w.heap.size, 0, none⟩ = some (.slice p1 rs.length c1) := K1.cell 0
  have HI : Hid (RulAt W1 p1 rs) := hr.below B1.out
  clear hW1 hr K1
  go_enter Tryz.func67, Tryz.ntmps67
  go_wp2_with fail
  rw [← HW1.out]
  go_loopw [7] (fun i wr => ∃ k : Nat, k ≤ rs.length ∧ i = .int .i64 k ∧ Hid (wr = W1) ∧ Hid (∀ j (h : j < rs.length), j < k → eqR tk tf rs[j] = false)) (fun i _ => rs.length - (intOf i).toNat)
  case atStart => exact ⟨0, Nat.zero_le _, rfl, rfl, fun j h hk => by omega⟩
  case round =>
    obtain ⟨k, hk, rfl, HW, HF⟩ := hrel
    have HW := HW.out
    subst HW
    by_cases hlt : k < rs.length
    · have i1 : (k : Int) < rs.length := by omega
      obtain ⟨b, off, rfl, hb, hc1, hc2, -, -⟩ := HI.out k hlt
      have HE : Hid (eqR tk tf rs[k] = ((rs[k].k.toList == tk.toList) && (rs[k].f.toList == tf.toList))) := rfl
      have HV1 : Hid (eqR tk tf rs[k] = true → fstI (eqR tk tf) rs = k) := fun hq => fst_at hlt HF.out hq
      have HF2 : Hid (eqR tk tf rs[k] = false → ∀ j (h : j < rs.length), j < k + 1 → eqR tk tf rs[j] = false) := fun hq j h hj => if he : j = k then by subst he; exact hq else HF.out j h (by omega)
      generalize eqR tk tf rs[k] = qb at *
      generalize rs[k].k = fk at *
      generalize rs[k].f = ff at *
      clear HF
      cases g1 : (fk.toList == tk.toList) with
      | false =>
        have HF3 := HF2.out (by rw [HE.out, g1]; rfl)
        have HF3 : Hid (∀ j (h : j < rs.length), j < k + 1 → eqR tk tf rs[j] = false) := HF3
        clear HE HV1 HF2
        go_wp2_with fail
        go_roundw
        case rel => exact ⟨k + 1, by omega, by go_num, trivial, HF3⟩
        case measure => simp [intOf]; omega
      | true =>
        cases g2 : (ff.toList == tf.toList) with
        | false =>
          have HF3 := HF2.out (by rw [HE.out, g1, g2]; rfl)
          have HF3 : Hid (∀ j (h : j < rs.length), j < k + 1 → eqR tk tf rs[j] = false) := HF3
          clear HE HV1 HF2
          go_wp2_with fail
          go_roundw
          case rel => exact ⟨k + 1, by omega, by go_num, trivial, HF3⟩
          case measure => simp [intOf]; omega
        | true =>
          have HV : Hid (fstI (eqR tk tf) rs = k) := HV1.out (by rw [HE.out, g1, g2]; rfl)
          clear HE HV1 HF2
          go_wp2_with fail
          go_ret
          exact ⟨by rw [HV.out]; rfl, B1.out⟩
    · have HV : Hid (fstI (eqR tk tf) rs = -1) := fst_none (fun j h => HF.out j h (by omega))
      obtain rfl : k = rs.length := by omega
      clear HF
      go_wp2_with fail
      go_ret
      exact ⟨by rw [HV.out]; rfl, B1.out⟩
/-- A slice's address, as one meets it. -/
def AdOk (p : Option Addr) (n c : Nat) : Prop := (p = none ∧ n = 0 ∧ c = 0) ∨ ∃ b off, p = some ⟨b, off, none⟩
theorem AdOk.new (b off n c : Nat) : AdOk (some ⟨b, off, none⟩) n c := .inr ⟨b, off, rfl⟩
theorem AdOk.none_ : AdOk none 0 0 := .inl ⟨rfl, rfl, rfl⟩
theorem app_own {t e : TypeId} {i : TypeInfo} {z : Value} {size bytes : Nat} (E : ElT Tryz.prog t e i z size bytes) (ty : TypeId) {W w : World} {v : Value} {n : Nat} {xs : List Value} (hb : Below W.heap.size W w) (own : w.ownsRow W.heap.size e size v n xs) (p : Option Addr) (m c : Nat) (news : List Value) (hp : CelAt w p news) (hl : news.length = m * size) (one : ∀ u ∈ news, u.oneCell' = true) (hnm : n + m ≤ 1048576) (hby : bytes ≤ 1000) :
    ∃ q d w', (Builtin.append_ #[t, t] ty #[v, .slice p m c]).run Tryz.prog w = .ok (.slice q (n + m) d) w' ∧ w'.ownsRow W.heap.size e size (.slice q (n + m) d) (n + m) (xs ++ news) ∧ Below W.heap.size W w' := by
  have hmul : (n + m) * bytes ≤ 140737488355328 := Nat.le_trans (Nat.mul_le_mul hnm hby) (by omega)
  obtain ⟨v', w', h1, h2, h3, -⟩ := app_cel E ty w W.heap.size v n xs own p m c news hp hl one hmul (by unfold maxLen; omega) hb.size
  obtain ⟨q, d, rfl, -⟩ := own_form h2
  exact ⟨q, d, w', h1, h2, hb.grown h3 hb.size (fun j hj => (own.lt j hj).1)⟩
theorem own_empty (W : World) (e : TypeId) (size : Nat) : (W.alloc (.cells #[] e)).ownsRow W.heap.size e size (.slice (some ⟨W.heap.size, 0, none⟩) 0 0) 0 [] := bxs_ownE (cur := #[]) (Bxs.new _ _ _) (Nat.le_refl _) (Nat.le_refl _) (by unfold maxLen; omega) (by simp) (by simp)
end Go.Proofs.YtokkeadbkeehgaaGreatDoor
