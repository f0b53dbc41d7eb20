/-
  What the specification's l10Copy and l10Ill answer.
-/
import Derived.Test.YteehhpmmnpajmaaRows
import Derived.Test.YteehhpmmnpajmaaBytes
import Derived.Test.YteehhpmmnpajmaaSlA
import Derived.Test.YteehhpmmnpajmaaSlB
import Derived.Test.YteehhpmmnpajmaaOwnS
import Derived.Test.YteehhpmmnpajmaaBxK
import Derived.Test.YteehhpmmnpajmaaStepApp
import Derived.Test.YteehhpmmnpajmaaIntK
import Derived.Test.YteehhpmmnpajmaaRulMath
import Derived.Test.YteehhpmmnpajmaaRulBlk
import Derived.Test.YteehhpmmnpajmaaLawI
import Derived.Test.YteehhpmmnpajmaaRowOps
import Derived.Test.YteehhpmmnpajmaaDelI
import Derived.Test.YteehhpmmnpajmaaDelR
import Derived.Test.YteehhpmmnpajmaaPolO
import Derived.Handy
import Derived.WalkSpells
import Derived.OwnWalk
import Derived.Deep.RegionLaw
import Derived.Deep.Cut
import Derived.Deep.CutRange
namespace Go.Proofs.Yteehhpmmnpajmaa
open Go.RowKit Go.Lib
set_option linter.unusedVariables false
set_option maxRecDepth 20000

/-- A copy of a row: a block of its own that came behind, or the empty one at g. -/
structure CopP (w : World) (g : Nat) (e : TypeId) (s : Nat) (n : Nat) (xs : List Value) (v : Value) (w' : World) : Prop where
  own : w'.ownsRow 0 e s v n xs
  bel : Below w.heap.size w w'
  at_ : ∃ b c, v = .slice (some ⟨b, 0, none⟩) n c ∧ n ≤ c ∧ (b = g ∨ w.heap.size ≤ b) ∧ b < w'.heap.size
theorem copP_of {t e : TypeId} {i : TypeInfo} {z : Value} {size bytes : Nat} (E : ElT Try.prog t e i z size bytes) (ty : TypeId) (w : World) (g : Nat) (hg : w.heap[g]? = some (.cells #[] e (0, 0))) (p : Option Addr) (n cap : Nat) (xs : List Value) (hp : CelAt w p xs) (hl : xs.length = n * size) (one : ∀ u ∈ xs, u.oneCell' = true) (hn : n ≤ 1048576) (hb : bytes ≤ 1000) :
    ∃ v' w', (Builtin.append_ #[t, t] ty #[.slice (some ⟨g, 0, none⟩) 0 0, .slice p n cap]).run Try.prog w = .ok v' w' ∧ CopP w g e size n xs v' w' := by
  have own0 : w.ownsRow 0 e size (.slice (some ⟨g, 0, none⟩) 0 0) 0 [] := ⟨by simp, .inr ⟨g, 0, #[], rfl, Nat.zero_le _, hg, Nat.le_refl _, by unfold maxLen; omega, by simp, by simp⟩⟩
  have hmul : (0 + n) * bytes ≤ 140737488355328 := Nat.le_trans (Nat.mul_le_mul (show 0 + n ≤ 1048576 by omega) hb) (by omega)
  obtain ⟨v', w', h1, h2, h3, h4⟩ := app_cel E ty w 0 _ 0 [] own0 p n cap xs hp hl one hmul (by unfold maxLen; omega) (Nat.zero_le _)
  rw [Nat.zero_add, List.nil_append] at h2
  by_cases h0 : n = 0
  · subst h0
    have hx : xs = [] := List.eq_nil_of_length_eq_zero (by simpa using hl)
    subst hx
    have hr : (Builtin.append_ #[t, t] ty #[.slice (some ⟨g, 0, none⟩) 0 0, .slice p 0 cap]).run Try.prog w = .ok (.slice (some ⟨g, 0, none⟩) 0 0) w := by
      cases p <;> simp [Builtin.append_, run_underlying E.ht, sizeOf, typeInfo, E.hi, Builtin.lenOf, Builtin.firstCells, storeCells, loadCells, loadCellsFrom]
    exact ⟨_, w, hr, own0, Below.refl _ _, g, 0, rfl, Nat.le_refl _, .inl rfl, lt_of_block hg⟩
  · have hpos : 0 < xs.length := by rw [hl]; exact Nat.mul_pos (by omega) E.h0
    obtain ⟨b, off, rfl⟩ := hp.some_of hpos
    obtain ⟨v', w', h1, h2, h3⟩ := run_append_arg_grows (P := Try.prog) w t ty e i z size bytes E.ht E.hi E.hz E.hs E.hb E.hzs E.h0 ⟨g, 0, none⟩ 0 0 [] (by simp) (fun j u hu => by simp at hu) ⟨b, off, none⟩ n cap xs hl hp.src (by omega) (by unfold maxLen; omega) hmul
    rw [Nat.zero_add, List.nil_append] at h2
    rcases h2.2 with ⟨hv, hn0⟩ | ⟨b', c', cur, rfl, hb1, hb2, hb3, -⟩
    · exact absurd hn0 h0
    · exact ⟨_, w', h1, own_lower h2 (Nat.zero_le _), below_none h3, b', c', rfl, hb3, .inr hb1, lt_of_block hb2⟩
theorem copy_ruls (w : World) (g : Nat) (hg : w.heap[g]? = some (.cells #[] 28 (0, 0))) (p : Option Addr) (cap : Nat) (ss : List Rul) (hp : RulAt w p ss) (hn : ss.length ≤ 1048576) :
    ∃ v' w', (Builtin.append_ #[23, 23] 23 #[.slice (some ⟨g, 0, none⟩) 0 0, .slice p ss.length cap]).run Try.prog w = .ok v' w' ∧ CopP w g 28 4 ss.length (rulRow ss) v' w' := by
  obtain ⟨i0, E⟩ := elR
  exact copP_of E _ w g hg p ss.length cap (rulRow ss) hp.cel (rulRow_len ss) (oneR ss) hn (by omega)
theorem copy_ints (w : World) (g : Nat) (hg : w.heap[g]? = some (.cells #[] 2 (0, 0))) (p : Option Addr) (cap : Nat) (ps : List Int) (hp : IntAt w p ps) (hn : ps.length ≤ 1048576) :
    ∃ v' w', (Builtin.append_ #[24, 24] 24 #[.slice (some ⟨g, 0, none⟩) 0 0, .slice p ps.length cap]).run Try.prog w = .ok v' w' ∧ CopP w g 2 1 ps.length (intRow ps) v' w' := by
  obtain ⟨i0, E⟩ := elI
  exact copP_of E _ w g hg p ps.length cap (intRow ps) hp.cel (by rw [intRow_len]; omega) (oneI ps) hn (by omega)
theorem step_copy_ruls {w : World} {ops : Array Oper} {o : Oper} {a : Act} {K : Act → World → Prop} {Q : Exit → Act → World → Prop} {E : Prop} (hgd : o.guard = none) (s x : Operand)
    (ho : o.op = .call { callee := .builtin .append, args := #[s, x], argTypes := #[23, 23] }) (hty : o.type = 23) (g : Nat) (p : Option Addr) (cap : Nat) (ss : List Rul) (hs : a.eval s = .slice (some ⟨g, 0, none⟩) 0 0) (hx : a.eval x = .slice p ss.length cap)
    (hg : w.heap[g]? = some (.cells #[] 28 (0, 0))) (hp : RulAt w p ss) (hn : ss.length ≤ 1048576) (h : ∀ v' w', CopP w g 28 4 ss.length (rulRow ss) v' w' → K (a.put o.dst v') w') :
    if Region.wanted o (yielded ops a.tmps) = true then Oper.wp Try.prog o a w K Q else E := by
  obtain ⟨v', w', hr, hc⟩ := copy_ruls w g hg p cap ss hp hn
  exact step_append_run hgd s x 23 ho _ _ v' w' hs hx (by rw [hty]; exact hr) (h v' w' hc)
theorem step_copy_ints {w : World} {ops : Array Oper} {o : Oper} {a : Act} {K : Act → World → Prop} {Q : Exit → Act → World → Prop} {E : Prop} (hgd : o.guard = none) (s x : Operand)
    (ho : o.op = .call { callee := .builtin .append, args := #[s, x], argTypes := #[24, 24] }) (hty : o.type = 24) (g : Nat) (p : Option Addr) (cap : Nat) (ps : List Int) (hs : a.eval s = .slice (some ⟨g, 0, none⟩) 0 0) (hx : a.eval x = .slice p ps.length cap)
    (hg : w.heap[g]? = some (.cells #[] 2 (0, 0))) (hp : IntAt w p ps) (hn : ps.length ≤ 1048576) (h : ∀ v' w', CopP w g 2 1 ps.length (intRow ps) v' w' → K (a.put o.dst v') w') :
    if Region.wanted o (yielded ops a.tmps) = true then Oper.wp Try.prog o a w K Q else E := by
  obtain ⟨v', w', hr, hc⟩ := copy_ints w g hg p cap ps hp hn
  exact step_append_run hgd s x 24 ho _ _ v' w' hs hx (by rw [hty]; exact hr) (h v' w' hc)
theorem l10Ill_any (c : Int) (w : World) : Calls Try.prog 47 #[.int .i64 c] w fun e w' => e = .returned (.agg #[.slice none 0 0, .slice none 0 0, .int .i64 c]) ∧ Below w.heap.size w w' := by
  have B1 : Below w.heap.size w (w.alloc (.cells #[.slice none 0 0, .slice none 0 0, .int .i64 c] 32)) := (Below.refl _ _).alloc (Nat.le_refl _) _
  go_enter Try.func47, Try.ntmps47
  go_wp2_with fail
  refine bodyPost_ret (v := .agg #[.slice none 0 0, .slice none 0 0, .int .i64 c]) (by simp [results, Try.results47, go_sem]) rfl ?_
  exact ⟨rfl, B1⟩
theorem own_upP {w : World} {e : TypeId} {s : Nat} {b n c : Nat} {xs : List Value} {base : Nat} (h : w.ownsRow 0 e s (.slice (some ⟨b, 0, none⟩) n c) n xs) (hb : base ≤ b) : w.ownsRow base e s (.slice (some ⟨b, 0, none⟩) n c) n xs := by
  refine ⟨h.1, ?_⟩
  rcases h.2 with ⟨h0, _⟩ | ⟨g, cap, cur, h1, h2, h3⟩
  · cases h0
  · cases h1
    exact .inr ⟨b, c, cur, rfl, hb, h3⟩

/-- What the box of a result holds: a policy of its own memory. -/
def CopEndP (w : World) (ss : List Rul) (ps : List Int) (wx : World) : Prop := ∃ b1 d1 b2 d2, wx.heap[w.heap.size + 1]? = some (.cells #[.slice (some ⟨b1, 0, none⟩) ss.length d1, .slice (some ⟨b2, 0, none⟩) ps.length d2] 26 (0, 0)) ∧ PolO w.heap.size ss ps (.slice (some ⟨b1, 0, none⟩) ss.length d1) (.slice (some ⟨b2, 0, none⟩) ps.length d2) wx ∧ Below w.heap.size w wx
theorem hgAp (X : World) (T : TypeId) (g : Nat) (h : g = X.heap.size) : (X.alloc (.cells #[] T)).heap[g]? = some (.cells #[] T (0, 0)) := by subst h; exact (MapKept.heap_alloc X _).1
theorem hgBp (X : World) (T : TypeId) (g : Nat) (o : Obj) (h : g = X.heap.size) : ((X.alloc (.cells #[] T)).alloc o).heap[g]? = some (.cells #[] T (0, 0)) := (Below.heap_alloc _ _ _ (by subst h; simp)).trans (hgAp X T g h)
set_option maxHeartbeats 4000000 in
theorem l10Copy_any (q1 : Option Addr) (c1 : Nat) (ss : List Rul) (q2 : Option Addr) (c2 : Nat) (ps : List Int) (w : World) (h1 : RulAt w q1 ss) (h2 : IntAt w q2 ps) (n1 : ss.length ≤ 1048576) (n2 : ps.length ≤ 1048576) (m1 : ss.length ≤ c1) (m2 : ps.length ≤ c2) :
    Calls Try.prog 48 #[.agg #[.slice q1 ss.length c1, .slice q2 ps.length c2]] w fun e w' => ∃ v1 v2, e = .returned (.agg #[v1, v2]) ∧ PolO w.heap.size ss ps v1 v2 w' ∧ Below w.heap.size w w' := by
  obtain ⟨W2, hW2⟩ : ∃ W2, W2 = (w.alloc (.cells #[.slice q1 ss.length c1, .slice q2 ps.length c2] 26)).alloc (.cells #[.slice none 0 0, .slice none 0 0] 26) := ⟨_, rfl⟩
  have HW2 : Hid (W2 = (w.alloc (.cells #[.slice q1 ss.length c1, .slice q2 ps.length c2] 26)).alloc (.cells #[.slice none 0 0, .slice none 0 0] 26)) := hW2
  have hs1 : (w.alloc (.cells #[.slice q1 ss.length c1, .slice q2 ps.length c2] 26)).heap.size = w.heap.size + 1 := by simp
  have S2 : W2.heap.size = w.heap.size + 2 := by rw [hW2]; simp
  have R0 : W2.heap[w.heap.size]? = some (.cells #[.slice q1 ss.length c1, .slice q2 ps.length c2] 26 (0, 0)) := by rw [hW2]; exact (Below.heap_alloc _ _ _ (by rw [hs1]; omega)).trans (MapKept.heap_alloc w _).1
  have R1 : W2.heap[w.heap.size + 1]? = some (.cells #[.slice none 0 0, .slice none 0 0] 26 (0, 0)) := by rw [hW2, ← hs1]; exact (MapKept.heap_alloc _ _).1
  have B2 : Hid (Below w.heap.size w W2) := by rw [hW2]; exact ((Below.refl _ _).alloc (Nat.le_refl _) _).alloc (by rw [hs1]; omega) _
  have T1 : Hid (RulAt W2 q1 ss) := h1.below B2.out
  have T2 : Hid (IntAt W2 q2 ps) := h2.below B2.out
  have HX : Hid (∀ x, Below W2.heap.size W2 x → x.cell? ⟨w.heap.size, 0, none⟩ = some (.slice q1 ss.length c1) ∧ x.cell? ⟨w.heap.size, 1, none⟩ = some (.slice q2 ps.length c2) ∧ x.cell? ⟨w.heap.size + 1, 0, none⟩ = some (.slice none 0 0) ∧ x.cell? ⟨w.heap.size + 1, 1, none⟩ = some (.slice none 0 0) ∧ x.frozen? ⟨w.heap.size + 1, 0, none⟩ = false ∧ x.frozen? ⟨w.heap.size + 1, 1, none⟩ = false) := fun x hb => by
    have h0 := (hb.block w.heap.size (by omega)).trans R0
    have h1 := (hb.block (w.heap.size + 1) (by omega)).trans R1
    simp [World.cell?, World.frozen?, h0, h1]
  have HEnd : Hid (∀ (y : World) (b1 d1 b2 d2 : Nat), y.ownsRow 0 28 4 (.slice (some ⟨b1, 0, none⟩) ss.length d1) ss.length (rulRow ss) → y.ownsRow 0 2 1 (.slice (some ⟨b2, 0, none⟩) ps.length d2) ps.length (intRow ps) → (w.heap.size + 2 ≤ b1 ∧ w.heap.size + 2 ≤ b2 ∧ b1 ≠ b2) → Below W2.heap.size W2 y →
      CopEndP w ss ps ((y.setCell ⟨w.heap.size + 1, 0, none⟩ (.slice (some ⟨b1, 0, none⟩) ss.length d1)).setCell ⟨w.heap.size + 1, 1, none⟩ (.slice (some ⟨b2, 0, none⟩) ps.length d2))) := by
    intro y b1 d1 b2 d2 o1 o2 hl hb
    obtain ⟨l1, l2, hne⟩ := hl
    have hup : ∀ {e : TypeId} {s b n c : Nat} {xs : List Value}, y.ownsRow 0 e s (.slice (some ⟨b, 0, none⟩) n c) n xs → w.heap.size + 2 ≤ b → ((y.setCell ⟨w.heap.size + 1, 0, none⟩ (.slice (some ⟨b1, 0, none⟩) ss.length d1)).setCell ⟨w.heap.size + 1, 1, none⟩ (.slice (some ⟨b2, 0, none⟩) ps.length d2)).ownsRow w.heap.size e s (.slice (some ⟨b, 0, none⟩) n c) n xs := fun h hl => ownS_mono (ownsRow_setCell_below (ownsRow_setCell_below (own_upP h hl) (by show w.heap.size + 1 < _; omega) _) (by show w.heap.size + 1 < _; omega) _) (by omega)
    have h0 : y.heap[w.heap.size + 1]? = some (.cells #[.slice none 0 0, .slice none 0 0] 26 (0, 0)) := (hb.block (w.heap.size + 1) (by omega)).trans R1
    exact ⟨b1, d1, b2, d2, by simp [World.setCell, Array.getElem?_modify, h0], ⟨hup o1 l1, hup o2 l2, .inr (fun h => hne (by simpa [Value.ownBlock] using h))⟩, ((chainB B2.out hb).setCell (by show w.heap.size ≤ w.heap.size + 1; omega) _).setCell (by show w.heap.size ≤ w.heap.size + 1; omega) _⟩
  obtain ⟨x0, x1, x2, x3, x4, x5⟩ := HX.out W2 (Below.refl _ _)
  have E1 := HX.out _ (alB (Below.refl W2.heap.size W2) (.cells #[] 28))
  have E2 := HX.out _ (alB (Below.refl W2.heap.size W2) (.cells #[] 2))
  have E3 := HX.out _ (alB (alB (Below.refl W2.heap.size W2) (.cells #[] 28)) (.cells #[] 2))
  have E4 := HX.out _ (alB (alB (Below.refl W2.heap.size W2) (.cells #[] 2)) (.cells #[] 28))
  clear hW2 R0 R1 h1 h2 hs1
  go_enter Try.func48, Try.ntmps48
  go_upto_region 1 with fail
  rw [← HW2.out]
  go_cut [2] from 3 to 11 (fun s2 wx => s2 = .pointer (some ⟨w.heap.size + 1, 0, none⟩) ∧ Hid (CopEndP w ss ps wx))
  case first =>
    go_region_law (first
      | (refine step_copy_ruls rfl _ _ rfl rfl _ q1 c1 ss rfl rfl (by first | exact hgAp _ _ _ (by first | rfl | omega | (rw [szA]; omega) | (rw [szA, szA]; omega) | (rw [szD, szA]; omega) | (rw [szD, szA, szA]; omega)) | exact hgBp _ _ _ _ (by first | rfl | omega | (rw [szA]; omega) | (rw [szA, szA]; omega) | (rw [szD, szA]; omega) | (rw [szD, szA, szA]; omega)) | exact (cop2.bel.block _ (by first | rfl | omega | (rw [szA]; omega) | (rw [szA, szA]; omega) | (rw [szD, szA]; omega) | (rw [szD, szA, szA]; omega))).trans (hgAp _ _ _ (by first | rfl | omega | (rw [szA]; omega) | (rw [szA, szA]; omega) | (rw [szD, szA]; omega) | (rw [szD, szA, szA]; omega))) | exact (cop2.bel.block _ (by first | omega | (rw [szA]; omega) | (rw [szA, szA]; omega) | (rw [szD, szA]; omega) | (rw [szD, szA, szA]; omega))).trans (hgBp _ _ _ _ (by first | rfl | omega | (rw [szA]; omega) | (rw [szA, szA]; omega) | (rw [szD, szA]; omega) | (rw [szD, szA, szA]; omega)))) (T1.out.below (by repeat (first | exact z2 | exact Below.refl _ _ | refine alB ?_ _ | refine Below.drew ?_))) n1 ?_; intro v1 y1 cop1; obtain ⟨b1, d1, rfl, i1, i2, i3⟩ := cop1.at_; have z1 : Below W2.heap.size W2 y1 := chainB (by repeat (first | exact z2 | exact Below.refl _ _ | refine alB ?_ _ | refine Below.drew ?_)) cop1.bel; have F1 := HX.out y1 z1; have F2 := HX.out _ (alB z1 (.cells #[] 2)))
      | (refine step_copy_ints rfl _ _ rfl rfl _ q2 c2 ps rfl rfl (by first | exact hgAp _ _ _ (by first | rfl | omega | (rw [szA]; omega) | (rw [szA, szA]; omega) | (rw [szD, szA]; omega) | (rw [szD, szA, szA]; omega)) | exact hgBp _ _ _ _ (by first | rfl | omega | (rw [szA]; omega) | (rw [szA, szA]; omega) | (rw [szD, szA]; omega) | (rw [szD, szA, szA]; omega)) | exact (cop1.bel.block _ (by first | rfl | omega | (rw [szA]; omega) | (rw [szA, szA]; omega) | (rw [szD, szA]; omega) | (rw [szD, szA, szA]; omega))).trans (hgAp _ _ _ (by first | rfl | omega | (rw [szA]; omega) | (rw [szA, szA]; omega) | (rw [szD, szA]; omega) | (rw [szD, szA, szA]; omega))) | exact (cop1.bel.block _ (by first | omega | (rw [szA]; omega) | (rw [szA, szA]; omega) | (rw [szD, szA]; omega) | (rw [szD, szA, szA]; omega))).trans (hgBp _ _ _ _ (by first | rfl | omega | (rw [szA]; omega) | (rw [szA, szA]; omega) | (rw [szD, szA]; omega) | (rw [szD, szA, szA]; omega)))) (T2.out.below (by repeat (first | exact z1 | exact Below.refl _ _ | refine alB ?_ _ | refine Below.drew ?_))) n2 ?_; intro v2 y2 cop2; obtain ⟨b2, d2, rfl, j1, j2, j3⟩ := cop2.at_; have z2 : Below W2.heap.size W2 y2 := chainB (by repeat (first | exact z1 | exact Below.refl _ _ | refine alB ?_ _ | refine Below.drew ?_)) cop2.bel; have F3 := HX.out y2 z2; have F4 := HX.out _ (alB z2 (.cells #[] 28))))
    all_goals
      clear E1 E2 E3 E4 x0 x1 x2 x3 x4 x5 T1 T2
      have u1 := cop1.bel.size
      have u2 := cop2.bel.size
      have u3 := z1.size
      have u4 := z2.size
      simp only [szA, szD] at i2 j2 u1 u2
      have hne : w.heap.size + 2 ≤ b1 ∧ w.heap.size + 2 ≤ b2 ∧ b1 ≠ b2 := by omega
      first
        | (have o1 := ownS_below (ownS_below cop1.own (by repeat (first | exact Below.refl _ _ | refine alB ?_ _ | refine Below.drew ?_))) cop2.bel
           have HE : Hid _ := HEnd.out y2 b1 d1 b2 d2 o1 cop2.own hne z2
           clear F1 F2 F3 F4 cop1 cop2 z1 z2 o1 i1 i2 i3 j1 j2 j3 hne u1 u2 u3 u4
           go_wp2_with fail
           go_meet
           exact ⟨rfl, HE⟩)
        | (have o2 := ownS_below (ownS_below cop2.own (by repeat (first | exact Below.refl _ _ | refine alB ?_ _ | refine Below.drew ?_))) cop1.bel
           have HE : Hid _ := HEnd.out y1 b1 d1 b2 d2 cop1.own o2 hne z1
           clear F1 F2 F3 F4 cop1 cop2 z1 z2 o2 i1 i2 i3 j1 j2 j3 hne u1 u2 u3 u4
           go_wp2_with fail
           go_meet
           exact ⟨rfl, HE⟩)
  case rest =>
  obtain ⟨rfl, hE⟩ := hcut
  obtain ⟨b1, d1, b2, d2, r1, ho, hb⟩ := hE.out
  have k0 : wc.cell? ⟨w.heap.size + 1, 0, none⟩ = some (.slice (some ⟨b1, 0, none⟩) ss.length d1) ∧ wc.cell? ⟨w.heap.size + 1, 1, none⟩ = some (.slice (some ⟨b2, 0, none⟩) ps.length d2) := by simp [World.cell?, r1]
  obtain ⟨k0, k1⟩ := k0
  clear hE HEnd HX E1 E2 E3 E4 x0 x1 x2 x3 x4 x5 T1 T2 r1
  go_wp2_with fail
  refine bodyPost_ret (v := .agg #[.slice (some ⟨b1, 0, none⟩) ss.length d1, .slice (some ⟨b2, 0, none⟩) ps.length d2]) (by simp [results, Try.results48, go_sem, k0, k1]) rfl ?_
  exact ⟨_, _, rfl, ho, hb⟩
end Go.Proofs.Yteehhpmmnpajmaa
