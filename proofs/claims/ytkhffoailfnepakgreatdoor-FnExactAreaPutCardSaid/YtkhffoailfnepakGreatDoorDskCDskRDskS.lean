/-
  Parts of one proof, laid as one text: DskC, DskR, DskS; what each says stands at its head.
-/
import Derived.Test.YtkhffoailfnepakGreatDoorRows
import Derived.Test.YtkhffoailfnepakGreatDoorBytesDigMath
import Derived.Test.YtkhffoailfnepakGreatDoorSlASlBOwnSDskMath
import Derived.Test.YtkhffoailfnepakGreatDoorAppSStepAppDskA
import Derived.Handy
import Derived.WalkSpells
import Derived.OwnWalk
import Derived.Deep.RegionLaw
import Derived.Deep.Cut
import Derived.Deep.CutRange
import Derived.Deep.QuietTactic
import Derived.BigQuiet
/-
  What the specification's l05Copy answers: a disk of its own memory.
-/
namespace Go.Proofs.YtkhffoailfnepakGreatDoor
open Go.RowKit Go.Lib
set_option linter.unusedVariables false
set_option maxRecDepth 20000

/-- A disk whose two rows are the call's own, in two blocks. -/
structure DskO (base : Nat) (ss : List ByteArray) (ps : List Pnd) (v1 v2 : Value) (w : World) : Prop where
  own1 : w.ownsRow base 9 1 v1 ss.length (strRow ss)
  own2 : w.ownsRow base 71 2 v2 ps.length (pndRow ps)
  ne : v1.ownBlock = none ∨ v1.ownBlock ≠ v2.ownBlock
theorem own_up {w : World} {e : TypeId} {s : Nat} {b n c : Nat} {xs : List Value} {base : Nat} (h : w.ownsRow 0 e s (.slice (some ⟨b, 0, none⟩) n c) n xs) (hb : base ≤ b) : w.ownsRow base e s (.slice (some ⟨b, 0, none⟩) n c) n xs := by
  refine ⟨h.1, ?_⟩
  rcases h.2 with ⟨h0, _⟩ | ⟨g, cap, cur, h1, h2, h3⟩
  · cases h0
  · cases h1
    exact .inr ⟨b, c, cur, rfl, hb, h3⟩

/-- What the box of a result holds: a disk of its own memory. -/
def CopEnd (w : World) (ss : List ByteArray) (ps : List Pnd) (wx : World) : Prop := ∃ b1 d1 b2 d2, wx.heap[w.heap.size + 1]? = some (.cells #[.slice (some ⟨b1, 0, none⟩) ss.length d1, .slice (some ⟨b2, 0, none⟩) ps.length d2] 29 (0, 0)) ∧ DskO w.heap.size ss ps (.slice (some ⟨b1, 0, none⟩) ss.length d1) (.slice (some ⟨b2, 0, none⟩) ps.length d2) wx ∧ Below w.heap.size w wx
theorem hgA (X : World) (T : TypeId) (g : Nat) (h : g = X.heap.size) : (X.alloc (.cells #[] T)).heap[g]? = some (.cells #[] T (0, 0)) := by subst h; exact (MapKept.heap_alloc X _).1
theorem hgB (X : World) (T : TypeId) (g : Nat) (o : Obj) (h : g = X.heap.size) : ((X.alloc (.cells #[] T)).alloc o).heap[g]? = some (.cells #[] T (0, 0)) := (Below.heap_alloc _ _ _ (by subst h; simp)).trans (hgA X T g h)
set_option maxHeartbeats 4000000 in
theorem l05Copy_any (q1 : Option Addr) (c1 : Nat) (ss : List ByteArray) (q2 : Option Addr) (c2 : Nat) (ps : List Pnd) (w : World) (h1 : TxtAt w q1 ss) (h2 : PndAt w q2 ps) (n1 : ss.length ≤ 1048576) (n2 : ps.length ≤ 1048576) (m1 : ss.length ≤ c1) (m2 : ps.length ≤ c2) :
    Calls Tryz.prog 20 #[.agg #[.slice q1 ss.length c1, .slice q2 ps.length c2]] w fun e w' => ∃ v1 v2, e = .returned (.agg #[v1, v2]) ∧ DskO w.heap.size ss ps v1 v2 w' ∧ Below w.heap.size w w' := by
  obtain ⟨W2, hW2⟩ : ∃ W2, W2 = (w.alloc (.cells #[.slice q1 ss.length c1, .slice q2 ps.length c2] 29)).alloc (.cells #[.slice none 0 0, .slice none 0 0] 29) := ⟨_, rfl⟩
  have HW2 : Hid (W2 = (w.alloc (.cells #[.slice q1 ss.length c1, .slice q2 ps.length c2] 29)).alloc (.cells #[.slice none 0 0, .slice none 0 0] 29)) := hW2
  have hs1 : (w.alloc (.cells #[.slice q1 ss.length c1, .slice q2 ps.length c2] 29)).heap.size = w.heap.size + 1 := by simp
  have S2 : W2.heap.size = w.heap.size + 2 := by rw [hW2]; simp
  have R0 : W2.heap[w.heap.size]? = some (.cells #[.slice q1 ss.length c1, .slice q2 ps.length c2] 29 (0, 0)) := by rw [hW2]; exact (Below.heap_alloc _ _ _ (by rw [hs1]; omega)).trans (MapKept.heap_alloc w _).1
  have R1 : W2.heap[w.heap.size + 1]? = some (.cells #[.slice none 0 0, .slice none 0 0] 29 (0, 0)) := by rw [hW2, ← hs1]; exact (MapKept.heap_alloc _ _).1
  have B2 : Hid (Below w.heap.size w W2) := by rw [hW2]; exact ((Below.refl _ _).alloc (Nat.le_refl _) _).alloc (by rw [hs1]; omega) _
  have T1 : Hid (TxtAt W2 q1 ss) := h1.below B2.out
  have T2 : Hid (PndAt W2 q2 ps) := h2.below B2.out
  have HX : Hid (∀ x, Below W2.heap.size W2 x → x.cell? ⟨w.heap.size, 0, none⟩ = some (.slice q1 ss.length c1) ∧ x.cell? ⟨w.heap.size, 1, none⟩ = some (.slice q2 ps.length c2) ∧ x.cell? ⟨w.heap.size + 1, 0, none⟩ = some (.slice none 0 0) ∧ x.cell? ⟨w.heap.size + 1, 1, none⟩ = some (.slice none 0 0) ∧ x.frozen? ⟨w.heap.size + 1, 0, none⟩ = false ∧ x.frozen? ⟨w.heap.size + 1, 1, none⟩ = false) := fun x hb => by
    have h0 := (hb.block w.heap.size (by omega)).trans R0
    have h1 := (hb.block (w.heap.size + 1) (by omega)).trans R1
    simp [World.cell?, World.frozen?, h0, h1]
  have HEnd : Hid (∀ (y : World) (b1 d1 b2 d2 : Nat), y.ownsRow 0 9 1 (.slice (some ⟨b1, 0, none⟩) ss.length d1) ss.length (strRow ss) → y.ownsRow 0 71 2 (.slice (some ⟨b2, 0, none⟩) ps.length d2) ps.length (pndRow ps) → (w.heap.size + 2 ≤ b1 ∧ w.heap.size + 2 ≤ b2 ∧ b1 ≠ b2) → Below W2.heap.size W2 y →
      CopEnd w ss ps ((y.setCell ⟨w.heap.size + 1, 0, none⟩ (.slice (some ⟨b1, 0, none⟩) ss.length d1)).setCell ⟨w.heap.size + 1, 1, none⟩ (.slice (some ⟨b2, 0, none⟩) ps.length d2))) := by
    intro y b1 d1 b2 d2 o1 o2 hl hb
    obtain ⟨l1, l2, hne⟩ := hl
    have hup : ∀ {e : TypeId} {s b n c : Nat} {xs : List Value}, y.ownsRow 0 e s (.slice (some ⟨b, 0, none⟩) n c) n xs → w.heap.size + 2 ≤ b → ((y.setCell ⟨w.heap.size + 1, 0, none⟩ (.slice (some ⟨b1, 0, none⟩) ss.length d1)).setCell ⟨w.heap.size + 1, 1, none⟩ (.slice (some ⟨b2, 0, none⟩) ps.length d2)).ownsRow w.heap.size e s (.slice (some ⟨b, 0, none⟩) n c) n xs := fun h hl => ownS_mono (ownsRow_setCell_below (ownsRow_setCell_below (own_up h hl) (by show w.heap.size + 1 < _; omega) _) (by show w.heap.size + 1 < _; omega) _) (by omega)
    have h0 : y.heap[w.heap.size + 1]? = some (.cells #[.slice none 0 0, .slice none 0 0] 29 (0, 0)) := (hb.block (w.heap.size + 1) (by omega)).trans R1
    exact ⟨b1, d1, b2, d2, by simp [World.setCell, Array.getElem?_modify, h0], ⟨hup o1 l1, hup o2 l2, .inr (fun h => hne (by simpa [Value.ownBlock] using h))⟩, ((chainB B2.out hb).setCell (by show w.heap.size ≤ w.heap.size + 1; omega) _).setCell (by show w.heap.size ≤ w.heap.size + 1; omega) _⟩
  obtain ⟨x0, x1, x2, x3, x4, x5⟩ := HX.out W2 (Below.refl _ _)
  have E1 := HX.out _ (alB (Below.refl W2.heap.size W2) (.cells #[] 9))
  have E2 := HX.out _ (alB (Below.refl W2.heap.size W2) (.cells #[] 71))
  have E3 := HX.out _ (alB (alB (Below.refl W2.heap.size W2) (.cells #[] 9)) (.cells #[] 71))
  have E4 := HX.out _ (alB (alB (Below.refl W2.heap.size W2) (.cells #[] 71)) (.cells #[] 9))
  clear hW2 R0 R1 h1 h2 hs1
  go_enter Tryz.func20, Tryz.ntmps20
  go_upto_region 1 with fail
  rw [← HW2.out]
  go_cut [2] from 3 to 11 (fun s2 wx => s2 = .pointer (some ⟨w.heap.size + 1, 0, none⟩) ∧ Hid (CopEnd w ss ps wx))
  case first =>
    go_region_law (first
      | (refine step_copy_texts rfl _ _ rfl rfl _ q1 c1 ss rfl rfl (by first | exact hgA _ _ _ (by first | rfl | omega | (rw [szA]; omega) | (rw [szA, szA]; omega) | (rw [szD, szA]; omega) | (rw [szD, szA, szA]; omega)) | exact hgB _ _ _ _ (by first | rfl | omega | (rw [szA]; omega) | (rw [szA, szA]; omega) | (rw [szD, szA]; omega) | (rw [szD, szA, szA]; omega)) | exact (cop2.bel.block _ (by first | rfl | omega | (rw [szA]; omega) | (rw [szA, szA]; omega) | (rw [szD, szA]; omega) | (rw [szD, szA, szA]; omega))).trans (hgA _ _ _ (by first | rfl | omega | (rw [szA]; omega) | (rw [szA, szA]; omega) | (rw [szD, szA]; omega) | (rw [szD, szA, szA]; omega))) | exact (cop2.bel.block _ (by first | omega | (rw [szA]; omega) | (rw [szA, szA]; omega) | (rw [szD, szA]; omega) | (rw [szD, szA, szA]; omega))).trans (hgB _ _ _ _ (by first | rfl | omega | (rw [szA]; omega) | (rw [szA, szA]; omega) | (rw [szD, szA]; omega) | (rw [szD, szA, szA]; omega)))) (T1.out.below (by repeat (first | exact z2 | exact Below.refl _ _ | refine alB ?_ _ | refine Below.drew ?_))) n1 ?_; intro v1 y1 cop1; obtain ⟨b1, d1, rfl, i1, i2, i3⟩ := cop1.at_; have z1 : Below W2.heap.size W2 y1 := chainB (by repeat (first | exact z2 | exact Below.refl _ _ | refine alB ?_ _ | refine Below.drew ?_)) cop1.bel; have F1 := HX.out y1 z1; have F2 := HX.out _ (alB z1 (.cells #[] 71)))
      | (refine step_copy_pends rfl _ _ rfl rfl _ q2 c2 ps rfl rfl (by first | exact hgA _ _ _ (by first | rfl | omega | (rw [szA]; omega) | (rw [szA, szA]; omega) | (rw [szD, szA]; omega) | (rw [szD, szA, szA]; omega)) | exact hgB _ _ _ _ (by first | rfl | omega | (rw [szA]; omega) | (rw [szA, szA]; omega) | (rw [szD, szA]; omega) | (rw [szD, szA, szA]; omega)) | exact (cop1.bel.block _ (by first | rfl | omega | (rw [szA]; omega) | (rw [szA, szA]; omega) | (rw [szD, szA]; omega) | (rw [szD, szA, szA]; omega))).trans (hgA _ _ _ (by first | rfl | omega | (rw [szA]; omega) | (rw [szA, szA]; omega) | (rw [szD, szA]; omega) | (rw [szD, szA, szA]; omega))) | exact (cop1.bel.block _ (by first | omega | (rw [szA]; omega) | (rw [szA, szA]; omega) | (rw [szD, szA]; omega) | (rw [szD, szA, szA]; omega))).trans (hgB _ _ _ _ (by first | rfl | omega | (rw [szA]; omega) | (rw [szA, szA]; omega) | (rw [szD, szA]; omega) | (rw [szD, szA, szA]; omega)))) (T2.out.below (by repeat (first | exact z1 | exact Below.refl _ _ | refine alB ?_ _ | refine Below.drew ?_))) n2 ?_; intro v2 y2 cop2; obtain ⟨b2, d2, rfl, j1, j2, j3⟩ := cop2.at_; have z2 : Below W2.heap.size W2 y2 := chainB (by repeat (first | exact z1 | exact Below.refl _ _ | refine alB ?_ _ | refine Below.drew ?_)) cop2.bel; have F3 := HX.out y2 z2; have F4 := HX.out _ (alB z2 (.cells #[] 9))))
    all_goals
      clear E1 E2 E3 E4 x0 x1 x2 x3 x4 x5 T1 T2
      have u1 := cop1.bel.size
      have u2 := cop2.bel.size
      have u3 := z1.size
      have u4 := z2.size
      simp only [szA, szD] at i2 j2 u1 u2
      have hne : w.heap.size + 2 ≤ b1 ∧ w.heap.size + 2 ≤ b2 ∧ b1 ≠ b2 := by omega
      first
        | (have o1 := ownS_below (ownS_below cop1.own (by repeat (first | exact Below.refl _ _ | refine alB ?_ _ | refine Below.drew ?_))) cop2.bel
           have HE : Hid _ := HEnd.out y2 b1 d1 b2 d2 o1 cop2.own hne z2
           clear F1 F2 F3 F4 cop1 cop2 z1 z2 o1 i1 i2 i3 j1 j2 j3 hne u1 u2 u3 u4
           go_wp2_with fail
           go_meet
           exact ⟨rfl, HE⟩)
        | (have o2 := ownS_below (ownS_below cop2.own (by repeat (first | exact Below.refl _ _ | refine alB ?_ _ | refine Below.drew ?_))) cop1.bel
           have HE : Hid _ := HEnd.out y1 b1 d1 b2 d2 cop1.own o2 hne z1
           clear F1 F2 F3 F4 cop1 cop2 z1 z2 o2 i1 i2 i3 j1 j2 j3 hne u1 u2 u3 u4
           go_wp2_with fail
           go_meet
           exact ⟨rfl, HE⟩)
  case rest =>
  obtain ⟨rfl, hE⟩ := hcut
  obtain ⟨b1, d1, b2, d2, r1, ho, hb⟩ := hE.out
  have k0 : wc.cell? ⟨w.heap.size + 1, 0, none⟩ = some (.slice (some ⟨b1, 0, none⟩) ss.length d1) ∧ wc.cell? ⟨w.heap.size + 1, 1, none⟩ = some (.slice (some ⟨b2, 0, none⟩) ps.length d2) := by simp [World.cell?, r1]
  obtain ⟨k0, k1⟩ := k0
  clear hE HEnd HX E1 E2 E3 E4 x0 x1 x2 x3 x4 x5 T1 T2 r1
  go_wp2_with fail
  refine bodyPost_ret (v := .agg #[.slice (some ⟨b1, 0, none⟩) ss.length d1, .slice (some ⟨b2, 0, none⟩) ps.length d2]) (by simp [results, Tryz.results20, go_sem, k0, k1]) rfl ?_
  exact ⟨_, _, rfl, ho, hb⟩
end Go.Proofs.YtkhffoailfnepakGreatDoor
/-
  What the specification's l05Is and DiskRight answer: 'dskB'.
  Conditions: the cells of Sectors and Pending hold the texts and the pendings.
-/
namespace Go.Proofs.YtkhffoailfnepakGreatDoor
open Go.RowKit Go.Lib
set_option linter.unusedVariables false
set_option maxRecDepth 20000

theorem belowD {B : Nat} {a w : World} (h : Below B a w) (n : Nat) : Below B a (w.drewN n) := ⟨h.os, h.tape, h.output, h.size, h.block⟩
theorem l05Is_any (n lo hi : Int) (w : World) : Calls Tryz.prog 37 #[.int .i64 n, .int .i64 lo, .int .i64 hi] w fun e w' => e = .returned (.bool (decide (lo ≤ n ∧ n ≤ hi))) ∧ w' = w := by
  by_cases h1 : lo ≤ n
  · have d1 : decide (lo ≤ n) = true := decide_eq_true h1
    by_cases h2 : n ≤ hi
    · have d2 : decide (n ≤ hi) = true := decide_eq_true h2
      have H : Hid (decide (lo ≤ n ∧ n ≤ hi) = true) := decide_eq_true ⟨h1, h2⟩
      rw [H.out]
      clear H
      go_enter Tryz.func37, Tryz.ntmps37
      go_wp2
      go_ret
      exact ⟨rfl, rfl⟩
    · have d2 : decide (n ≤ hi) = false := decide_eq_false h2
      have H : Hid (decide (lo ≤ n ∧ n ≤ hi) = false) := decide_eq_false fun h => h2 h.2
      rw [H.out]
      clear H
      go_enter Tryz.func37, Tryz.ntmps37
      go_wp2
      go_ret
      exact ⟨rfl, rfl⟩
  · have d1 : decide (lo ≤ n) = false := decide_eq_false h1
    have H : Hid (decide (lo ≤ n ∧ n ≤ hi) = false) := decide_eq_false fun h => h1 h.1
    rw [H.out]
    clear H
    go_enter Tryz.func37, Tryz.ntmps37
    go_wp2
    go_ret
    exact ⟨rfl, rfl⟩

set_option maxHeartbeats 2000000 in
theorem specDiskRight_any (q1 : Option Addr) (c1 : Nat) (ss : List ByteArray) (q2 : Option Addr) (c2 : Nat) (ps : List Pnd) (w : World) (h1 : TxtAt w q1 ss) (h2 : PndAt w q2 ps) (n1 : ss.length ≤ 1048576) (n2 : ps.length ≤ 1048576) (m1 : ss.length ≤ c1) (m2 : ps.length ≤ c2) :
    Calls Tryz.prog 16 #[.agg #[.slice q1 ss.length c1, .slice q2 ps.length c2]] w fun e w' => e = .returned (.bool (dskB ss ps)) ∧ Below w.heap.size w w' := by
  obtain ⟨W1, hW1⟩ : ∃ W1, W1 = w.alloc (.cells #[.slice q1 ss.length c1, .slice q2 ps.length c2] 29) := ⟨_, rfl⟩
  have HW1 : Hid (W1 = w.alloc (.cells #[.slice q1 ss.length c1, .slice q2 ps.length c2] 29)) := hW1
  have B1 : Hid (Below w.heap.size w W1) := by rw [hW1]; exact (Below.refl _ _).alloc (Nat.le_refl _) _
  have X1 : W1.heap[w.heap.size]? = some (.cells #[.slice q1 ss.length c1, .slice q2 ps.length c2] 29 (0, 0)) := by rw [hW1]; exact (MapKept.heap_alloc w _).1
  have t0 : W1.cell? ⟨w.heap.size, 0, none⟩ = some (.slice q1 ss.length c1) ∧ W1.cell? ⟨w.heap.size, 1, none⟩ = some (.slice q2 ps.length c2) := by simp [World.cell?, X1]
  obtain ⟨t0, t1⟩ := t0
  have HZ : Hid (w.heap.size < W1.heap.size) := by rw [hW1]; show _ < _; simp
  have T1 : Hid (TxtAt W1 q1 ss) := h1.below B1.out
  have T2 : Hid (PndAt W1 q2 ps) := h2.below B1.out
  have hK := l05Is_any (ss.length : Int) 1 64 W1
  have H0 : Hid (dskB ss ps = (decide (1 ≤ ss.length ∧ ss.length ≤ 64) && (decide (ps.length ≤ 200) && (secB ss && pndB ss.length ps)))) := rfl
  clear hW1 X1 h1 h2
  by_cases a1 : 1 ≤ ss.length ∧ ss.length ≤ 64
  case neg =>
    have HF : Hid (dskB ss ps = false) := by show _ = _; rw [H0.out, decide_eq_false a1]; rfl
    rw [decide_eq_false (show ¬ ((1 : Int) ≤ (ss.length : Int) ∧ (ss.length : Int) ≤ 64) by omega)] at hK
    clear H0 T1 T2 a1
    go_enter Tryz.func16, Tryz.ntmps16
    go_wp2_with fail
    rw [← HW1.out]
    refine hK.mono ?_
    rintro e w1 ⟨rfl, rfl⟩
    go_wp2_with fail
    go_ret
    exact ⟨ret_bool HF.out.symm, B1.out⟩
  rw [decide_eq_true (show ((1 : Int) ≤ (ss.length : Int) ∧ (ss.length : Int) ≤ 64) by omega)] at hK
  by_cases a2 : ps.length ≤ 200
  case neg =>
    have HF : Hid (dskB ss ps = false) := by show _ = _; rw [H0.out, decide_eq_false a2, Bool.false_and, Bool.and_false]
    have d2 : decide (200 < (ps.length : Int)) = true := decide_eq_true (by omega)
    clear H0 T1 T2 a1 a2
    go_enter Tryz.func16, Tryz.ntmps16
    go_wp2_with fail
    rw [← HW1.out]
    refine hK.mono ?_
    rintro e w1 ⟨rfl, rfl⟩
    go_wp2_with fail
    go_ret
    exact ⟨ret_bool HF.out.symm, B1.out⟩
  have d2 : decide (200 < (ps.length : Int)) = false := decide_eq_false (by omega)
  rw [decide_eq_true a1, decide_eq_true a2, Bool.true_and, Bool.true_and] at H0
  obtain ⟨a11, a12⟩ := a1
  go_enter Tryz.func16, Tryz.ntmps16
  go_wp2_with fail
  rw [← HW1.out]
  refine hK.mono ?_
  rintro e w1 ⟨rfl, rfl⟩
  go_wp2_with fail
  go_loop [3] (fun i => ∃ k : Nat, k ≤ ss.length ∧ i = .int .i64 k ∧ Hid (∀ j (h : j < ss.length), j < k → ss[j].size ≤ 64)) (fun i => ss.length - (intOf i).toNat)
  case atStart => exact ⟨0, Nat.zero_le _, rfl, fun j h hk => by omega⟩
  case round =>
    obtain ⟨k, hk, rfl, HK⟩ := hrel
    by_cases hlt : k < ss.length
    · obtain ⟨b, off, rfl, hb, hck⟩ := T1.out k hlt
      by_cases h64 : ss[k].size ≤ 64
      · have HK2 : Hid (∀ j (h : j < ss.length), j < k + 1 → ss[j].size ≤ 64) := fun j h hj => if he : j = k then by subst he; exact h64 else HK.out j h (by omega)
        generalize ss[k] = q at *
        have h33 : (q.size : Int) ≤ 64 := by omega
        go_wp2_with fail
        go_round
        case rel => exact ⟨k + 1, by omega, by go_num, HK2⟩
        case measure => simp [intOf]; omega
      · have HF : Hid (dskB ss ps = false) := by show _ = _; rw [H0.out, secB_false hlt h64]; rfl
        generalize ss[k] = q at *
        have h33 : ¬ (q.size : Int) ≤ 64 := by omega
        go_wp2_with fail
        go_ret
        exact ⟨ret_bool HF.out.symm, B1.out⟩
    · have HF : Hid (dskB ss ps = pndB ss.length ps) := by show _ = _; rw [H0.out, secB_true (fun j h => HK.out j h (by omega)), Bool.true_and]
      clear H0 HK T1
      obtain rfl : k = ss.length := by omega
      go_wp2_with fail
      go_loopw [4] (fun i wr => ∃ k : Nat, k ≤ ps.length ∧ i = .int .i64 k ∧ Hid (Below w1.heap.size w1 wr) ∧ Hid (∀ j (h : j < ps.length), j < k → pndOk ss.length ps[j])) (fun i _ => ps.length - (intOf i).toNat)
      case atStart => exact ⟨0, Nat.zero_le _, rfl, Below.refl _ _, fun j h hk => by omega⟩
      case round =>
        obtain ⟨k, hk, rfl, HB, HK⟩ := hrel
        have x0 := (HB.out.cell (p := ⟨w.heap.size, 0, none⟩) HZ.out).trans t0
        have x1 := (HB.out.cell (p := ⟨w.heap.size, 1, none⟩) HZ.out).trans t1
        clear t0 t1
        by_cases hlt : k < ps.length
        · obtain ⟨b, off, rfl, hb, hc1, hc2⟩ := (T2.out.below HB.out) k hlt
          have i1 : (k : Int) < ps.length := by omega
          have hwr : IntKind.i64.wrap ((ss.length : Int) - 1) = (ss.length : Int) - 1 := by rw [IntKind.wrap_i64]; omega
          have HKp : Hid (pndOk ss.length ps[k] → ∀ j (h : j < ps.length), j < k + 1 → pndOk ss.length ps[j]) := fun h0 j h hj => if he : j = k then by subst he; exact h0 else HK.out j h (by omega)
          have HKn : Hid (¬ pndOk ss.length ps[k] → dskB ss ps = false) := fun h0 => by rw [HF.out, pndB_false hlt h0]
          generalize ps[k] = P at *
          obtain ⟨A, D⟩ := P
          have HKp : Hid (((0 ≤ A ∧ A ≤ (ss.length : Int) - 1) ∧ D.size ≤ 64) → ∀ j (h : j < ps.length), j < k + 1 → pndOk ss.length ps[j]) := HKp
          have HKn : Hid (¬ ((0 ≤ A ∧ A ≤ (ss.length : Int) - 1) ∧ D.size ≤ 64) → dskB ss ps = false) := HKn
          have hc1 : wr.cell? ⟨b, off + k * 2, none⟩ = some (.int .i64 A) := hc1
          have hc2 : wr.cell? ⟨b, off + k * 2 + 1, none⟩ = some (.string D) := hc2
          have QI : Hid (∀ x, Calls Tryz.prog 37 #[.int .i64 A, .int .i64 0, .int .i64 ((ss.length : Int) - 1)] x fun e w' => e = .returned (.bool (decide (0 ≤ A ∧ A ≤ (ss.length : Int) - 1))) ∧ w' = x) := fun x => l05Is_any _ _ _ x
          by_cases b1 : 0 ≤ A ∧ A ≤ (ss.length : Int) - 1
          · rw [decide_eq_true b1] at QI
            by_cases b2 : D.size ≤ 64
            · have HK2 : Hid (∀ j (h : j < ps.length), j < k + 1 → pndOk ss.length ps[j]) := HKp.out ⟨b1, b2⟩
              clear HKp HKn b1
              have b3 : (D.size : Int) ≤ 64 := by omega
              go_wp2_with fail
              go_quiet (first | (go_at_call 37; refine Calls.quiet_of_same (QI.out _)))
              go_wp2_with fail
              go_roundw
              case rel => exact ⟨k + 1, by omega, by go_num, belowD HB.out _, HK2⟩
              case measure => simp [intOf]; omega
            · have HN : Hid (dskB ss ps = false) := HKn.out (fun h => b2 h.2)
              clear HKp HKn b1
              have b3 : ¬ (D.size : Int) ≤ 64 := by omega
              go_wp2_with fail
              go_quiet (first | (go_at_call 37; refine Calls.quiet_of_same (QI.out _)))
              go_wp2_with fail
              go_ret
              exact ⟨ret_bool HN.out.symm, belowD (chainB B1.out HB.out) _⟩
          · have HN : Hid (dskB ss ps = false) := HKn.out (fun h => b1 h.1)
            rw [decide_eq_false b1] at QI
            clear HKp HKn b1
            go_wp2_with fail
            go_quiet (first | (go_at_call 37; refine Calls.quiet_of_same (QI.out _)))
            go_wp2_with fail
            go_ret
            exact ⟨ret_bool HN.out.symm, belowD (chainB B1.out HB.out) _⟩
        · have HN : Hid (dskB ss ps = true) := by show _ = _; rw [HF.out, pndB_true (fun j h => HK.out j h (by omega))]
          go_wp2_with fail
          go_ret
          exact ⟨ret_bool HN.out.symm, chainB B1.out HB.out⟩
end Go.Proofs.YtkhffoailfnepakGreatDoor
/-
  What the specification's l05Ill, DiskNew and l05Copy answer.
-/
namespace Go.Proofs.YtkhffoailfnepakGreatDoor
open Go.RowKit Go.Lib
set_option linter.unusedVariables false
set_option maxRecDepth 20000

theorem l05Ill_any (c : Int) (w : World) : Calls Tryz.prog 41 #[.int .i64 c] w fun e w' => e = .returned (.agg #[.slice none 0 0, .slice none 0 0, .string ByteArray.empty, .int .i64 c]) ∧ Below w.heap.size w w' := by
  have B1 : Below w.heap.size w (w.alloc (.cells #[.slice none 0 0, .slice none 0 0, .string ByteArray.empty, .int .i64 c] 49)) := (Below.refl _ _).alloc (Nat.le_refl _) _
  go_enter Tryz.func41, Tryz.ntmps41
  go_wp2_with fail
  refine bodyPost_ret (v := .agg #[.slice none 0 0, .slice none 0 0, .string ByteArray.empty, .int .i64 c]) (by simp [results, Tryz.results41, go_sem]; rfl) rfl ?_
  exact ⟨rfl, B1⟩

/-- What DiskNew makes. -/
def newS (n : Int) : List ByteArray := if 1 ≤ n ∧ n ≤ 64 then List.replicate n.toNat ByteArray.empty else []
end Go.Proofs.YtkhffoailfnepakGreatDoor
