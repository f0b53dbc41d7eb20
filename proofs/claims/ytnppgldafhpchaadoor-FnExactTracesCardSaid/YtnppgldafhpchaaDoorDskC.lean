/-
  What the specification's l05Copy answers: a disk of its own memory.
-/
import Derived.Test.YtnppgldafhpchaaDoorRows
import Derived.Test.YtnppgldafhpchaaDoorBytes
import Derived.Test.YtnppgldafhpchaaDoorSlASlBOwnS
import Derived.Test.YtnppgldafhpchaaDoorLawSGAppSStepApp
import Derived.Test.YtnppgldafhpchaaDoorDskMath
import Derived.Test.YtnppgldafhpchaaDoorDskA
import Derived.Handy
import Derived.WalkSpells
import Derived.OwnWalk
import Derived.Deep.RegionLaw
import Derived.Deep.Cut
import Derived.Deep.CutRange
namespace Go.Proofs.YtnppgldafhpchaaDoor
open Go.RowKit Go.Lib
set_option linter.unusedVariables false
set_option maxRecDepth 20000

/-- A disk whose two rows are the call's own, in two blocks. -/
structure DskO (base : Nat) (ss : List ByteArray) (ps : List Pnd) (v1 v2 : Value) (w : World) : Prop where
  own1 : w.ownsRow base 9 1 v1 ss.length (strRow ss)
  own2 : w.ownsRow base 65 2 v2 ps.length (pndRow ps)
  ne : v1.ownBlock = none ∨ v1.ownBlock ≠ v2.ownBlock
theorem own_up {w : World} {e : TypeId} {s : Nat} {b n c : Nat} {xs : List Value} {base : Nat} (h : w.ownsRow 0 e s (.slice (some ⟨b, 0, none⟩) n c) n xs) (hb : base ≤ b) : w.ownsRow base e s (.slice (some ⟨b, 0, none⟩) n c) n xs := by
  refine ⟨h.1, ?_⟩
  rcases h.2 with ⟨h0, _⟩ | ⟨g, cap, cur, h1, h2, h3⟩
  · cases h0
  · cases h1
    exact .inr ⟨b, c, cur, rfl, hb, h3⟩

/-- What the box of a result holds: a disk of its own memory. -/
def CopEnd (w : World) (ss : List ByteArray) (ps : List Pnd) (wx : World) : Prop := ∃ b1 d1 b2 d2, wx.heap[w.heap.size + 1]? = some (.cells #[.slice (some ⟨b1, 0, none⟩) ss.length d1, .slice (some ⟨b2, 0, none⟩) ps.length d2] 30 (0, 0)) ∧ DskO w.heap.size ss ps (.slice (some ⟨b1, 0, none⟩) ss.length d1) (.slice (some ⟨b2, 0, none⟩) ps.length d2) wx ∧ Below w.heap.size w wx
theorem hgA (X : World) (T : TypeId) (g : Nat) (h : g = X.heap.size) : (X.alloc (.cells #[] T)).heap[g]? = some (.cells #[] T (0, 0)) := by subst h; exact (MapKept.heap_alloc X _).1
theorem hgB (X : World) (T : TypeId) (g : Nat) (o : Obj) (h : g = X.heap.size) : ((X.alloc (.cells #[] T)).alloc o).heap[g]? = some (.cells #[] T (0, 0)) := (Below.heap_alloc _ _ _ (by subst h; simp)).trans (hgA X T g h)
set_option maxHeartbeats 4000000 in
theorem l05Copy_any (q1 : Option Addr) (c1 : Nat) (ss : List ByteArray) (q2 : Option Addr) (c2 : Nat) (ps : List Pnd) (w : World) (h1 : TxtAt w q1 ss) (h2 : PndAt w q2 ps) (n1 : ss.length ≤ 1048576) (n2 : ps.length ≤ 1048576) (m1 : ss.length ≤ c1) (m2 : ps.length ≤ c2) :
    Calls Tryd.prog 25 #[.agg #[.slice q1 ss.length c1, .slice q2 ps.length c2]] w fun e w' => ∃ v1 v2, e = .returned (.agg #[v1, v2]) ∧ DskO w.heap.size ss ps v1 v2 w' ∧ Below w.heap.size w w' := by
  obtain ⟨W2, hW2⟩ : ∃ W2, W2 = (w.alloc (.cells #[.slice q1 ss.length c1, .slice q2 ps.length c2] 30)).alloc (.cells #[.slice none 0 0, .slice none 0 0] 30) := ⟨_, rfl⟩
  have HW2 : Hid (W2 = (w.alloc (.cells #[.slice q1 ss.length c1, .slice q2 ps.length c2] 30)).alloc (.cells #[.slice none 0 0, .slice none 0 0] 30)) := hW2
  have hs1 : (w.alloc (.cells #[.slice q1 ss.length c1, .slice q2 ps.length c2] 30)).heap.size = w.heap.size + 1 := by simp
  have S2 : W2.heap.size = w.heap.size + 2 := by rw [hW2]; simp
  have R0 : W2.heap[w.heap.size]? = some (.cells #[.slice q1 ss.length c1, .slice q2 ps.length c2] 30 (0, 0)) := by rw [hW2]; exact (Below.heap_alloc _ _ _ (by rw [hs1]; omega)).trans (MapKept.heap_alloc w _).1
  have R1 : W2.heap[w.heap.size + 1]? = some (.cells #[.slice none 0 0, .slice none 0 0] 30 (0, 0)) := by rw [hW2, ← hs1]; exact (MapKept.heap_alloc _ _).1
  have B2 : Hid (Below w.heap.size w W2) := by rw [hW2]; exact ((Below.refl _ _).alloc (Nat.le_refl _) _).alloc (by rw [hs1]; omega) _
  have T1 : Hid (TxtAt W2 q1 ss) := h1.below B2.out
  have T2 : Hid (PndAt W2 q2 ps) := h2.below B2.out
  have HX : Hid (∀ x, Below W2.heap.size W2 x → x.cell? ⟨w.heap.size, 0, none⟩ = some (.slice q1 ss.length c1) ∧ x.cell? ⟨w.heap.size, 1, none⟩ = some (.slice q2 ps.length c2) ∧ x.cell? ⟨w.heap.size + 1, 0, none⟩ = some (.slice none 0 0) ∧ x.cell? ⟨w.heap.size + 1, 1, none⟩ = some (.slice none 0 0) ∧ x.frozen? ⟨w.heap.size + 1, 0, none⟩ = false ∧ x.frozen? ⟨w.heap.size + 1, 1, none⟩ = false) := fun x hb => by
    have h0 := (hb.block w.heap.size (by omega)).trans R0
    have h1 := (hb.block (w.heap.size + 1) (by omega)).trans R1
    simp [World.cell?, World.frozen?, h0, h1]
  have HEnd : Hid (∀ (y : World) (b1 d1 b2 d2 : Nat), y.ownsRow 0 9 1 (.slice (some ⟨b1, 0, none⟩) ss.length d1) ss.length (strRow ss) → y.ownsRow 0 65 2 (.slice (some ⟨b2, 0, none⟩) ps.length d2) ps.length (pndRow ps) → (w.heap.size + 2 ≤ b1 ∧ w.heap.size + 2 ≤ b2 ∧ b1 ≠ b2) → Below W2.heap.size W2 y →
      CopEnd w ss ps ((y.setCell ⟨w.heap.size + 1, 0, none⟩ (.slice (some ⟨b1, 0, none⟩) ss.length d1)).setCell ⟨w.heap.size + 1, 1, none⟩ (.slice (some ⟨b2, 0, none⟩) ps.length d2))) := by
    intro y b1 d1 b2 d2 o1 o2 hl hb
    obtain ⟨l1, l2, hne⟩ := hl
    have hup : ∀ {e : TypeId} {s b n c : Nat} {xs : List Value}, y.ownsRow 0 e s (.slice (some ⟨b, 0, none⟩) n c) n xs → w.heap.size + 2 ≤ b → ((y.setCell ⟨w.heap.size + 1, 0, none⟩ (.slice (some ⟨b1, 0, none⟩) ss.length d1)).setCell ⟨w.heap.size + 1, 1, none⟩ (.slice (some ⟨b2, 0, none⟩) ps.length d2)).ownsRow w.heap.size e s (.slice (some ⟨b, 0, none⟩) n c) n xs := fun h hl => ownS_mono (ownsRow_setCell_below (ownsRow_setCell_below (own_up h hl) (by show w.heap.size + 1 < _; omega) _) (by show w.heap.size + 1 < _; omega) _) (by omega)
    have h0 : y.heap[w.heap.size + 1]? = some (.cells #[.slice none 0 0, .slice none 0 0] 30 (0, 0)) := (hb.block (w.heap.size + 1) (by omega)).trans R1
    exact ⟨b1, d1, b2, d2, by simp [World.setCell, Array.getElem?_modify, h0], ⟨hup o1 l1, hup o2 l2, .inr (fun h => hne (by simpa [Value.ownBlock] using h))⟩, ((chainB B2.out hb).setCell (by show w.heap.size ≤ w.heap.size + 1; omega) _).setCell (by show w.heap.size ≤ w.heap.size + 1; omega) _⟩
  obtain ⟨x0, x1, x2, x3, x4, x5⟩ := HX.out W2 (Below.refl _ _)
  have E1 := HX.out _ (alB (Below.refl W2.heap.size W2) (.cells #[] 9))
  have E2 := HX.out _ (alB (Below.refl W2.heap.size W2) (.cells #[] 65))
  have E3 := HX.out _ (alB (alB (Below.refl W2.heap.size W2) (.cells #[] 9)) (.cells #[] 65))
  have E4 := HX.out _ (alB (alB (Below.refl W2.heap.size W2) (.cells #[] 65)) (.cells #[] 9))
  clear hW2 R0 R1 h1 h2 hs1
  go_enter Tryd.func25, Tryd.ntmps25
  go_upto_region 1 with fail
  rw [← HW2.out]
  go_cut [2] from 3 to 11 (fun s2 wx => s2 = .pointer (some ⟨w.heap.size + 1, 0, none⟩) ∧ Hid (CopEnd w ss ps wx))
  case first =>
    go_region_law (first
      | (refine step_copy_texts rfl _ _ rfl rfl _ q1 c1 ss rfl rfl (by first | exact hgA _ _ _ (by first | rfl | omega | (rw [szA]; omega) | (rw [szA, szA]; omega) | (rw [szD, szA]; omega) | (rw [szD, szA, szA]; omega)) | exact hgB _ _ _ _ (by first | rfl | omega | (rw [szA]; omega) | (rw [szA, szA]; omega) | (rw [szD, szA]; omega) | (rw [szD, szA, szA]; omega)) | exact (cop2.bel.block _ (by first | rfl | omega | (rw [szA]; omega) | (rw [szA, szA]; omega) | (rw [szD, szA]; omega) | (rw [szD, szA, szA]; omega))).trans (hgA _ _ _ (by first | rfl | omega | (rw [szA]; omega) | (rw [szA, szA]; omega) | (rw [szD, szA]; omega) | (rw [szD, szA, szA]; omega))) | exact (cop2.bel.block _ (by first | omega | (rw [szA]; omega) | (rw [szA, szA]; omega) | (rw [szD, szA]; omega) | (rw [szD, szA, szA]; omega))).trans (hgB _ _ _ _ (by first | rfl | omega | (rw [szA]; omega) | (rw [szA, szA]; omega) | (rw [szD, szA]; omega) | (rw [szD, szA, szA]; omega)))) (T1.out.below (by repeat (first | exact z2 | exact Below.refl _ _ | refine alB ?_ _ | refine Below.drew ?_))) n1 ?_; intro v1 y1 cop1; obtain ⟨b1, d1, rfl, i1, i2, i3⟩ := cop1.at_; have z1 : Below W2.heap.size W2 y1 := chainB (by repeat (first | exact z2 | exact Below.refl _ _ | refine alB ?_ _ | refine Below.drew ?_)) cop1.bel; have F1 := HX.out y1 z1; have F2 := HX.out _ (alB z1 (.cells #[] 65)))
      | (refine step_copy_pends rfl _ _ rfl rfl _ q2 c2 ps rfl rfl (by first | exact hgA _ _ _ (by first | rfl | omega | (rw [szA]; omega) | (rw [szA, szA]; omega) | (rw [szD, szA]; omega) | (rw [szD, szA, szA]; omega)) | exact hgB _ _ _ _ (by first | rfl | omega | (rw [szA]; omega) | (rw [szA, szA]; omega) | (rw [szD, szA]; omega) | (rw [szD, szA, szA]; omega)) | exact (cop1.bel.block _ (by first | rfl | omega | (rw [szA]; omega) | (rw [szA, szA]; omega) | (rw [szD, szA]; omega) | (rw [szD, szA, szA]; omega))).trans (hgA _ _ _ (by first | rfl | omega | (rw [szA]; omega) | (rw [szA, szA]; omega) | (rw [szD, szA]; omega) | (rw [szD, szA, szA]; omega))) | exact (cop1.bel.block _ (by first | omega | (rw [szA]; omega) | (rw [szA, szA]; omega) | (rw [szD, szA]; omega) | (rw [szD, szA, szA]; omega))).trans (hgB _ _ _ _ (by first | rfl | omega | (rw [szA]; omega) | (rw [szA, szA]; omega) | (rw [szD, szA]; omega) | (rw [szD, szA, szA]; omega)))) (T2.out.below (by repeat (first | exact z1 | exact Below.refl _ _ | refine alB ?_ _ | refine Below.drew ?_))) n2 ?_; intro v2 y2 cop2; obtain ⟨b2, d2, rfl, j1, j2, j3⟩ := cop2.at_; have z2 : Below W2.heap.size W2 y2 := chainB (by repeat (first | exact z1 | exact Below.refl _ _ | refine alB ?_ _ | refine Below.drew ?_)) cop2.bel; have F3 := HX.out y2 z2; have F4 := HX.out _ (alB z2 (.cells #[] 9))))
    all_goals
      clear E1 E2 E3 E4 x0 x1 x2 x3 x4 x5 T1 T2
      have u1 := cop1.bel.size
      have u2 := cop2.bel.size
      have u3 := z1.size
      have u4 := z2.size
      simp only [szA, szD] at i2 j2 u1 u2
      have hne : w.heap.size + 2 ≤ b1 ∧ w.heap.size + 2 ≤ b2 ∧ b1 ≠ b2 := by omega
      first
        | (have o1 := ownS_below (ownS_below cop1.own (by repeat (first | exact Below.refl _ _ | refine alB ?_ _ | refine Below.drew ?_))) cop2.bel
           have HE : Hid _ := HEnd.out y2 b1 d1 b2 d2 o1 cop2.own hne z2
           clear F1 F2 F3 F4 cop1 cop2 z1 z2 o1 i1 i2 i3 j1 j2 j3 hne u1 u2 u3 u4
           go_wp2_with fail
           go_meet
           exact ⟨rfl, HE⟩)
        | (have o2 := ownS_below (ownS_below cop2.own (by repeat (first | exact Below.refl _ _ | refine alB ?_ _ | refine Below.drew ?_))) cop1.bel
           have HE : Hid _ := HEnd.out y1 b1 d1 b2 d2 cop1.own o2 hne z1
           clear F1 F2 F3 F4 cop1 cop2 z1 z2 o2 i1 i2 i3 j1 j2 j3 hne u1 u2 u3 u4
           go_wp2_with fail
           go_meet
           exact ⟨rfl, HE⟩)
  case rest =>
  obtain ⟨rfl, hE⟩ := hcut
  obtain ⟨b1, d1, b2, d2, r1, ho, hb⟩ := hE.out
  have k0 : wc.cell? ⟨w.heap.size + 1, 0, none⟩ = some (.slice (some ⟨b1, 0, none⟩) ss.length d1) ∧ wc.cell? ⟨w.heap.size + 1, 1, none⟩ = some (.slice (some ⟨b2, 0, none⟩) ps.length d2) := by simp [World.cell?, r1]
  obtain ⟨k0, k1⟩ := k0
  clear hE HEnd HX E1 E2 E3 E4 x0 x1 x2 x3 x4 x5 T1 T2 r1
  go_wp2_with fail
  refine bodyPost_ret (v := .agg #[.slice (some ⟨b1, 0, none⟩) ss.length d1, .slice (some ⟨b2, 0, none⟩) ps.length d2]) (by simp [results, Tryd.results25, go_sem, k0, k1]) rfl ?_
  exact ⟨_, _, rfl, ho, hb⟩
end Go.Proofs.YtnppgldafhpchaaDoor
