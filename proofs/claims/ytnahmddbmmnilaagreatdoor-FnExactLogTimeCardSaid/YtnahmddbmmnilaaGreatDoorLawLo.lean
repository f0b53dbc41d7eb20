/-
  What the laws' own helpers markRowS and heldRowS answer, and leave, for rows of their own memory.
-/
import Derived.Test.YtnahmddbmmnilaaGreatDoorRows
import Derived.Test.YtnahmddbmmnilaaGreatDoorBytesDigMath
import Derived.Test.YtnahmddbmmnilaaGreatDoorSlASlBBxKOwnS
import Derived.Test.YtnahmddbmmnilaaGreatDoorLawMLawMG
import Derived.Test.YtnahmddbmmnilaaGreatDoorJoinedPutTextFldMathFldRiseScanMath
import Derived.Test.YtnahmddbmmnilaaGreatDoorLawFMLawLm
import Derived.Test.YtnahmddbmmnilaaGreatDoorLgMathLgAtKShwK
import Derived.Test.YtnahmddbmmnilaaGreatDoorOneKFldGFldBlkRwBlkTakes
import Derived.Test.YtnahmddbmmnilaaGreatDoorLawLhLawLz
import Derived.Test.YtnahmddbmmnilaaGreatDoorLawLkRowOpsLgO
import Derived.Handy
import Derived.WalkSpells
import Derived.OwnWalk
import Derived.Laws.OwnMore
import Derived.Deep.RegionWith
import Derived.Deep.Cut
namespace Go.Proofs.YtnahmddbmmnilaaGreatDoor
open Go.RowKit Go.Lib
set_option linter.unusedVariables false
set_option maxRecDepth 20000

def fV (xs : List (Rw × Value)) (k : Nat) : Nat := fsN ((xs.map (·.1)).take k)
theorem fV_step (xs : List (Rw × Value)) (k : Nat) (h : k < xs.length) : fV xs (k + 1) = fV xs k + xs[k].1.fs.length := by
  unfold fV
  rw [fsN_take _ k (by simpa using h), List.getElem_map]
theorem fV_le (xs : List (Rw × Value)) (k : Nat) : fV xs k ≤ fsN (xs.map (·.1)) := by
  unfold fV fsN
  conv => rhs; rw [← List.take_append_drop k (xs.map (·.1))]
  rw [List.map_append, List.sum_append]; omega
theorem fV_all (xs : List (Rw × Value)) : fV xs xs.length = fsN (xs.map (·.1)) := by
  have := fsN_all (xs.map (·.1)); rw [List.length_map] at this; exact this
def cV (s : Nat) (xs : List (Rw × Value)) (j : Nat) : Nat := s + 2 * j + 5 * fV xs j
/-- The first i rows bear their marks. -/
def mkV (s : Nat) (xs : List (Rw × Value)) (i : Nat) : List (Rw × Value) := xs.mapIdx fun j y => if j < i then (mkRw (cV s xs j) y.1, y.2) else y
theorem mkV_len (s : Nat) (xs : List (Rw × Value)) (i : Nat) : (mkV s xs i).length = xs.length := by simp [mkV]
theorem mkV_at (s : Nat) (xs : List (Rw × Value)) (i j : Nat) (h : j < xs.length) (h2 : j < (mkV s xs i).length) : (mkV s xs i)[j] = if j < i then (mkRw (cV s xs j) xs[j].1, xs[j].2) else xs[j] := by simp [mkV]
theorem mkV_zero (s : Nat) (xs : List (Rw × Value)) : mkV s xs 0 = xs := by
  apply List.ext_getElem
  · simp [mkV]
  · intro j h1 h2; rw [mkV_at s xs 0 j h2]; simp
theorem mkV_set (s : Nat) (xs : List (Rw × Value)) (i : Nat) (h : i < xs.length) : (mkV s xs i).set i (mkRw (cV s xs i) xs[i].1, xs[i].2) = mkV s xs (i + 1) := by
  apply List.ext_getElem
  · simp [mkV]
  · intro j h1 h2
    have h3 : j < xs.length := by simpa [mkV] using h2
    rw [List.getElem_set, mkV_at s xs (i + 1) j h3]
    by_cases e : i = j
    · subst e; simp
    · rw [if_neg e, mkV_at s xs i j h3]
      by_cases e2 : j < i
      · rw [if_pos e2, if_pos (by omega)]
      · rw [if_neg e2, if_neg (by omega)]
theorem mkV_snd (s : Nat) (xs : List (Rw × Value)) (i j : Nat) (h : j < xs.length) (h2 : j < (mkV s xs i).length) : (mkV s xs i)[j].2 = xs[j].2 ∧ (mkV s xs i)[j].1.fs.length = xs[j].1.fs.length := by
  rw [mkV_at s xs i j h]
  split
  · exact ⟨rfl, by simp [mkRw, mfN_len]⟩
  · exact ⟨rfl, rfl⟩
/-- The row of rows when i of them bear their marks. -/
def rowV (s : Nat) (xs : List (Rw × Value)) (i : Nat) : List Value := rcRow ((mkV s xs i).map rcV)
theorem rowV_len (s : Nat) (xs : List (Rw × Value)) (i : Nat) : (rowV s xs i).length = xs.length * 3 := by unfold rowV; rw [rcRow_len]; simp [mkV_len]
theorem rowV_at (s : Nat) (xs : List (Rw × Value)) (i : Nat) (h : i < xs.length) : (rowV s xs i)[i * 3]? = some (.string xs[i].1.k) ∧ (rowV s xs i)[i * 3 + 1]? = some (.int .i64 xs[i].1.a) ∧ (rowV s xs i)[i * 3 + 2]? = some xs[i].2 := by
  have hl : i < ((mkV s xs i).map rcV).length := by simpa [mkV_len] using h
  have hr := rcRow_at ((mkV s xs i).map rcV) i hl
  have e : ((mkV s xs i).map rcV)[i]'hl = ⟨xs[i].1.k, xs[i].1.a, xs[i].2⟩ := by
    rw [List.getElem_map, mkV_at s xs i i h, if_neg (by omega)]; rfl
  rw [e] at hr
  exact hr
theorem rowV_set (s : Nat) (xs : List (Rw × Value)) (i : Nat) (h : i < xs.length) : ((rowV s xs i).set (i * 3) (.string (markB (cV s xs i)))).set (i * 3 + 1) (.int .i64 ((cV s xs i + 1 : Nat) : Int)) = rowV s xs (i + 1) := by
  have hl : i < ((mkV s xs i).map rcV).length := by simpa [mkV_len] using h
  have hr := (rowV_at s xs i h).2.2
  have e1 : rowV s xs (i + 1) = rcRow (((mkV s xs i).map rcV).set i ⟨markB (cV s xs i), ((cV s xs i + 1 : Nat) : Int), xs[i].2⟩) := by
    unfold rowV
    rw [← mkV_set s xs i h, List.map_set]; rfl
  rw [e1, ← rcRow_set]
  apply List.ext_getElem?
  intro n
  show (((rowV s xs i).set (i * 3) _).set (i * 3 + 1) _)[n]? = ((((rowV s xs i).set (i * 3) _).set (i * 3 + 1) _).set (i * 3 + 2) _)[n]?
  by_cases e : n = i * 3 + 2
  · subst e
    rw [List.getElem?_set_self', List.getElem?_set_ne (by omega), List.getElem?_set_ne (by omega), hr]; rfl
  · exact (List.getElem?_set_ne (fun h => e h.symm)).symm
/-- Rows being marked. -/
structure MdO (S : Nat → Prop) (w : World) (base s : Nat) (xs : List (Rw × Value)) (v : Value) (i : Nat) (row : List Value) (x : World) : Prop where
  own : x.ownsRow base 29 3 v xs.length row
  fld : ∀ j (h : j < xs.length) (h2 : j < (mkV s xs i).length), x.ownsRow base 120 5 xs[j].2 xs[j].1.fs.length (fldRow (mkV s xs i)[j].1.fs)
  but : But S w x
section
variable {S : Nat → Prop} {w x y : World} {base s i : Nat} {xs : List (Rw × Value)} {v : Value} {row : List Value}
theorem MdO.start (h : RwsO base xs v w) : MdO S w base s xs v 0 (rowV s xs 0) w := by
  refine ⟨by unfold rowV; rw [mkV_zero]; exact h.own, fun j hj h2 => ?_, But.refl _ _⟩
  have := h.fld _ (List.getElem_mem hj)
  rw [mkV_at s xs 0 j hj, if_neg (by omega)]
  exact this
theorem MdO.below (h : MdO S w base s xs v i row x) (hb : Below x.heap.size x y) : MdO S w base s xs v i row y := ⟨ownS_below h.own hb, fun j hj h2 => ownS_below (h.fld j hj h2) hb, h.but.more hb⟩
theorem MdO.store {g cap : Nat} (h : MdO S w base s xs (.slice (some ⟨g, 0, none⟩) xs.length cap) i row x) (hS : S g) (a : Nat) (u : Value) : MdO S w base s xs (.slice (some ⟨g, 0, none⟩) xs.length cap) i (row.set a u) (x.setCell ⟨g, a, none⟩ u) := by
  have hst := h.own.stored a u
  exact ⟨hst.1, fun j hj h2 => (h.fld j hj h2).kept hst.2 (own_apart (h.fld j hj h2) h.own (by decide)), h.but.put hS u⟩
theorem MdO.cell {g cap : Nat} (h : MdO S w base s xs (.slice (some ⟨g, 0, none⟩) xs.length cap) i row x) (a : Nat) (ha : a < xs.length * 3) : x.cell? ⟨g, a, none⟩ = row[a]? ∧ x.frozen? ⟨g, a, none⟩ = false := ⟨h.own.cellAt a ha, h.own.frozenAt _⟩
theorem MdO.fields (h : MdO S w base s xs v i row x) (hi : i < xs.length) (hS : ∀ g, xs[i].2.ownBlock = some g → S g) (hne : xs.Pairwise (fun x y => x.2.ownBlock = none ∨ x.2.ownBlock ≠ y.2.ownBlock)) (ho : y.ownsRow base 120 5 xs[i].2 xs[i].1.fs.length (fldRow (mfN (cV s xs i + 2) xs[i].1.fs.length))) (hg : x.grownBy y xs[i].2.ownBlock) : MdO S w base s xs v (i + 1) row y := by
  refine ⟨h.own.kept hg (own_apart h.own (h.fld i hi (by rw [mkV_len]; exact hi)) (by decide)), fun j hj h2 => ?_, ?_⟩
  · rw [mkV_at s xs (i + 1) j hj]
    by_cases e : j = i
    · subst e; rw [if_pos (by omega)]; exact ho
    · have hk := h.fld j hj (by rw [mkV_len]; exact hj)
      rw [mkV_at s xs i j hj] at hk
      have hn : xs[j].2.ownBlock = none ∨ xs[j].2.ownBlock ≠ xs[i].2.ownBlock := by
        have hp := List.pairwise_iff_getElem.1 hne
        rcases Nat.lt_or_gt_of_ne e with hlt | hgt
        · exact hp j i hj hi hlt
        · rcases hp i j hi hj hgt with h0 | h0
          · cases hb : xs[j].2.ownBlock with
            | none => exact .inl rfl
            | some q => exact .inr (by rw [h0]; simp)
          · exact .inr (fun e => h0 e.symm)
      have hk2 := hk.kept hg hn
      by_cases e2 : j < i
      · rw [if_pos e2] at hk2; rw [if_pos (by omega)]; exact hk2
      · rw [if_neg e2] at hk2; rw [if_neg (by omega)]; exact hk2
  · cases hb : xs[i].2.ownBlock with
    | none => rw [hb] at hg; exact h.but.more (below_none hg)
    | some q => rw [hb] at hg; exact h.but.grown hg (hS q hb)
theorem MdO.rws (h : MdO S w base s xs v i (rowV s xs i) x) (hne : xs.Pairwise (fun x y => x.2.ownBlock = none ∨ x.2.ownBlock ≠ y.2.ownBlock)) : RwsO base (mkV s xs i) v x := by
  refine ⟨by rw [mkV_len]; exact h.own, fun z hz => ?_, ?_⟩
  · obtain ⟨j, hj, rfl⟩ := List.getElem_of_mem hz
    have hj' : j < xs.length := by rwa [mkV_len] at hj
    rw [(mkV_snd s xs i j hj' hj).1, (mkV_snd s xs i j hj' hj).2]
    exact h.fld j hj' hj
  · rw [List.pairwise_iff_getElem] at hne ⊢
    intro a b ha hb hab
    have ha' : a < xs.length := by rwa [mkV_len] at ha
    have hb' : b < xs.length := by rwa [mkV_len] at hb
    rw [(mkV_snd s xs i a ha' ha).1, (mkV_snd s xs i b hb' hb).1]
    exact hne a b ha' hb' hab
end
theorem ret_mark {a b : Int} (h : a = b) : Ending.returned (.int .i64 a) = .returned (.int .i64 b) := by rw [h]
/-- The blocks of rows of their own. -/
def rwS (xs : List (Rw × Value)) (v : Value) (k : Nat) : Prop := v.ownBlock = some k ∨ ∃ x ∈ xs, x.2.ownBlock = some k
set_option maxHeartbeats 4000000 in
theorem markRowO_any (S : Nat → Prop) (base : Nat) (xs : List (Rw × Value)) (v : Value) (s : Nat) (w : World) (h : RwsO base xs v w) (hs1 : 1 ≤ s) (hS : ∀ k, rwS xs v k → S k) (hn : xs.length ≤ 1048576) (hb : s + 2 * xs.length + 5 * fsN (xs.map (·.1)) ≤ 16777210) :
    Calls Tryz.prog 141 #[v, .int .i64 (s : Int)] w fun e w' => e = .returned (.int .i64 ((s + 2 * xs.length + 5 * fsN (xs.map (·.1)) : Nat) : Int)) ∧ RwsO base (mkV s xs xs.length) v w' ∧ But S w w' := by
  have HM0 : Hid (MdO S w base s xs v 0 (rowV s xs 0) w) := MdO.start h
  have HNE : Hid (xs.Pairwise (fun x y => x.2.ownBlock = none ∨ x.2.ownBlock ≠ y.2.ownBlock)) := h.ne
  have HSX : Hid (∀ i (hi : i < xs.length) g, xs[i].2.ownBlock = some g → S g) := fun i hi g hg => hS g (.inr ⟨_, List.getElem_mem hi, hg⟩)
  have HSV : Hid (∀ g, v.ownBlock = some g → S g) := fun g hg => hS g (.inl hg)
  have HLE : Hid (∀ k (hk : k < xs.length), fV xs (k + 1) = fV xs k + xs[k].1.fs.length ∧ fV xs (k + 1) ≤ fsN (xs.map (·.1))) := fun k hk => ⟨fV_step xs k hk, fV_le xs (k + 1)⟩
  have hAll : fV xs xs.length = fsN (xs.map (·.1)) := fV_all xs
  obtain ⟨p, cap, rfl, hcap⟩ := h.form
  have HP : Hid (0 < xs.length → ∃ g, p = some ⟨g, 0, none⟩) := fun h0 => by
    rcases h.own.2 with ⟨e, e2⟩ | ⟨g, cap', cur, e, _⟩
    · omega
    · cases e; exact ⟨g, rfl⟩
  clear h hS
  generalize hT : fsN (xs.map (·.1)) = T at *
  clear hT
  go_enter Tryz.func141, Tryz.ntmps141
  go_wp2_with fail
  go_loopw [5, 1] (fun i x wr => ∃ (k : Nat) (c : Nat), k ≤ xs.length ∧ i = .int .i64 k ∧ x = .int .i64 (c : Int) ∧ Hid (c = cV s xs k) ∧ Hid (MdO S w base s xs (.slice p xs.length cap) k (rowV s xs k) wr)) (fun i _ _ => xs.length - (intOf i).toNat)
  case atStart => exact ⟨0, s, Nat.zero_le _, rfl, rfl, rfl, HM0⟩
  case round =>
    clear HM0
    obtain ⟨k, c, hk, rfl, rfl, hc, HM⟩ := hrel
    by_cases hlt : k < xs.length
    · have i1 : (k : Int) < xs.length := by omega
      obtain ⟨l1, l2⟩ := HLE.out k hlt
      obtain ⟨g, rfl⟩ := HP.out (by omega)
      have hcc := hc.out
      have hcu : cV s xs k = s + 2 * k + 5 * fV xs k := rfl
      have A1 : Hid (∀ z : Int, ∀ w, z = (c : Int) → Calls Tryz.prog 202 #[.int .i64 z] w fun e w' => e = .returned (.string (markB c)) ∧ Below w.heap.size w w') := fun z w hz => markText_int z _ hz w (by omega) (by omega)
      have A2 : Hid (∀ z : Int, ∀ row x, z = (c : Int) + 1 + 1 → MdO S w base s xs (.slice (some ⟨g, 0, none⟩) xs.length cap) k row x → Calls Tryz.prog 143 #[xs[k].2, .int .i64 z] x fun e w' => e = .returned (.int .i64 (5 * (xs[k].1.fs.length : Int) + (c + 2 : Nat))) ∧ MdO S w base s xs (.slice (some ⟨g, 0, none⟩) xs.length cap) (k + 1) row w') := fun z row x hz hB => by
        have ho := hB.fld k hlt (by rw [mkV_len]; exact hlt)
        rw [mkV_at s xs k k hlt, if_neg (by omega)] at ho
        have := markF_any (c + 2) (by omega) base _ _ x ho (by omega)
        rw [show ((c + 2 : Nat) : Int) = z by omega] at this
        refine this.mono ?_
        rintro e y ⟨rfl, ho2, hg⟩
        rw [hcc] at ho2
        exact ⟨by rw [show z = ((c + 2 : Nat) : Int) by omega], hB.fields hlt (HSX.out k hlt) HNE.out ho2 hg⟩
      have HRow : Hid (((rowV s xs k).set (k * 3) (.string (markB c))).set (k * 3 + 1) (.int .i64 ((c : Int) + 1)) = rowV s xs (k + 1)) := by
        have := rowV_set s xs k hlt
        rw [← hcc] at this
        exact this
      have HAt : Hid ((rowV s xs k)[k * 3]? = some (.string xs[k].1.k) ∧ (rowV s xs k)[k * 3 + 1]? = some (.int .i64 xs[k].1.a) ∧ (rowV s xs k)[k * 3 + 2]? = some xs[k].2) := rowV_at s xs k hlt
      have HN2 : Hid (5 * xs[k].1.fs.length + (c + 2) = cV s xs (k + 1)) := by show _ = _; have : cV s xs (k + 1) = s + 2 * (k + 1) + 5 * fV xs (k + 1) := rfl; omega
      have cb : c + 5 * xs[k].1.fs.length ≤ 16777210 := by omega
      have hSg : Hid (S g) := HSV.out g rfl
      have h3 : Hid (k * 3 + 2 < xs.length * 3) := by show _ < _; omega
      obtain ⟨a1, b1, d1, hv⟩ : ∃ a b d, xs[k].2 = .slice a b d := by
        obtain ⟨pp, cc, e, _⟩ := ownF_form (show wr.ownsRow base 120 5 xs[k].2 (xs[k].1.fs).length (fldRow xs[k].1.fs) from by
          have ho := HM.out.fld k hlt (by rw [mkV_len]; exact hlt)
          rwa [mkV_at s xs k k hlt, if_neg (by omega)] at ho)
        exact ⟨pp, _, cc, e⟩
      rw [hv] at HAt A2
      clear l1 l2 hc hcu hcc hv
      generalize xs[k].1.fs.length = fk at *
      generalize xs[k].1.k = kk at *
      generalize xs[k].1.a = ka at *
      generalize markB c = M1 at *
      go_wp2_with fail
      refine (A1.out _ _ (by omega)).mono ?_
      rintro e y ⟨rfl, b⟩
      have HY : Hid (MdO S w base s xs (.slice (some ⟨g, 0, none⟩) xs.length cap) k (rowV s xs k) y) := HM.out.below b
      clear b HM A1
      have c0 : y.cell? ⟨g, k * 3, none⟩ = some (.string kk) := (HY.out.cell _ (by have := h3.out; omega)).1.trans HAt.out.1
      have f0 := (HY.out.cell (k * 3) (by have := h3.out; omega)).2
      have HY1 := HY.out.store hSg.out (k * 3) (.string M1)
      have c1 : (y.setCell ⟨g, k * 3, none⟩ (.string M1)).cell? ⟨g, k * 3 + 1, none⟩ = some (.int .i64 ka) := by
        rw [(HY1.cell _ (by have := h3.out; omega)).1, List.getElem?_set_ne (by omega)]; exact HAt.out.2.1
      have f1 := (HY1.cell (k * 3 + 1) (by have := h3.out; omega)).2
      have HY2 : Hid (MdO S w base s xs (.slice (some ⟨g, 0, none⟩) xs.length cap) k (((rowV s xs k).set (k * 3) (.string M1)).set (k * 3 + 1) (.int .i64 ((c : Int) + 1))) ((y.setCell ⟨g, k * 3, none⟩ (.string M1)).setCell ⟨g, k * 3 + 1, none⟩ (.int .i64 ((c : Int) + 1)))) := HY1.store hSg.out (k * 3 + 1) _
      have c2 : ((y.setCell ⟨g, k * 3, none⟩ (.string M1)).setCell ⟨g, k * 3 + 1, none⟩ (.int .i64 ((c : Int) + 1))).cell? ⟨g, k * 3 + 2, none⟩ = some (.slice a1 b1 d1) := by
        rw [(HY2.out.cell _ h3.out).1, List.getElem?_set_ne (by omega), List.getElem?_set_ne (by omega)]; exact HAt.out.2.2
      have hF := A2.out _ _ _ rfl HY2.out
      clear HY HY1 A2
      go_wp2_with fail
      refine hF.mono ?_
      rintro e y3 ⟨rfl, hm3⟩
      have HN : Hid (MdO S w base s xs (.slice (some ⟨g, 0, none⟩) xs.length cap) (k + 1) (rowV s xs (k + 1)) y3) := by rw [HRow.out] at hm3; exact hm3
      clear hF hm3 HY2 c0 f0 c1 f1 c2
      go_wp2_with fail
      go_roundw
      case rel => exact ⟨k + 1, 5 * fk + (c + 2), by omega, by go_num, by go_num, HN2.out, HN.out⟩
      case measure => simp [intOf]; omega
    · obtain rfl : k = xs.length := by omega
      have HC : Hid (c = s + 2 * xs.length + 5 * T) := by rw [← hAll]; exact hc.out
      have HR := HM.out.rws HNE.out
      have HRR : Hid (RwsO base (mkV s xs xs.length) (.slice p xs.length cap) wr) := HR
      clear hc HR
      go_wp2_with fail
      go_ret
      exact ⟨ret_mark (by rw [HC.out]), HRR.out, HM.out.but⟩
set_option maxHeartbeats 4000000 in
theorem heldRowO_any (p : Option Addr) (cap : Nat) (xs : List (Rw × Value)) (s : Nat) (w : World) (hp : RwAt w p ((mkV s xs xs.length).map (·.1))) (hcap : xs.length ≤ cap) (hs1 : 1 ≤ s) (hn : xs.length ≤ 1048576) (hb : s + 2 * xs.length + 5 * fsN (xs.map (·.1)) ≤ 16777210) :
    Calls Tryz.prog 203 #[.slice p xs.length cap, .int .i64 (s : Int)] w fun e w' => e = .returned (.int .i64 ((s + 2 * xs.length + 5 * fsN (xs.map (·.1)) : Nat) : Int)) ∧ Below w.heap.size w w' := by
  have HP : Hid (RwAt w p ((mkV s xs xs.length).map (·.1))) := hp
  have HLE : Hid (∀ k (hk : k < xs.length), fV xs (k + 1) = fV xs k + xs[k].1.fs.length ∧ fV xs (k + 1) ≤ fsN (xs.map (·.1))) := fun k hk => ⟨fV_step xs k hk, fV_le xs (k + 1)⟩
  have hAll : fV xs xs.length = fsN (xs.map (·.1)) := fV_all xs
  clear hp
  generalize hT : fsN (xs.map (·.1)) = T at *
  clear hT
  go_enter Tryz.func203, Tryz.ntmps203
  go_wp2_with fail
  go_loopw [5, 1] (fun i x wr => ∃ (k : Nat) (c : Nat), k ≤ xs.length ∧ i = .int .i64 k ∧ x = .int .i64 (c : Int) ∧ Hid (c = cV s xs k) ∧ Hid (Below w.heap.size w wr)) (fun i _ _ => xs.length - (intOf i).toNat)
  case atStart => exact ⟨0, s, Nat.zero_le _, rfl, rfl, rfl, Below.refl _ _⟩
  case round =>
    obtain ⟨k, c, hk, rfl, rfl, hc, hB⟩ := hrel
    by_cases hlt : k < xs.length
    · have i1 : (k : Int) < xs.length := by omega
      obtain ⟨l1, l2⟩ := HLE.out k hlt
      have hcc := hc.out
      have hcu : cV s xs k = s + 2 * k + 5 * fV xs k := rfl
      have hl0 : k < (mkV s xs xs.length).length := by rw [mkV_len]; exact hlt
      obtain ⟨b, off, q, cc, rfl, hb0, h0, h1, h2, hc5, hf⟩ := HP.out k (by rw [List.length_map]; exact hl0)
      have em : ((mkV s xs xs.length).map (·.1))[k]'(by rw [List.length_map]; exact hl0) = mkRw (cV s xs k) xs[k].1 := by rw [List.getElem_map, mkV_at s xs _ k hlt hl0, if_pos hlt]
      rw [em] at h0 h1 h2 hc5 hf
      have hfl : (mkRw (cV s xs k) xs[k].1).fs.length = xs[k].1.fs.length := by simp [mkRw, mfN_len]
      rw [hfl] at h2 hc5
      have hf2 : FldAt w q (mfN (c + 2) xs[k].1.fs.length) := by rw [hcc]; exact hf
      have HQ : Hid (∀ x, Below w.heap.size w x → x.cell? ⟨b, off + k * 3, none⟩ = some (.string (markB c)) ∧ x.cell? ⟨b, off + k * 3 + 1, none⟩ = some (.int .i64 ((c : Int) + 1)) ∧ x.cell? ⟨b, off + k * 3 + 2, none⟩ = some (.slice q xs[k].1.fs.length cc)) := fun x hx => by
        rw [hcc]
        exact ⟨(hx.cell (p := ⟨b, off + k * 3, none⟩) hb0).trans h0, (hx.cell (p := ⟨b, off + k * 3 + 1, none⟩) hb0).trans h1, (hx.cell (p := ⟨b, off + k * 3 + 2, none⟩) hb0).trans h2⟩
      have A1 : Hid (∀ z : Int, ∀ w, z = (c : Int) → Calls Tryz.prog 202 #[.int .i64 z] w fun e w' => e = .returned (.string (markB c)) ∧ Below w.heap.size w w') := fun z w hz => markText_int z _ hz w (by omega) (by omega)
      have A2 : Hid (∀ z : Int, ∀ x, z = (c : Int) + 1 + 1 → Below w.heap.size w x → Calls Tryz.prog 236 #[.slice q xs[k].1.fs.length cc, .int .i64 z] x fun e w' => e = .returned (.int .i64 (5 * (xs[k].1.fs.length : Int) + (c + 2 : Nat))) ∧ Below x.heap.size x w') := fun z x hz hx => by
        have := heldF_any (c + 2) (by omega) q cc xs[k].1.fs.length x (hf2.below hx) (by omega) hc5
        rw [show ((c + 2 : Nat) : Int) = z by omega] at this
        refine this.mono ?_
        rintro e y ⟨rfl, hg⟩
        exact ⟨by rw [show z = ((c + 2 : Nat) : Int) by omega], hg⟩
      have HN2 : Hid (5 * xs[k].1.fs.length + (c + 2) = cV s xs (k + 1)) := by show _ = _; have : cV s xs (k + 1) = s + 2 * (k + 1) + 5 * fV xs (k + 1) := rfl; omega
      have cb : c + 5 * xs[k].1.fs.length ≤ 16777210 := by omega
      clear l1 l2 hc hcu hcc hb0 h0 h1 h2 hc5 hf hf2 em hfl hl0
      generalize xs[k].1.fs.length = fk at *
      generalize markB c = M1 at *
      obtain ⟨c1, -, -⟩ := HQ.out wr hB.out
      go_wp2_with fail
      go_region_with (first | (go_at_call 202; refine (A1.out _ _ (by omega)).mono ?_; rintro e w2 ⟨rfl, b2⟩; have b2 : Below w.heap.size w w2 := chainB (by first | exact hB.out | exact hB.out.drew) b2; have c2 := (HQ.out w2 b2).1))
      all_goals
        have HB2 : Hid (Below w.heap.size w w2) := b2
        obtain ⟨-, c22, c23⟩ := HQ.out w2 HB2.out
        have hF := A2.out ((c : Int) + 1 + 1) w2 rfl HB2.out
        have dN : decide (5 * (fk : Int) + (c + 2 : Nat) < 0) = false := decide_eq_false (by omega)
        clear b2
        go_wp2_with fail
        refine hF.mono ?_
        rintro e w3 ⟨rfl, b3⟩
        have HB3 : Hid (Below w.heap.size w w3) := chainB HB2.out b3
        clear hF b3 c22 c23
        go_wp2_with fail
        go_roundw
        case rel => exact ⟨k + 1, 5 * fk + (c + 2), by omega, by go_num, by go_num, HN2.out, HB3.out⟩
        case measure => simp [intOf]; omega
    · obtain rfl : k = xs.length := by omega
      have HC : Hid (c = s + 2 * xs.length + 5 * T) := by rw [← hAll]; exact hc.out
      clear hc
      go_wp2_with fail
      go_ret
      exact ⟨ret_mark (by rw [HC.out]), hB.out⟩
end Go.Proofs.YtnahmddbmmnilaaGreatDoor
