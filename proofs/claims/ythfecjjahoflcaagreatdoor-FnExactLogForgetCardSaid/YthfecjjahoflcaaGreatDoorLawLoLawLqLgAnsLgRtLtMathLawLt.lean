/-
  Parts of one proof, laid as one text: LawLo, LawLq, LgAns, LgRt, LtMath, LawLt; what each says stands at its head.
-/
import Derived.Test.YthfecjjahoflcaaGreatDoorRows
import Derived.Test.YthfecjjahoflcaaGreatDoorBytesDigMathTreeMath
import Derived.Test.YthfecjjahoflcaaGreatDoorSlASlBBxKOwnSTakesLTillTwo
import Derived.Test.YthfecjjahoflcaaGreatDoorLawFRLawSLawM
import Derived.Test.YthfecjjahoflcaaGreatDoorLawLzLawMGLawLm
import Derived.Test.YthfecjjahoflcaaGreatDoorJoinedPutTextFldMathFldGShwK
import Derived.Test.YthfecjjahoflcaaGreatDoorLawFMLawFXTakesLawSG
import Derived.Test.YthfecjjahoflcaaGreatDoorLgMathLgAtKRwBlkLawF
import Derived.Test.YthfecjjahoflcaaGreatDoorLawLkRowOpsLgO
import Derived.Handy
import Derived.WalkSpells
import Derived.OwnWalk
import Derived.Laws.OwnMore
import Derived.Deep.RegionWith
import Derived.Deep.Cut
import Derived.Test.YthfecjjahoflcaaGreatDoorLawLgLawLh
import Derived.Test.YthfecjjahoflcaaGreatDoorOneKFldBlkFldRiseScanMathGetValGetTxtNumMathFldRdNumFromTmbMath
import Derived.Test.YthfecjjahoflcaaGreatDoorTimeBPutMathPutNum
/-
  What the laws' own helpers markRowS and heldRowS answer, and leave, for rows of their own memory.
-/
namespace Go.Proofs.YthfecjjahoflcaaGreatDoor
open Go.RowKit Go.Lib
set_option linter.unusedVariables false
set_option maxRecDepth 20000

def fV (xs : List (Rw × Value)) (k : Nat) : Nat := fsN ((xs.map (·.1)).take k)
theorem fV_step (xs : List (Rw × Value)) (k : Nat) (h : k < xs.length) : fV xs (k + 1) = fV xs k + xs[k].1.fs.length := by
  unfold fV
  rw [fsN_take _ k (by simpa using h), List.getElem_map]
theorem fV_le (xs : List (Rw × Value)) (k : Nat) : fV xs k ≤ fsN (xs.map (·.1)) := by
  unfold fV fsN
  conv => rhs; rw [← List.take_append_drop k (xs.map (·.1))]
  rw [List.map_append, List.sum_append]; omega
theorem fV_all (xs : List (Rw × Value)) : fV xs xs.length = fsN (xs.map (·.1)) := by
  have := fsN_all (xs.map (·.1)); rw [List.length_map] at this; exact this
def cV (s : Nat) (xs : List (Rw × Value)) (j : Nat) : Nat := s + 2 * j + 5 * fV xs j
/-- The first i rows bear their marks. -/
def mkV (s : Nat) (xs : List (Rw × Value)) (i : Nat) : List (Rw × Value) := xs.mapIdx fun j y => if j < i then (mkRw (cV s xs j) y.1, y.2) else y
theorem mkV_len (s : Nat) (xs : List (Rw × Value)) (i : Nat) : (mkV s xs i).length = xs.length := by simp [mkV]
theorem mkV_at (s : Nat) (xs : List (Rw × Value)) (i j : Nat) (h : j < xs.length) (h2 : j < (mkV s xs i).length) : (mkV s xs i)[j] = if j < i then (mkRw (cV s xs j) xs[j].1, xs[j].2) else xs[j] := by simp [mkV]
theorem mkV_zero (s : Nat) (xs : List (Rw × Value)) : mkV s xs 0 = xs := by
  apply List.ext_getElem
  · simp [mkV]
  · intro j h1 h2; rw [mkV_at s xs 0 j h2]; simp
theorem mkV_set (s : Nat) (xs : List (Rw × Value)) (i : Nat) (h : i < xs.length) : (mkV s xs i).set i (mkRw (cV s xs i) xs[i].1, xs[i].2) = mkV s xs (i + 1) := by
  apply List.ext_getElem
  · simp [mkV]
  · intro j h1 h2
    have h3 : j < xs.length := by simpa [mkV] using h2
    rw [List.getElem_set, mkV_at s xs (i + 1) j h3]
    by_cases e : i = j
    · subst e; simp
    · rw [if_neg e, mkV_at s xs i j h3]
      by_cases e2 : j < i
      · rw [if_pos e2, if_pos (by omega)]
      · rw [if_neg e2, if_neg (by omega)]
theorem mkV_snd (s : Nat) (xs : List (Rw × Value)) (i j : Nat) (h : j < xs.length) (h2 : j < (mkV s xs i).length) : (mkV s xs i)[j].2 = xs[j].2 ∧ (mkV s xs i)[j].1.fs.length = xs[j].1.fs.length := by
  rw [mkV_at s xs i j h]
  split
  · exact ⟨rfl, by simp [mkRw, mfN_len]⟩
  · exact ⟨rfl, rfl⟩
/-- The row of rows when i of them bear their marks. -/
def rowV (s : Nat) (xs : List (Rw × Value)) (i : Nat) : List Value := rcRow ((mkV s xs i).map rcV)
theorem rowV_len (s : Nat) (xs : List (Rw × Value)) (i : Nat) : (rowV s xs i).length = xs.length * 3 := by unfold rowV; rw [rcRow_len]; simp [mkV_len]
theorem rowV_at (s : Nat) (xs : List (Rw × Value)) (i : Nat) (h : i < xs.length) : (rowV s xs i)[i * 3]? = some (.string xs[i].1.k) ∧ (rowV s xs i)[i * 3 + 1]? = some (.int .i64 xs[i].1.a) ∧ (rowV s xs i)[i * 3 + 2]? = some xs[i].2 := by
  have hl : i < ((mkV s xs i).map rcV).length := by simpa [mkV_len] using h
  have hr := rcRow_at ((mkV s xs i).map rcV) i hl
  have e : ((mkV s xs i).map rcV)[i]'hl = ⟨xs[i].1.k, xs[i].1.a, xs[i].2⟩ := by
    rw [List.getElem_map, mkV_at s xs i i h, if_neg (by omega)]; rfl
  rw [e] at hr
  exact hr
theorem rowV_set (s : Nat) (xs : List (Rw × Value)) (i : Nat) (h : i < xs.length) : ((rowV s xs i).set (i * 3) (.string (markB (cV s xs i)))).set (i * 3 + 1) (.int .i64 ((cV s xs i + 1 : Nat) : Int)) = rowV s xs (i + 1) := by
  have hl : i < ((mkV s xs i).map rcV).length := by simpa [mkV_len] using h
  have hr := (rowV_at s xs i h).2.2
  have e1 : rowV s xs (i + 1) = rcRow (((mkV s xs i).map rcV).set i ⟨markB (cV s xs i), ((cV s xs i + 1 : Nat) : Int), xs[i].2⟩) := by
    unfold rowV
    rw [← mkV_set s xs i h, List.map_set]; rfl
  rw [e1, ← rcRow_set]
  apply List.ext_getElem?
  intro n
  show (((rowV s xs i).set (i * 3) _).set (i * 3 + 1) _)[n]? = ((((rowV s xs i).set (i * 3) _).set (i * 3 + 1) _).set (i * 3 + 2) _)[n]?
  by_cases e : n = i * 3 + 2
  · subst e
    rw [List.getElem?_set_self', List.getElem?_set_ne (by omega), List.getElem?_set_ne (by omega), hr]; rfl
  · exact (List.getElem?_set_ne (fun h => e h.symm)).symm
/-- Rows being marked. -/
structure MdO (S : Nat → Prop) (w : World) (base s : Nat) (xs : List (Rw × Value)) (v : Value) (i : Nat) (row : List Value) (x : World) : Prop where
  own : x.ownsRow base 40 3 v xs.length row
  fld : ∀ j (h : j < xs.length) (h2 : j < (mkV s xs i).length), x.ownsRow base 87 5 xs[j].2 xs[j].1.fs.length (fldRow (mkV s xs i)[j].1.fs)
  but : But S w x
section
variable {S : Nat → Prop} {w x y : World} {base s i : Nat} {xs : List (Rw × Value)} {v : Value} {row : List Value}
theorem MdO.start (h : RwsO base xs v w) : MdO S w base s xs v 0 (rowV s xs 0) w := by
  refine ⟨by unfold rowV; rw [mkV_zero]; exact h.own, fun j hj h2 => ?_, But.refl _ _⟩
  have := h.fld _ (List.getElem_mem hj)
  rw [mkV_at s xs 0 j hj, if_neg (by omega)]
  exact this
theorem MdO.below (h : MdO S w base s xs v i row x) (hb : Below x.heap.size x y) : MdO S w base s xs v i row y := ⟨ownS_below h.own hb, fun j hj h2 => ownS_below (h.fld j hj h2) hb, h.but.more hb⟩
theorem MdO.store {g cap : Nat} (h : MdO S w base s xs (.slice (some ⟨g, 0, none⟩) xs.length cap) i row x) (hS : S g) (a : Nat) (u : Value) : MdO S w base s xs (.slice (some ⟨g, 0, none⟩) xs.length cap) i (row.set a u) (x.setCell ⟨g, a, none⟩ u) := by
  have hst := h.own.stored a u
  exact ⟨hst.1, fun j hj h2 => (h.fld j hj h2).kept hst.2 (own_apart (h.fld j hj h2) h.own (by decide)), h.but.put hS u⟩
theorem MdO.cell {g cap : Nat} (h : MdO S w base s xs (.slice (some ⟨g, 0, none⟩) xs.length cap) i row x) (a : Nat) (ha : a < xs.length * 3) : x.cell? ⟨g, a, none⟩ = row[a]? ∧ x.frozen? ⟨g, a, none⟩ = false := ⟨h.own.cellAt a ha, h.own.frozenAt _⟩
theorem MdO.fields (h : MdO S w base s xs v i row x) (hi : i < xs.length) (hS : ∀ g, xs[i].2.ownBlock = some g → S g) (hne : xs.Pairwise (fun x y => x.2.ownBlock = none ∨ x.2.ownBlock ≠ y.2.ownBlock)) (ho : y.ownsRow base 87 5 xs[i].2 xs[i].1.fs.length (fldRow (mfN (cV s xs i + 2) xs[i].1.fs.length))) (hg : x.grownBy y xs[i].2.ownBlock) : MdO S w base s xs v (i + 1) row y := by
  refine ⟨h.own.kept hg (own_apart h.own (h.fld i hi (by rw [mkV_len]; exact hi)) (by decide)), fun j hj h2 => ?_, ?_⟩
  · rw [mkV_at s xs (i + 1) j hj]
    by_cases e : j = i
    · subst e; rw [if_pos (by omega)]; exact ho
    · have hk := h.fld j hj (by rw [mkV_len]; exact hj)
      rw [mkV_at s xs i j hj] at hk
      have hn : xs[j].2.ownBlock = none ∨ xs[j].2.ownBlock ≠ xs[i].2.ownBlock := by
        have hp := List.pairwise_iff_getElem.1 hne
        rcases Nat.lt_or_gt_of_ne e with hlt | hgt
        · exact hp j i hj hi hlt
        · rcases hp i j hi hj hgt with h0 | h0
          · cases hb : xs[j].2.ownBlock with
            | none => exact .inl rfl
            | some q => exact .inr (by rw [h0]; simp)
          · exact .inr (fun e => h0 e.symm)
      have hk2 := hk.kept hg hn
      by_cases e2 : j < i
      · rw [if_pos e2] at hk2; rw [if_pos (by omega)]; exact hk2
      · rw [if_neg e2] at hk2; rw [if_neg (by omega)]; exact hk2
  · cases hb : xs[i].2.ownBlock with
    | none => rw [hb] at hg; exact h.but.more (below_none hg)
    | some q => rw [hb] at hg; exact h.but.grown hg (hS q hb)
theorem MdO.rws (h : MdO S w base s xs v i (rowV s xs i) x) (hne : xs.Pairwise (fun x y => x.2.ownBlock = none ∨ x.2.ownBlock ≠ y.2.ownBlock)) : RwsO base (mkV s xs i) v x := by
  refine ⟨by rw [mkV_len]; exact h.own, fun z hz => ?_, ?_⟩
  · obtain ⟨j, hj, rfl⟩ := List.getElem_of_mem hz
    have hj' : j < xs.length := by rwa [mkV_len] at hj
    rw [(mkV_snd s xs i j hj' hj).1, (mkV_snd s xs i j hj' hj).2]
    exact h.fld j hj' hj
  · rw [List.pairwise_iff_getElem] at hne ⊢
    intro a b ha hb hab
    have ha' : a < xs.length := by rwa [mkV_len] at ha
    have hb' : b < xs.length := by rwa [mkV_len] at hb
    rw [(mkV_snd s xs i a ha' ha).1, (mkV_snd s xs i b hb' hb).1]
    exact hne a b ha' hb' hab
end
theorem ret_mark {a b : Int} (h : a = b) : Ending.returned (.int .i64 a) = .returned (.int .i64 b) := by rw [h]
/-- The blocks of rows of their own. -/
def rwS (xs : List (Rw × Value)) (v : Value) (k : Nat) : Prop := v.ownBlock = some k ∨ ∃ x ∈ xs, x.2.ownBlock = some k
set_option maxHeartbeats 4000000 in
theorem markRowO_any (S : Nat → Prop) (base : Nat) (xs : List (Rw × Value)) (v : Value) (s : Nat) (w : World) (h : RwsO base xs v w) (hs1 : 1 ≤ s) (hS : ∀ k, rwS xs v k → S k) (hn : xs.length ≤ 1048576) (hb : s + 2 * xs.length + 5 * fsN (xs.map (·.1)) ≤ 16777210) :
    Calls Tryz.prog 42 #[v, .int .i64 (s : Int)] w fun e w' => e = .returned (.int .i64 ((s + 2 * xs.length + 5 * fsN (xs.map (·.1)) : Nat) : Int)) ∧ RwsO base (mkV s xs xs.length) v w' ∧ But S w w' := by
  have HM0 : Hid (MdO S w base s xs v 0 (rowV s xs 0) w) := MdO.start h
  have HNE : Hid (xs.Pairwise (fun x y => x.2.ownBlock = none ∨ x.2.ownBlock ≠ y.2.ownBlock)) := h.ne
  have HSX : Hid (∀ i (hi : i < xs.length) g, xs[i].2.ownBlock = some g → S g) := fun i hi g hg => hS g (.inr ⟨_, List.getElem_mem hi, hg⟩)
  have HSV : Hid (∀ g, v.ownBlock = some g → S g) := fun g hg => hS g (.inl hg)
  have HLE : Hid (∀ k (hk : k < xs.length), fV xs (k + 1) = fV xs k + xs[k].1.fs.length ∧ fV xs (k + 1) ≤ fsN (xs.map (·.1))) := fun k hk => ⟨fV_step xs k hk, fV_le xs (k + 1)⟩
  have hAll : fV xs xs.length = fsN (xs.map (·.1)) := fV_all xs
  obtain ⟨p, cap, rfl, hcap⟩ := h.form
  have HP : Hid (0 < xs.length → ∃ g, p = some ⟨g, 0, none⟩) := fun h0 => by
    rcases h.own.2 with ⟨e, e2⟩ | ⟨g, cap', cur, e, _⟩
    · omega
    · cases e; exact ⟨g, rfl⟩
  clear h hS
  generalize hT : fsN (xs.map (·.1)) = T at *
  clear hT
  go_enter Tryz.func42, Tryz.ntmps42
  go_wp2_with fail
  go_loopw [5, 1] (fun i x wr => ∃ (k : Nat) (c : Nat), k ≤ xs.length ∧ i = .int .i64 k ∧ x = .int .i64 (c : Int) ∧ Hid (c = cV s xs k) ∧ Hid (MdO S w base s xs (.slice p xs.length cap) k (rowV s xs k) wr)) (fun i _ _ => xs.length - (intOf i).toNat)
  case atStart => exact ⟨0, s, Nat.zero_le _, rfl, rfl, rfl, HM0⟩
  case round =>
    clear HM0
    obtain ⟨k, c, hk, rfl, rfl, hc, HM⟩ := hrel
    by_cases hlt : k < xs.length
    · have i1 : (k : Int) < xs.length := by omega
      obtain ⟨l1, l2⟩ := HLE.out k hlt
      obtain ⟨g, rfl⟩ := HP.out (by omega)
      have hcc := hc.out
      have hcu : cV s xs k = s + 2 * k + 5 * fV xs k := rfl
      have A1 : Hid (∀ z : Int, ∀ w, z = (c : Int) → Calls Tryz.prog 72 #[.int .i64 z] w fun e w' => e = .returned (.string (markB c)) ∧ Below w.heap.size w w') := fun z w hz => markText_int z _ hz w (by omega) (by omega)
      have A2 : Hid (∀ z : Int, ∀ row x, z = (c : Int) + 1 + 1 → MdO S w base s xs (.slice (some ⟨g, 0, none⟩) xs.length cap) k row x → Calls Tryz.prog 44 #[xs[k].2, .int .i64 z] x fun e w' => e = .returned (.int .i64 (5 * (xs[k].1.fs.length : Int) + (c + 2 : Nat))) ∧ MdO S w base s xs (.slice (some ⟨g, 0, none⟩) xs.length cap) (k + 1) row w') := fun z row x hz hB => by
        have ho := hB.fld k hlt (by rw [mkV_len]; exact hlt)
        rw [mkV_at s xs k k hlt, if_neg (by omega)] at ho
        have := markF_any (c + 2) (by omega) base _ _ x ho (by omega)
        rw [show ((c + 2 : Nat) : Int) = z by omega] at this
        refine this.mono ?_
        rintro e y ⟨rfl, ho2, hg⟩
        rw [hcc] at ho2
        exact ⟨by rw [show z = ((c + 2 : Nat) : Int) by omega], hB.fields hlt (HSX.out k hlt) HNE.out ho2 hg⟩
      have HRow : Hid (((rowV s xs k).set (k * 3) (.string (markB c))).set (k * 3 + 1) (.int .i64 ((c : Int) + 1)) = rowV s xs (k + 1)) := by
        have := rowV_set s xs k hlt
        rw [← hcc] at this
        exact this
      have HAt : Hid ((rowV s xs k)[k * 3]? = some (.string xs[k].1.k) ∧ (rowV s xs k)[k * 3 + 1]? = some (.int .i64 xs[k].1.a) ∧ (rowV s xs k)[k * 3 + 2]? = some xs[k].2) := rowV_at s xs k hlt
      have HN2 : Hid (5 * xs[k].1.fs.length + (c + 2) = cV s xs (k + 1)) := by show _ = _; have : cV s xs (k + 1) = s + 2 * (k + 1) + 5 * fV xs (k + 1) := rfl; omega
      have cb : c + 5 * xs[k].1.fs.length ≤ 16777210 := by omega
      have hSg : Hid (S g) := HSV.out g rfl
      have h3 : Hid (k * 3 + 2 < xs.length * 3) := by show _ < _; omega
      obtain ⟨a1, b1, d1, hv⟩ : ∃ a b d, xs[k].2 = .slice a b d := by
        obtain ⟨pp, cc, e, _⟩ := ownF_form (show wr.ownsRow base 87 5 xs[k].2 (xs[k].1.fs).length (fldRow xs[k].1.fs) from by
          have ho := HM.out.fld k hlt (by rw [mkV_len]; exact hlt)
          rwa [mkV_at s xs k k hlt, if_neg (by omega)] at ho)
        exact ⟨pp, _, cc, e⟩
      rw [hv] at HAt A2
      clear l1 l2 hc hcu hcc hv
      generalize xs[k].1.fs.length = fk at *
      generalize xs[k].1.k = kk at *
      generalize xs[k].1.a = ka at *
      generalize markB c = M1 at *
      go_wp2_with fail
      refine (A1.out _ _ (by omega)).mono ?_
      rintro e y ⟨rfl, b⟩
      have HY : Hid (MdO S w base s xs (.slice (some ⟨g, 0, none⟩) xs.length cap) k (rowV s xs k) y) := HM.out.below b
      clear b HM A1
      have c0 : y.cell? ⟨g, k * 3, none⟩ = some (.string kk) := (HY.out.cell _ (by have := h3.out; omega)).1.trans HAt.out.1
      have f0 := (HY.out.cell (k * 3) (by have := h3.out; omega)).2
      have HY1 := HY.out.store hSg.out (k * 3) (.string M1)
      have c1 : (y.setCell ⟨g, k * 3, none⟩ (.string M1)).cell? ⟨g, k * 3 + 1, none⟩ = some (.int .i64 ka) := by
        rw [(HY1.cell _ (by have := h3.out; omega)).1, List.getElem?_set_ne (by omega)]; exact HAt.out.2.1
      have f1 := (HY1.cell (k * 3 + 1) (by have := h3.out; omega)).2
      have HY2 : Hid (MdO S w base s xs (.slice (some ⟨g, 0, none⟩) xs.length cap) k (((rowV s xs k).set (k * 3) (.string M1)).set (k * 3 + 1) (.int .i64 ((c : Int) + 1))) ((y.setCell ⟨g, k * 3, none⟩ (.string M1)).setCell ⟨g, k * 3 + 1, none⟩ (.int .i64 ((c : Int) + 1)))) := HY1.store hSg.out (k * 3 + 1) _
      have c2 : ((y.setCell ⟨g, k * 3, none⟩ (.string M1)).setCell ⟨g, k * 3 + 1, none⟩ (.int .i64 ((c : Int) + 1))).cell? ⟨g, k * 3 + 2, none⟩ = some (.slice a1 b1 d1) := by
        rw [(HY2.out.cell _ h3.out).1, List.getElem?_set_ne (by omega), List.getElem?_set_ne (by omega)]; exact HAt.out.2.2
      have hF := A2.out _ _ _ rfl HY2.out
      clear HY HY1 A2
      go_wp2_with fail
      refine hF.mono ?_
      rintro e y3 ⟨rfl, hm3⟩
      have HN : Hid (MdO S w base s xs (.slice (some ⟨g, 0, none⟩) xs.length cap) (k + 1) (rowV s xs (k + 1)) y3) := by rw [HRow.out] at hm3; exact hm3
      clear hF hm3 HY2 c0 f0 c1 f1 c2
      go_wp2_with fail
      go_roundw
      case rel => exact ⟨k + 1, 5 * fk + (c + 2), by omega, by go_num, by go_num, HN2.out, HN.out⟩
      case measure => simp [intOf]; omega
    · obtain rfl : k = xs.length := by omega
      have HC : Hid (c = s + 2 * xs.length + 5 * T) := by rw [← hAll]; exact hc.out
      have HR := HM.out.rws HNE.out
      have HRR : Hid (RwsO base (mkV s xs xs.length) (.slice p xs.length cap) wr) := HR
      clear hc HR
      go_wp2_with fail
      go_ret
      exact ⟨ret_mark (by rw [HC.out]), HRR.out, HM.out.but⟩
set_option maxHeartbeats 4000000 in
theorem heldRowO_any (p : Option Addr) (cap : Nat) (xs : List (Rw × Value)) (s : Nat) (w : World) (hp : RwAt w p ((mkV s xs xs.length).map (·.1))) (hcap : xs.length ≤ cap) (hs1 : 1 ≤ s) (hn : xs.length ≤ 1048576) (hb : s + 2 * xs.length + 5 * fsN (xs.map (·.1)) ≤ 16777210) :
    Calls Tryz.prog 73 #[.slice p xs.length cap, .int .i64 (s : Int)] w fun e w' => e = .returned (.int .i64 ((s + 2 * xs.length + 5 * fsN (xs.map (·.1)) : Nat) : Int)) ∧ Below w.heap.size w w' := by
  have HP : Hid (RwAt w p ((mkV s xs xs.length).map (·.1))) := hp
  have HLE : Hid (∀ k (hk : k < xs.length), fV xs (k + 1) = fV xs k + xs[k].1.fs.length ∧ fV xs (k + 1) ≤ fsN (xs.map (·.1))) := fun k hk => ⟨fV_step xs k hk, fV_le xs (k + 1)⟩
  have hAll : fV xs xs.length = fsN (xs.map (·.1)) := fV_all xs
  clear hp
  generalize hT : fsN (xs.map (·.1)) = T at *
  clear hT
  go_enter Tryz.func73, Tryz.ntmps73
  go_wp2_with fail
  go_loopw [5, 1] (fun i x wr => ∃ (k : Nat) (c : Nat), k ≤ xs.length ∧ i = .int .i64 k ∧ x = .int .i64 (c : Int) ∧ Hid (c = cV s xs k) ∧ Hid (Below w.heap.size w wr)) (fun i _ _ => xs.length - (intOf i).toNat)
  case atStart => exact ⟨0, s, Nat.zero_le _, rfl, rfl, rfl, Below.refl _ _⟩
  case round =>
    obtain ⟨k, c, hk, rfl, rfl, hc, hB⟩ := hrel
    by_cases hlt : k < xs.length
    · have i1 : (k : Int) < xs.length := by omega
      obtain ⟨l1, l2⟩ := HLE.out k hlt
      have hcc := hc.out
      have hcu : cV s xs k = s + 2 * k + 5 * fV xs k := rfl
      have hl0 : k < (mkV s xs xs.length).length := by rw [mkV_len]; exact hlt
      obtain ⟨b, off, q, cc, rfl, hb0, h0, h1, h2, hc5, hf⟩ := HP.out k (by rw [List.length_map]; exact hl0)
      have em : ((mkV s xs xs.length).map (·.1))[k]'(by rw [List.length_map]; exact hl0) = mkRw (cV s xs k) xs[k].1 := by rw [List.getElem_map, mkV_at s xs _ k hlt hl0, if_pos hlt]
      rw [em] at h0 h1 h2 hc5 hf
      have hfl : (mkRw (cV s xs k) xs[k].1).fs.length = xs[k].1.fs.length := by simp [mkRw, mfN_len]
      rw [hfl] at h2 hc5
      have hf2 : FldAt w q (mfN (c + 2) xs[k].1.fs.length) := by rw [hcc]; exact hf
      have HQ : Hid (∀ x, Below w.heap.size w x → x.cell? ⟨b, off + k * 3, none⟩ = some (.string (markB c)) ∧ x.cell? ⟨b, off + k * 3 + 1, none⟩ = some (.int .i64 ((c : Int) + 1)) ∧ x.cell? ⟨b, off + k * 3 + 2, none⟩ = some (.slice q xs[k].1.fs.length cc)) := fun x hx => by
        rw [hcc]
        exact ⟨(hx.cell (p := ⟨b, off + k * 3, none⟩) hb0).trans h0, (hx.cell (p := ⟨b, off + k * 3 + 1, none⟩) hb0).trans h1, (hx.cell (p := ⟨b, off + k * 3 + 2, none⟩) hb0).trans h2⟩
      have A1 : Hid (∀ z : Int, ∀ w, z = (c : Int) → Calls Tryz.prog 72 #[.int .i64 z] w fun e w' => e = .returned (.string (markB c)) ∧ Below w.heap.size w w') := fun z w hz => markText_int z _ hz w (by omega) (by omega)
      have A2 : Hid (∀ z : Int, ∀ x, z = (c : Int) + 1 + 1 → Below w.heap.size w x → Calls Tryz.prog 94 #[.slice q xs[k].1.fs.length cc, .int .i64 z] x fun e w' => e = .returned (.int .i64 (5 * (xs[k].1.fs.length : Int) + (c + 2 : Nat))) ∧ Below x.heap.size x w') := fun z x hz hx => by
        have := heldF_any (c + 2) (by omega) q cc xs[k].1.fs.length x (hf2.below hx) (by omega) hc5
        rw [show ((c + 2 : Nat) : Int) = z by omega] at this
        refine this.mono ?_
        rintro e y ⟨rfl, hg⟩
        exact ⟨by rw [show z = ((c + 2 : Nat) : Int) by omega], hg⟩
      have HN2 : Hid (5 * xs[k].1.fs.length + (c + 2) = cV s xs (k + 1)) := by show _ = _; have : cV s xs (k + 1) = s + 2 * (k + 1) + 5 * fV xs (k + 1) := rfl; omega
      have cb : c + 5 * xs[k].1.fs.length ≤ 16777210 := by omega
      clear l1 l2 hc hcu hcc hb0 h0 h1 h2 hc5 hf hf2 em hfl hl0
      generalize xs[k].1.fs.length = fk at *
      generalize markB c = M1 at *
      obtain ⟨c1, -, -⟩ := HQ.out wr hB.out
      go_wp2_with fail
      go_region_with (first | (go_at_call 72; refine (A1.out _ _ (by omega)).mono ?_; rintro e w2 ⟨rfl, b2⟩; have b2 : Below w.heap.size w w2 := chainB (by first | exact hB.out | exact hB.out.drew) b2; have c2 := (HQ.out w2 b2).1))
      all_goals
        have HB2 : Hid (Below w.heap.size w w2) := b2
        obtain ⟨-, c22, c23⟩ := HQ.out w2 HB2.out
        have hF := A2.out ((c : Int) + 1 + 1) w2 rfl HB2.out
        have dN : decide (5 * (fk : Int) + (c + 2 : Nat) < 0) = false := decide_eq_false (by omega)
        clear b2
        go_wp2_with fail
        refine hF.mono ?_
        rintro e w3 ⟨rfl, b3⟩
        have HB3 : Hid (Below w.heap.size w w3) := chainB HB2.out b3
        clear hF b3 c22 c23
        go_wp2_with fail
        go_roundw
        case rel => exact ⟨k + 1, 5 * fk + (c + 2), by omega, by go_num, by go_num, HN2.out, HB3.out⟩
        case measure => simp [intOf]; omega
    · obtain rfl : k = xs.length := by omega
      have HC : Hid (c = s + 2 * xs.length + 5 * T) := by rw [← hAll]; exact hc.out
      clear hc
      go_wp2_with fail
      go_ret
      exact ⟨ret_mark (by rw [HC.out]), hB.out⟩
end Go.Proofs.YthfecjjahoflcaaGreatDoor
/-
  What the laws' own helpers markLog, markLogOut, heldLog, heldLogOut and eqLogOut answer, and leave, for a log of its own memory.
-/
namespace Go.Proofs.YthfecjjahoflcaaGreatDoor
open Go.RowKit Go.Lib
set_option linter.unusedVariables false
set_option maxRecDepth 20000

theorem But.trans {S : Nat → Prop} {a b c : World} (h : But S a b) (k : But S b c) : But S a c :=
  ⟨k.os.trans h.os, k.tape.trans h.tape, k.output.trans h.output, Nat.le_trans h.size k.size, fun q hq hn => (k.block q (Nat.lt_of_lt_of_le hq h.size) hn).trans (h.block q hq hn)⟩
theorem But.wider {S T : Nat → Prop} {a b : World} (h : But S a b) (hs : ∀ k, S k → T k) : But T a b := ⟨h.os, h.tape, h.output, h.size, fun q hq hn => h.block q hq (fun e => hn (hs q e))⟩
theorem But.own {a b : World} {o : Option Nat} {S : Nat → Prop} (k : a.grownBy b o) (hs : ∀ q, o = some q → S q) : But S a b :=
  ⟨k.os, k.tape, k.output, k.size, fun q hq hn => k.block q hq (fun e => hn (hs q e.symm))⟩
theorem LgO.at {base : Nat} {xs : List (Rw × Value)} {rs : List Rw} {lv : List ByteArray} {v1 v2 : Value} {w : World} (h : LgO base xs lv v1 v2 w) (hx : xs.map (·.1) = rs) : ∃ q cq p cp, v1 = .slice q rs.length cq ∧ v2 = .slice p lv.length cp ∧ RwAt w q rs ∧ rs.length ≤ cq ∧ TxtAt w p lv ∧ lv.length ≤ cp := by
  obtain ⟨q, cq, e1, h1⟩ := h.rws.form
  obtain ⟨p, cp, e2, h2, h3⟩ := ownS_form h.lvs
  have hr := h.rws
  rw [e1] at hr
  have ha := hr.at
  subst hx
  rw [List.length_map]
  exact ⟨q, cq, p, cp, e1, e2, ha, h1, h3, h2⟩
/-- The blocks of a log of its own. -/
def lqS (xs : List (Rw × Value)) (v1 v2 : Value) (k : Nat) : Prop := rwS xs v1 k ∨ v2.ownBlock = some k
theorem lqS_from {base : Nat} {xs : List (Rw × Value)} {lv : List ByteArray} {v1 v2 : Value} {w : World} (h : LgO base xs lv v1 v2 w) {k : Nat} (hk : lqS xs v1 v2 k) : base ≤ k ∧ k < w.heap.size := by
  rcases hk with (h1 | ⟨x, hx, h1⟩) | h1
  · exact h.rws.own.lt k h1
  · exact (h.rws.fld x hx).lt k h1
  · exact h.lvs.lt k h1
def mkT (xs : List (Rw × Value)) : Nat := 1 + 2 * xs.length + 5 * fsN (xs.map (·.1))
/-- A log of its own that bears its marks. -/
def LgM (base : Nat) (xs : List (Rw × Value)) (m : Nat) (v1 v2 : Value) (w : World) : Prop := LgO base (mkV 1 xs xs.length) (marksN (mkT xs) m) v1 v2 w
theorem marksN_len (s n : Nat) : (marksN s n).length = n := by simp [marksN]
set_option maxHeartbeats 2000000 in
theorem markLogO_any (base : Nat) (xs : List (Rw × Value)) (lv : List ByteArray) (v1 v2 : Value) (now : Int) (w : World) (h : LgO base xs lv v1 v2 w) (hn : xs.length ≤ 1048576) (hb : mkT xs + lv.length ≤ 16777210) :
    Calls Tryz.prog 14 #[.agg #[v1, v2, .int .i64 now], .int .i64 1] w fun e w' => e = .returned (.int .i64 ((mkT xs + lv.length : Nat) : Int)) ∧ LgM base xs lv.length v1 v2 w' ∧ But (lqS xs v1 v2) w w' := by
  obtain ⟨W1, hW1⟩ : ∃ W1, W1 = w.alloc (.cells #[v1, v2, .int .i64 now] 33) := ⟨_, rfl⟩
  have HW1 : Hid (W1 = w.alloc (.cells #[v1, v2, .int .i64 now] 33)) := hW1
  have b1 : Below w.heap.size w W1 := by rw [hW1]; exact (Below.refl _ _).alloc (Nat.le_refl _) _
  have K1 : Hid (Bxs W1 w.heap.size 33 #[v1, v2, .int .i64 now]) := by rw [hW1]; exact Bxs.new _ _ _
  have h1 : LgO base xs lv v1 v2 W1 := h.below b1
  have hno : ¬ rwS xs v1 w.heap.size := fun hk => by have := (lqS_from h (.inl hk)).2; omega
  have hM : Calls Tryz.prog 42 #[v1, .int .i64 1] W1 fun e w' => e = .returned (.int .i64 ((mkT xs : Nat) : Int)) ∧ RwsO base (mkV 1 xs xs.length) v1 w' ∧ But (rwS xs v1) W1 w' := markRowO_any (rwS xs v1) base xs v1 1 W1 h1.rws (Nat.le_refl _) (fun k hk => hk) hn (by unfold mkT at hb; omega)
  have h2no : ∀ g, v2.ownBlock = some g → ¬ rwS xs v1 g := fun g hg hk => by
    rcases hk with h3 | ⟨x, hx, h3⟩
    · rcases own_apart h.lvs h.rws.own (by decide) with e | e
      · rw [e] at hg; cases hg
      · exact e (hg.trans h3.symm)
    · rcases own_apart h.lvs (h.rws.fld x hx) (by decide) with e | e
      · rw [e] at hg; cases hg
      · exact e (hg.trans h3.symm)
  have HG : Hid (∀ y, But (rwS xs v1) W1 y → RwsO base (mkV 1 xs xs.length) v1 y → Calls Tryz.prog 43 #[v2, .int .i64 ((mkT xs : Nat) : Int)] y fun e w' => e = .returned (.int .i64 ((mkT xs + lv.length : Nat) : Int)) ∧ LgM base xs lv.length v1 v2 w' ∧ But (lqS xs v1 v2) w w') := fun y hy hr => by
    have ho := ownS_but h1.lvs hy h2no
    refine (markG_any (mkT xs) (by unfold mkT; omega) base v2 lv y ho (by omega)).mono ?_
    rintro e z ⟨rfl, hz, hg⟩
    refine ⟨by rw [show ((lv.length : Int) + (mkT xs : Nat)) = ((mkT xs + lv.length : Nat) : Int) by omega], ⟨hr.kept hg (own_apart hr.own ho (by decide)) (fun x hx => own_apart (hr.fld x hx) ho (by decide)), by rw [marksN_len]; exact hz⟩, ?_⟩
    exact (((But.refl _ w).more b1).trans (hy.wider (fun k hk => .inl hk))).trans (But.own hg (fun q hq => .inr hq))
  have HKb : Hid (∀ y, But (rwS xs v1) W1 y → y.cell? ⟨w.heap.size, 1, none⟩ = some v2) := fun y hy => (K1.out.but hy hno).cell 1
  have c0 : W1.cell? ⟨w.heap.size, 0, none⟩ = some v1 := K1.out.cell 0
  obtain ⟨q, cq, p, cp, e1, e2, _⟩ := h.at rfl
  rw [List.length_map] at e1
  subst e1 e2
  clear hW1 b1 h h1 hno h2no hb hn
  generalize mkT xs = T at *
  go_enter Tryz.func14, Tryz.ntmps14
  go_upto_region 1 with fail
  rw [← HW1.out]
  go_wp2_with fail
  with_reducible refine hM.mono ?_
  rintro e y ⟨rfl, hr, hy⟩
  have hG := HG.out y hy hr
  have c1 := HKb.out y hy
  clear hM c0 hr hy
  go_wp2_with fail
  with_reducible refine hG.mono ?_
  rintro e z ⟨rfl, hl, hbz⟩
  have HL : Hid _ := hl
  have HB : Hid _ := hbz
  clear hl hbz hG c1
  go_wp2_with fail
  go_ret
  exact ⟨rfl, HL.out, HB.out⟩
set_option maxHeartbeats 2000000 in
theorem markLogOutO_any (base : Nat) (xs : List (Rw × Value)) (lv : List ByteArray) (v1 v2 : Value) (now C : Int) (w : World) (h : LgO base xs lv v1 v2 w) (hn : xs.length ≤ 1048576) (hb : mkT xs + lv.length ≤ 16777210) :
    Calls Tryz.prog 16 #[.agg #[v1, v2, .int .i64 now, .int .i64 C], .int .i64 1] w fun e w' => e = .returned (.int .i64 ((mkT xs + lv.length : Nat) : Int)) ∧ LgM base xs lv.length v1 v2 w' ∧ But (lqS xs v1 v2) w w' := by
  obtain ⟨W1, hW1⟩ : ∃ W1, W1 = w.alloc (.cells #[v1, v2, .int .i64 now, .int .i64 C] 35) := ⟨_, rfl⟩
  have HW1 : Hid (W1 = w.alloc (.cells #[v1, v2, .int .i64 now, .int .i64 C] 35)) := hW1
  have b1 : Below w.heap.size w W1 := by rw [hW1]; exact (Below.refl _ _).alloc (Nat.le_refl _) _
  have K1 : Bxs W1 w.heap.size 35 #[v1, v2, .int .i64 now, .int .i64 C] := by rw [hW1]; exact Bxs.new _ _ _
  have hM := markLogO_any base xs lv v1 v2 now W1 (h.below b1) hn hb
  have HB : Hid (∀ y, But (lqS xs v1 v2) W1 y → But (lqS xs v1 v2) w y) := fun y hy => ((But.refl _ w).more b1).trans hy
  obtain ⟨c0, c1, c2, c3⟩ := K1.four
  obtain ⟨q, cq, p, cp, e1, e2, _⟩ := h.at rfl
  rw [List.length_map] at e1
  subst e1 e2
  clear hW1 b1 h K1 hb hn
  generalize mkT xs = T at *
  go_enter Tryz.func16, Tryz.ntmps16
  go_upto_region 1 with fail
  rw [← HW1.out]
  go_wp2_with fail
  with_reducible refine hM.mono ?_
  rintro e z ⟨rfl, hl, hbz⟩
  have HL : Hid _ := hl
  have HBz : Hid _ := HB.out z hbz
  clear hl hbz hM c0 c1 c2 c3
  go_wp2_with fail
  go_ret
  exact ⟨rfl, HL.out, HBz.out⟩
theorem LgM.at {base : Nat} {xs : List (Rw × Value)} {m : Nat} {v1 v2 : Value} {w : World} (h : LgM base xs m v1 v2 w) : ∃ q cq p cp, v1 = .slice q xs.length cq ∧ v2 = .slice p m cp ∧ RwAt w q ((mkV 1 xs xs.length).map (·.1)) ∧ xs.length ≤ cq ∧ TxtAt w p (marksN (mkT xs) m) ∧ m ≤ cp := by
  obtain ⟨q, cq, p, cp, e1, e2, h1, h2, h3, h4⟩ := LgO.at h rfl
  rw [List.length_map, mkV_len] at e1 h2
  rw [marksN_len] at e2 h4
  exact ⟨q, cq, p, cp, e1, e2, h1, h2, h3, h4⟩
theorem LgM.below {base : Nat} {xs : List (Rw × Value)} {m : Nat} {v1 v2 : Value} {w w' : World} (h : LgM base xs m v1 v2 w) (hb : Below w.heap.size w w') : LgM base xs m v1 v2 w' := LgO.below h hb
set_option maxHeartbeats 2000000 in
theorem heldLogOutO_any (base : Nat) (xs : List (Rw × Value)) (m : Nat) (v1 v2 : Value) (now C : Int) (w : World) (h : LgM base xs m v1 v2 w) (hn : xs.length ≤ 1048576) (hb : mkT xs + m ≤ 16777210) :
    Calls Tryz.prog 17 #[.agg #[v1, v2, .int .i64 now, .int .i64 C], .int .i64 1] w fun e w' => e = .returned (.int .i64 ((mkT xs + m : Nat) : Int)) ∧ Below w.heap.size w w' := by
  have HLg : Hid (∀ x, Below w.heap.size w x → Calls Tryz.prog 45 #[.agg #[v1, v2, .int .i64 now], .int .i64 1] x fun e w' => e = .returned (.int .i64 ((mkT xs + m : Nat) : Int)) ∧ Below x.heap.size x w') := fun x hx => by
    have h' := h.below hx
    obtain ⟨q, cq, p, cp, rfl, rfl, h1, h2, h3, h4⟩ := h'.at
    obtain ⟨W1, hW1⟩ : ∃ W1, W1 = x.alloc (.cells #[.slice q xs.length cq, .slice p m cp, .int .i64 now] 33) := ⟨_, rfl⟩
    have HW1 : Hid (W1 = x.alloc (.cells #[.slice q xs.length cq, .slice p m cp, .int .i64 now] 33)) := hW1
    have b1 : Below x.heap.size x W1 := by rw [hW1]; exact (Below.refl _ _).alloc (Nat.le_refl _) _
    have B1 : Hid (Below x.heap.size x W1) := b1
    have K1 : Hid (Bxs W1 x.heap.size 33 #[.slice q xs.length cq, .slice p m cp, .int .i64 now]) := by rw [hW1]; exact Bxs.new _ _ _
    have hR : Calls Tryz.prog 73 #[.slice q xs.length cq, .int .i64 1] W1 fun e w' => e = .returned (.int .i64 ((mkT xs : Nat) : Int)) ∧ Below W1.heap.size W1 w' := heldRowO_any q cq xs 1 W1 (h1.below b1) h2 (Nat.le_refl _) hn (by unfold mkT at hb; omega)
    have HS : Hid (∀ y, Below W1.heap.size W1 y → Calls Tryz.prog 74 #[.slice p m cp, .int .i64 ((mkT xs : Nat) : Int)] y fun e w' => e = .returned (.int .i64 ((mkT xs + m : Nat) : Int)) ∧ Below y.heap.size y w') := fun y hy => by
      refine (heldG_any (mkT xs) (by unfold mkT; omega) p cp m y ((h3.below b1).below hy) (by omega) h4).mono ?_
      rintro e z ⟨rfl, hz⟩
      exact ⟨by rw [show ((m : Int) + (mkT xs : Nat)) = ((mkT xs + m : Nat) : Int) by omega], hz⟩
    have d1 : decide (((mkT xs : Nat) : Int) < 0) = false := decide_eq_false (by omega)
    have d2 : decide (((mkT xs + m : Nat) : Int) < 0) = false := decide_eq_false (by omega)
    have c0 : W1.cell? ⟨x.heap.size, 0, none⟩ = some (.slice q xs.length cq) := K1.out.cell 0
    clear hW1 b1 h h' h1 h2 h3 h4 hx hb hn
    generalize mkT xs = T at *
    go_enter Tryz.func45, Tryz.ntmps45
    go_upto_region 1 with fail
    rw [← HW1.out]
    go_wp2_with fail
    with_reducible refine hR.mono ?_
    rintro e y ⟨rfl, by1⟩
    have c1 : y.cell? ⟨x.heap.size, 1, none⟩ = some (.slice p m cp) := (K1.out.below by1).cell 1
    have hS := HS.out y by1
    have BY : Hid (Below x.heap.size x y) := chainB B1.out by1
    clear hR c0 by1
    go_wp2_with fail
    with_reducible refine hS.mono ?_
    rintro e z ⟨rfl, bz⟩
    go_wp2_with fail
    go_ret
    exact ⟨rfl, chainB BY.out bz⟩
  obtain ⟨W1, hW1⟩ : ∃ W1, W1 = w.alloc (.cells #[v1, v2, .int .i64 now, .int .i64 C] 35) := ⟨_, rfl⟩
  have HW1 : Hid (W1 = w.alloc (.cells #[v1, v2, .int .i64 now, .int .i64 C] 35)) := hW1
  have b1 : Below w.heap.size w W1 := by rw [hW1]; exact (Below.refl _ _).alloc (Nat.le_refl _) _
  have B1 : Hid (Below w.heap.size w W1) := b1
  have K1 : Bxs W1 w.heap.size 35 #[v1, v2, .int .i64 now, .int .i64 C] := by rw [hW1]; exact Bxs.new _ _ _
  obtain ⟨c0, c1, c2, c3⟩ := K1.four
  have hL := HLg.out W1 b1
  have d2 : decide (((mkT xs + m : Nat) : Int) < 0) = false := decide_eq_false (by omega)
  obtain ⟨q, cq, p, cp, e1, e2, _⟩ := h.at
  subst e1 e2
  clear hW1 b1 h K1 hb hn HLg
  generalize mkT xs + m = T at *
  go_enter Tryz.func17, Tryz.ntmps17
  go_upto_region 1 with fail
  rw [← HW1.out]
  go_wp2_with fail
  with_reducible refine hL.mono ?_
  rintro e z ⟨rfl, bz⟩
  clear c0 c1 c2 c3
  go_wp2_with fail
  go_ret
  exact ⟨rfl, chainB B1.out bz⟩
set_option maxHeartbeats 2000000 in
theorem eqLogOut_any (base base' : Nat) (xs xs' : List (Rw × Value)) (rs : List Rw) (lv : List ByteArray) (v1 v2 u1 u2 : Value) (now C : Int) (w : World) (h : LgO base xs lv v1 v2 w) (h' : LgO base' xs' lv u1 u2 w) (hx : xs.map (·.1) = rs) (hx' : xs'.map (·.1) = rs) (hn : rs.length ≤ 1048576) (hf : ∀ x ∈ rs, x.fs.length ≤ 1048576) (hl : lv.length ≤ 1048576) :
    Calls Tryz.prog 11 #[.agg #[v1, v2, .int .i64 now, .int .i64 C], .agg #[u1, u2, .int .i64 now, .int .i64 C]] w fun e w' => e = .returned (.bool true) ∧ Below w.heap.size w w' := by
  obtain ⟨q, cq, p, cp, rfl, rfl, a1, a2, a3, a4⟩ := h.at hx
  obtain ⟨q', cq', p', cp', rfl, rfl, b1, b2, b3, b4⟩ := h'.at hx'
  obtain ⟨W2, hW2⟩ : ∃ W2, W2 = (w.alloc (.cells #[.slice q rs.length cq, .slice p lv.length cp, .int .i64 now, .int .i64 C] 35)).alloc (.cells #[.slice q' rs.length cq', .slice p' lv.length cp', .int .i64 now, .int .i64 C] 35) := ⟨_, rfl⟩
  have HW2 : Hid (W2 = (w.alloc (.cells #[.slice q rs.length cq, .slice p lv.length cp, .int .i64 now, .int .i64 C] 35)).alloc (.cells #[.slice q' rs.length cq', .slice p' lv.length cp', .int .i64 now, .int .i64 C] 35)) := hW2
  have bb : Below w.heap.size w W2 := by rw [hW2]; exact alB ((Below.refl _ _).alloc (Nat.le_refl _) _) _
  have B2 : Hid (Below w.heap.size w W2) := bb
  have K1 : Hid (Bxs W2 w.heap.size 35 #[.slice q rs.length cq, .slice p lv.length cp, .int .i64 now, .int .i64 C]) := by rw [hW2]; exact (Bxs.new _ _ _).alloc _
  have K2 : Hid (Bxs W2 (w.heap.size + 1) 35 #[.slice q' rs.length cq', .slice p' lv.length cp', .int .i64 now, .int .i64 C]) := by
    rw [hW2]
    have h := Bxs.new (w.alloc (.cells #[.slice q rs.length cq, .slice p lv.length cp, .int .i64 now, .int .i64 C] 35)) 35 #[.slice q' rs.length cq', .slice p' lv.length cp', .int .i64 now, .int .i64 C]
    rwa [szA] at h
  have hE := eqLog_any q q' cq cq' rs p p' cp cp' lv now W2 (a1.below bb) (b1.below bb) hn a2 b2 hf (a3.below bb) (b3.below bb) hl a4 b4
  clear hW2 bb h h' hx hx' a1 a2 a3 a4 b1 b2 b3 b4 hf
  obtain ⟨x0, x1, x2, x3⟩ := K1.out.four
  obtain ⟨y0, y1, y2, y3⟩ := K2.out.four
  go_enter Tryz.func11, Tryz.ntmps11
  go_upto_region 1 with fail
  rw [← HW2.out]
  go_wp2_with fail
  with_reducible refine hE.mono ?_
  rintro e z ⟨rfl, bz⟩
  clear x0 x1 x2 x3 y0 y1 y2 y3
  obtain ⟨x0, x1, x2, x3⟩ := (K1.out.below bz).four
  obtain ⟨y0, y1, y2, y3⟩ := (K2.out.below bz).four
  go_wp2_with fail
  go_ret
  exact ⟨rfl, chainB B2.out bz⟩
end Go.Proofs.YthfecjjahoflcaaGreatDoor
/-
  What is told of a log, in plain mathematics: the place of a row's leaf, the code and the status of a field.
-/
namespace Go.Proofs.YthfecjjahoflcaaGreatDoor
open Go.RowKit Go.Lib
set_option linter.unusedVariables false

def plFrom (row : Int) : Nat → Nat → List ByteArray → Int
  | _, _, [] => -1
  | n, i, t :: ts => if isRl t = true then (if (n : Int) = row then (i : Int) else plFrom row (n + 1) (i + 1) ts) else plFrom row n (i + 1) ts
def plB (lv : List ByteArray) (row : Int) : Int := plFrom row 0 0 lv
def plO (rs : List Rw) (lv : List ByteArray) (now r : Int) : Int := if lgB rs lv now = true then plB lv r else -1
def tbO (rs : List Rw) (lv : List ByteArray) (now r f : Int) : Int := if lgB rs lv now = true then tbAt lv r f else -1
/-- The code of a field: it is there, it is gone, there is none. -/
def fcO (rs : List Rw) (r f : Int) : Int := if 0 ≤ r ∧ r ≤ (rs.length : Int) - 1 then (if 0 ≤ f ∧ f ≤ ((rs.getD r.toNat rwZ).fs.length : Int) - 1 then (if (fldOf rs r f).g = true then 7 else 0) else 6) else 6
def gcO (rs : List Rw) (lv : List ByteArray) (now r f : Int) : Int := if lgB rs lv now = true then fcO rs r f else 1
def stC (c : Int) : Int := if c = 0 then 1 else if c = 7 then 2 else 0
def stO (rs : List Rw) (lv : List ByteArray) (now r f : Int) : Int := if lgB rs lv now = true then stC (fcO rs r f) else 0
theorem stO_gc (rs : List Rw) (lv : List ByteArray) (now r f : Int) : stO rs lv now r f = stC (gcO rs lv now r f) := by
  unfold stO gcO
  split
  · rfl
  · rfl
theorem fcO_cases (rs : List Rw) (r f : Int) : fcO rs r f = 0 ∨ fcO rs r f = 7 ∨ fcO rs r f = 6 := by
  unfold fcO
  split
  · split
    · split
      · exact .inr (.inl rfl)
      · exact .inl rfl
    · exact .inr (.inr rfl)
  · exact .inr (.inr rfl)
theorem lg_right {rs : List Rw} {lv : List ByteArray} {now : Int} (h : lgB rs lv now = true) : rs.length ≤ 6 ∧ lv.length ≤ 64 ∧ (∀ r ∈ rs, rB r = true) := by
  unfold lgB at h
  simp only [Bool.and_eq_true, decide_eq_true_iff] at h
  refine ⟨h.1, h.2.1, fun r hr => ?_⟩
  have h2 := h.2.2.2.1
  unfold rsB at h2
  rw [List.all_eq_true] at h2
  exact (Bool.and_eq_true_iff.1 (h2 r hr)).1
end Go.Proofs.YthfecjjahoflcaaGreatDoor
/-
  The root of a log's first leaves and its head, in plain mathematics; the leaves of a right log are small.
-/
namespace Go.Proofs.YthfecjjahoflcaaGreatDoor
open Go.RowKit Go.Lib
set_option linter.unusedVariables false

def roO (rs : List Rw) (lv : List ByteArray) (now n : Int) : ByteArray := if lgB rs lv now = true then (if 0 ≤ n ∧ n ≤ (lv.length : Int) then treeB (lv.take n.toNat) else ByteArray.empty) else ByteArray.empty
def hdB (lv : List ByteArray) : ByteArray := putB (lv.length : Int) ++ putTextB (treeB lv)
def hdO (rs : List Rw) (lv : List ByteArray) (now : Int) : ByteArray := if lgB rs lv now = true then hdB lv else ByteArray.empty
theorem go_small (rs : List Rw) (now : Int) : ∀ (suf pre : List ByteArray) (n n' : Nat), cGo rs now pre n suf = some n' → ∀ t ∈ suf, t.size ≤ 100
  | [], _, _, _, _ => fun t h => by cases h
  | t :: ts, pre, n, n', h => by
    rw [cGo] at h
    have each : ∀ {m : Nat} {q : List ByteArray}, t.size ≤ 100 → cGo rs now q m ts = some n' → ∀ x ∈ t :: ts, x.size ≤ 100 := fun ht hc x hx => by
      rcases List.mem_cons.1 hx with rfl | hx
      · exact ht
      · exact go_small rs now ts _ _ _ hc x hx
    split at h
    · rename_i hn
      refine each ?_ h
      rw [((nx_iff _ _ _).1 hn).2]
      unfold rlB
      rw [ByteArray.size_append, digB_size]
      show 1 + 32 ≤ 100
      omega
    · split at h
      · rename_i hn ho
        refine each ?_ h
        unfold okT at ho
        simp only [Bool.and_eq_true, decide_eq_true_iff] at ho
        obtain ⟨-, -, hR, -⟩ := tr_sound ho.1
        have := (tmRaw_size (trT t)).2
        rw [hR] at this
        omega
      · cases h
theorem lg_small {rs : List Rw} {lv : List ByteArray} {now : Int} (h : lgB rs lv now = true) : ∀ t ∈ lv, t.size ≤ 100 := by
  rw [lg_eq] at h
  unfold imB at h
  simp only [Bool.and_eq_true] at h
  cases hc : cGo rs now [] 0 lv with
  | none => rw [hc] at h; exact absurd h.2.2 (by simp)
  | some n => exact go_small rs now lv [] 0 n hc
theorem ent_take {lv : List ByteArray} (h1 : lv.length ≤ 64) (h2 : ∀ t ∈ lv, t.size ≤ 100) (k : Nat) : entB (lv.take k) = true :=
  entB_true (by simp; omega) (fun j hj => h2 _ (List.mem_of_mem_take (List.getElem_mem hj)))
theorem rtSize (wx : World) : (sizeOf (Tryz.prog.elem 23)).run Tryz.prog wx = .ok 1 wx := by kernel_rfl
theorem rtElem : Tryz.prog.underlying 23 = some (.slice (Tryz.prog.elem 23)) := by kernel_rfl
theorem sl_to (q : Option Addr) (n c k : Nat) (hk : k ≤ c) (wx : World) : (Instr.slice 23 (.slice q n c) none (some (.int .i64 (k : Int))) none).run Tryz.prog wx = .ok (.slice q k c) wx := by
  rw [run_slice_h (P := Tryz.prog) wx 23 q n c rtElem .i64 (k : Int) (by omega) (by omega), rtSize]
  cases q <;> simp [sliced, Result.andThen, Addr.add]
theorem rtSizeL (wx : World) : (sizeOf (Tryz.prog.elem 73)).run Tryz.prog wx = .ok 1 wx := by kernel_rfl
theorem rtElemL : Tryz.prog.underlying 73 = some (.slice (Tryz.prog.elem 73)) := by kernel_rfl
theorem sl_lv (q : Option Addr) (n c k : Nat) (hk : k ≤ c) (wx : World) : (Instr.slice 73 (.slice q n c) none (some (.int .i64 (k : Int))) none).run Tryz.prog wx = .ok (.slice q k c) wx := by
  rw [run_slice_h (P := Tryz.prog) wx 73 q n c rtElemL .i64 (k : Int) (by omega) (by omega), rtSizeL]
  cases q <;> simp [sliced, Result.andThen, Addr.add]
theorem putTextB_32 {t : ByteArray} (h : t.size = 32) : (putTextB t).size ≤ 42 := by
  have := putTextB_le t (by omega)
  omega
end Go.Proofs.YthfecjjahoflcaaGreatDoor
/-
  A LogOut in new memory; what LogTime answers (plain).
-/
namespace Go.Proofs.YthfecjjahoflcaaGreatDoor
open Go.RowKit Go.Lib
set_option linter.unusedVariables false
set_option maxRecDepth 20000

/-- A LogOut of its own memory. -/
def LgA (base : Nat) (rs : List Rw) (lv : List ByteArray) (now C : Int) (e : Ending) (w : World) : Prop := ∃ v1 v2 xs, e = .returned (.agg #[v1, v2, .int .i64 now, .int .i64 C]) ∧ xs.map (·.1) = rs ∧ LgO base xs lv v1 v2 w
theorem LgA.ill (base : Nat) (C : Int) (w : World) : LgA base [] [] 0 C (.returned (.agg #[.slice none 0 0, .slice none 0 0, .int .i64 0, .int .i64 C])) w := ⟨_, _, [], rfl, rfl, LgO.nil _ _⟩
def mxB (a b : Int) : Int := if a < b then b else a
def ltB (rs : List Rw) (lv : List ByteArray) (now t : Int) : Bool := lgB rs lv now && timeB t
def ltC (rs : List Rw) (lv : List ByteArray) (now t : Int) : Int := if ltB rs lv now t = true then 0 else 1
def ltR (rs : List Rw) (lv : List ByteArray) (now t : Int) : List Rw := if ltB rs lv now t = true then rs else []
def ltL (rs : List Rw) (lv : List ByteArray) (now t : Int) : List ByteArray := if ltB rs lv now t = true then lv else []
def ltN (rs : List Rw) (lv : List ByteArray) (now t : Int) : Int := if ltB rs lv now t = true then mxB now t else 0
/-- The log's box and the answer's, as LogTime begins. -/
structure LtB (w : World) (q : Option Addr) (n cq : Nat) (p : Option Addr) (m cp : Nat) (now : Int) (x : World) : Prop where
  lg : Bxs x w.heap.size 33 #[.slice q n cq, .slice p m cp, .int .i64 now]
  rs : Bxs x (w.heap.size + 1) 35 #[.slice none 0 0, .slice none 0 0, .int .i64 0, .int .i64 0]
  bel : Below w.heap.size w x
theorem LtB.below {w x y : World} {q : Option Addr} {n cq : Nat} {p : Option Addr} {m cp : Nat} {now : Int} (h : LtB w q n cq p m cp now x) (hb : Below x.heap.size x y) : LtB w q n cq p m cp now y := ⟨h.lg.below hb, h.rs.below hb, chainB h.bel hb⟩
theorem LtB.thr {w x : World} {q : Option Addr} {n cq : Nat} {p : Option Addr} {m cp : Nat} {now : Int} (h : LtB w q n cq p m cp now x) : x.cell? ⟨w.heap.size, 0, none⟩ = some (.slice q n cq) ∧ x.cell? ⟨w.heap.size, 1, none⟩ = some (.slice p m cp) ∧ x.cell? ⟨w.heap.size, 2, none⟩ = some (.int .i64 now) := ⟨h.lg.cell 0, h.lg.cell 1, h.lg.cell 2⟩
theorem LtB.res {w x : World} {q : Option Addr} {n cq : Nat} {p : Option Addr} {m cp : Nat} {now : Int} (h : LtB w q n cq p m cp now x) : x.cell? ⟨w.heap.size + 1, 0, none⟩ = some (.slice none 0 0) ∧ x.cell? ⟨w.heap.size + 1, 1, none⟩ = some (.slice none 0 0) ∧ x.cell? ⟨w.heap.size + 1, 2, none⟩ = some (.int .i64 0) ∧ x.cell? ⟨w.heap.size + 1, 3, none⟩ = some (.int .i64 0) ∧ x.frozen? ⟨w.heap.size + 1, 0, none⟩ = false ∧ x.frozen? ⟨w.heap.size + 1, 1, none⟩ = false ∧ x.frozen? ⟨w.heap.size + 1, 2, none⟩ = false ∧ x.frozen? ⟨w.heap.size + 1, 3, none⟩ = false := ⟨h.rs.cell 0, h.rs.cell 1, h.rs.cell 2, h.rs.cell 3, h.rs.fr 0, h.rs.fr 1, h.rs.fr 2, h.rs.fr 3⟩
/-- The answer is written into its box: what a log of its own is stays one. -/
theorem LtB.put {w x y : World} {base : Nat} {q : Option Addr} {n cq : Nat} {p : Option Addr} {m cp : Nat} {now : Int} (h : Bxs x (w.heap.size + 1) 35 #[.slice none 0 0, .slice none 0 0, .int .i64 0, .int .i64 0]) (hb : Below w.heap.size w x) {xs : List (Rw × Value)} {lv : List ByteArray} {v1 v2 : Value} (o : LgO base xs lv v1 v2 x) (u0 u1 u2 u3 : Value) :
    Bxs ((((x.setCell ⟨w.heap.size + 1, 0, none⟩ u0).setCell ⟨w.heap.size + 1, 1, none⟩ u1).setCell ⟨w.heap.size + 1, 2, none⟩ u2).setCell ⟨w.heap.size + 1, 3, none⟩ u3) (w.heap.size + 1) 35 #[u0, u1, u2, u3] ∧ LgO base xs lv v1 v2 ((((x.setCell ⟨w.heap.size + 1, 0, none⟩ u0).setCell ⟨w.heap.size + 1, 1, none⟩ u1).setCell ⟨w.heap.size + 1, 2, none⟩ u2).setCell ⟨w.heap.size + 1, 3, none⟩ u3) ∧ Below w.heap.size w ((((x.setCell ⟨w.heap.size + 1, 0, none⟩ u0).setCell ⟨w.heap.size + 1, 1, none⟩ u1).setCell ⟨w.heap.size + 1, 2, none⟩ u2).setCell ⟨w.heap.size + 1, 3, none⟩ u3) :=
  ⟨(((h.set 0 _).set 1 _).set 2 _).set 3 _, (((o.box h (by decide) (by decide) (by decide) (set_grw x _ 0 u0)).box (h.set 0 u0) (by decide) (by decide) (by decide) (set_grw _ _ 1 u1)).box ((h.set 0 u0).set 1 u1) (by decide) (by decide) (by decide) (set_grw _ _ 2 u2)).box (((h.set 0 u0).set 1 u1).set 2 u2) (by decide) (by decide) (by decide) (set_grw _ _ 3 u3), below_set4 hb (by omega) _ _ _ _⟩
theorem lt_boxes (w : World) (q : Option Addr) (n cq : Nat) (p : Option Addr) (m cp : Nat) (now : Int) {W2 : World} (h : W2 = (w.alloc (.cells #[.slice q n cq, .slice p m cp, .int .i64 now] 33)).alloc (.cells #[.slice none 0 0, .slice none 0 0, .int .i64 0, .int .i64 0] 35)) : LtB w q n cq p m cp now W2 := by
  subst h
  have h := Bxs.new (w.alloc (.cells #[.slice q n cq, .slice p m cp, .int .i64 now] 33)) 35 #[.slice none 0 0, .slice none 0 0, .int .i64 0, .int .i64 0]
  rw [szA] at h
  exact ⟨(Bxs.new _ _ _).alloc _, h, alB ((Below.refl _ _).alloc (Nat.le_refl _) _) _⟩
end Go.Proofs.YthfecjjahoflcaaGreatDoor
/-
  What stays while a log and a LogOut are marked, in the walk of a law whose answer is a log.
-/
namespace Go.Proofs.YthfecjjahoflcaaGreatDoor
open Go.RowKit Go.Lib
set_option linter.unusedVariables false

theorem LgO.but {S : Nat → Prop} {base : Nat} {xs : List (Rw × Value)} {lv : List ByteArray} {v1 v2 : Value} {w w' : World} (h : LgO base xs lv v1 v2 w) (k : But S w w') (hn : ∀ q, lqS xs v1 v2 q → ¬ S q) : LgO base xs lv v1 v2 w' :=
  ⟨⟨ownS_but h.rws.own k (fun g hg => hn g (.inl (.inl hg))), fun x hx => ownS_but (h.rws.fld x hx) k (fun g hg => hn g (.inl (.inr ⟨x, hx, hg⟩))), h.rws.ne⟩, ownS_but h.lvs k (fun g hg => hn g (.inr hg))⟩
theorem lt_sum {rs : List Rw} {lv : List ByteArray} {now t : Int} {N : Nat} (h : rs.length + fsN rs + lv.length ≤ N) : (ltR rs lv now t).length + fsN (ltR rs lv now t) + (ltL rs lv now t).length ≤ N := by
  unfold ltR ltL
  split
  · exact h
  · simp [fsN]
/-- What stays: the argument's box, two boxes of answers, a log of its own. -/
structure LtK (w : World) (A : Array Value) (E1 E8 : Nat) (c1 c8 : Array Value) (xs : List (Rw × Value)) (lv : List ByteArray) (v1 v2 : Value) (x : World) : Prop where
  bel : Below w.heap.size w x
  ba : Bxs x w.heap.size 25 A
  b1 : Bxs x E1 35 c1
  b8 : Bxs x E8 35 c8
  lw : LgO w.heap.size xs lv v1 v2 x
section
variable {w x y : World} {A c1 c8 : Array Value} {E1 E8 : Nat} {xs : List (Rw × Value)} {lv : List ByteArray} {v1 v2 : Value}
theorem LtK.below (h : LtK w A E1 E8 c1 c8 xs lv v1 v2 x) (hb : Below x.heap.size x y) : LtK w A E1 E8 c1 c8 xs lv v1 v2 y := ⟨chainB h.bel hb, h.ba.below hb, h.b1.below hb, h.b8.below hb, h.lw.below hb⟩
theorem LtK.but {S : Nat → Prop} (h : LtK w A E1 E8 c1 c8 xs lv v1 v2 x) (k : But S x y) (hS : ∀ q, S q → w.heap.size < q ∧ q ≠ E1 ∧ q ≠ E8 ∧ ¬ lqS xs v1 v2 q) : LtK w A E1 E8 c1 c8 xs lv v1 v2 y :=
  ⟨k.below h.bel h.bel.size (fun q hq => Nat.le_of_lt (hS q hq).1), h.ba.but k (fun e => by have := (hS _ e).1; omega), h.b1.but k (fun e => (hS _ e).2.1 rfl), h.b8.but k (fun e => (hS _ e).2.2.1 rfl), h.lw.but k (fun q hq hs => (hS q hs).2.2.2 hq)⟩
end
end Go.Proofs.YthfecjjahoflcaaGreatDoor
