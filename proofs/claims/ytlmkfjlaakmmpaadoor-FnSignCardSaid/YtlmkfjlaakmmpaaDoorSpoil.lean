/-
  What l03Spoil makes of a list of digests: a list of few and small texts, in new memory. The source's block alone is written.
  Conditions: the source is one ('Src'); each text of the list is 32 bytes.
-/
import Derived.Test.YtlmkfjlaakmmpaaDoorRows
import Derived.Test.YtlmkfjlaakmmpaaDoorBytes
import Derived.Test.YtlmkfjlaakmmpaaDoorDigMath
import Derived.Test.YtlmkfjlaakmmpaaDoorOwnBPadI
import Derived.Test.YtlmkfjlaakmmpaaDoorDrawTreeDigest
import Derived.Test.YtlmkfjlaakmmpaaDoorSlA
import Derived.Test.YtlmkfjlaakmmpaaDoorSlBOwnS
import Derived.Test.YtlmkfjlaakmmpaaDoorAppS
import Derived.Test.YtlmkfjlaakmmpaaDoorSrcDrawsDrawKit
import Derived.Test.YtlmkfjlaakmmpaaDoorSome
import Derived.Handy
import Derived.WalkSpells
import Derived.OwnWalk
namespace Go.Proofs.YtlmkfjlaakmmpaaDoor
open Go.RowKit Go.Lib
set_option linter.unusedVariables false
set_option maxRecDepth 20000

/-- Few and small texts, to be read. -/
def Few (w : World) (v : Value) (L : List ByteArray) : Prop := ∃ q cq, v = .slice q L.length cq ∧ L.length ≤ cq ∧ TxtAt w q L ∧ L.length ≤ 65 ∧ ∀ x ∈ L, x.size ≤ 32
theorem own_few {w : World} {base : Nat} {v : Value} {L : List ByteArray} (h : w.ownsRow base 9 1 v L.length (strRow L)) (hl : L.length ≤ 65) (hs : ∀ x ∈ L, x.size ≤ 32) : Few w v L := by
  obtain ⟨q, cq, rfl, h1, h2⟩ := ownS_form h
  exact ⟨q, cq, rfl, h1, h2, hl, hs⟩
theorem digestB_le (t : ByteArray) : (digestB t).size ≤ 32 := by
  unfold digestB; split
  · rw [digB_size]; omega
  · simp

theorem TxtAt.put {w : World} {g : Nat} {ss : List ByteArray} (h : TxtAt w (some ⟨g, 0, none⟩) ss) (k : Nat) (hk : k < ss.length) (s : ByteArray) : TxtAt (w.setCell ⟨g, k, none⟩ (.string s)) (some ⟨g, 0, none⟩) (ss.set k s) := by
  intro i hi
  have hi2 : i < ss.length := by simpa using hi
  obtain ⟨b, off, h0, h1, h2⟩ := h i hi2
  cases h0
  refine ⟨g, 0, rfl, by simpa [World.setCell] using h1, ?_⟩
  rw [Nat.zero_add] at h2 ⊢
  by_cases he : k = i
  · subst he
    rw [World.cell?_setCell_same _ _ _ h2]; simp
  · rw [World.cell?_setCell_other _ _ _ _ (fun e => he (by cases e; rfl)), h2]; simp [he]
/-- An own row that is not empty: its block, its cells, nothing of it frozen. -/
theorem ownS_at {w : World} {base : Nat} {q : Option Addr} {c : Nat} {l : List ByteArray} (h : w.ownsRow base 9 1 (.slice q l.length c) l.length (strRow l)) (hl : 0 < l.length) :
    ∃ g, q = some ⟨g, 0, none⟩ ∧ base ≤ g ∧ g < w.heap.size ∧ TxtAt w (some ⟨g, 0, none⟩) l ∧ ∀ i, w.frozen? ⟨g, i, none⟩ = false := by
  rcases h.2 with ⟨h1, h0⟩ | ⟨g, cap, cur, h1, h2, h3, h4⟩
  · omega
  · cases h1
    obtain ⟨q', c', e1, e2, e3⟩ := ownS_form h
    cases e1
    exact ⟨g, rfl, h2, lt_of_block h3, e3, fun i => by simp [World.frozen?, h3]⟩

set_option maxHeartbeats 4000000 in
theorem spoilS_any (B p : Nat) (a : Option Addr) (len cap : Nat) (q : Option Addr) (cq : Nat) (ss : List ByteArray) (w : World) (hs : Src 117 B p a len cap w) (hq : TxtAt w q ss) (hcq : ss.length ≤ cq) (hl : ss.length ≤ 64) (h32 : ∀ x ∈ ss, x.size = 32) :
    Calls Tryd.prog 88 #[.pointer (some ⟨p, 0, none⟩), .slice q ss.length cq] w fun e w' =>
      (∃ (v : Value) (L : List ByteArray), e = .returned v ∧ Few w' v L) ∧ Src 117 B p a len cap w' ∧ w.grownBy w' (some p) := by
  have hp := hs.lt
  obtain ⟨i0, hi, hy0, hy1, hy2⟩ := info_parts infoStr
  obtain ⟨v1, w1, hr1, ho1, hg1⟩ := app_texts (w.alloc (.cells #[] 9)) w.heap.size _ [] (ownS_none w) q cq ss (hq.below ((Below.refl _ _).alloc (Nat.le_refl _) _)) (by simp; omega) (by simp)
  rw [List.nil_append] at ho1
  have hrow : ∀ j, (Value.slice (some ⟨w.heap.size, 0, none⟩) 0 0).ownBlock = some j → w.heap.size ≤ j := fun j hj => ((ownS_none w).lt j hj).1
  have HS1 : Hid (Src 117 B p a len cap w1) := (hs.below ((Below.refl _ _).alloc (Nat.le_refl _) _)).other hg1 (fun j hj => by have := hrow j hj; omega)
  have HG1 : Hid (w.grownBy w1 (some p)) := touch_own (touch_below (World.grownBy.refl _ _) ((Below.refl _ _).alloc (Nat.le_refl _) _)) hg1 hrow
  have H32 : Hid (∀ x ∈ ss, x.size = 32) := h32
  have HF : Hid (∀ x ∈ ss, x.size ≤ 32) := fun x hx => by rw [h32 x hx]; omega
  obtain ⟨q1, c1, rfl, hc1, ht1⟩ := ownS_form ho1
  have HO1 : Hid (w1.ownsRow w.heap.size 9 1 (.slice q1 ss.length c1) ss.length (strRow ss)) := ho1
  clear hs hq h32 hg1 ho1 ht1
  go_enter Tryd.func88, Tryd.ntmps88
  go_wp2_with (at_builtin; refine wpList_append_run rfl _ _ _ rfl _ _ _ _ rfl rfl hr1 ?_)
  refine (n_any B p a len cap 4 _ HS1.out (by omega)).mono ?_
  rintro e w2 ⟨⟨r, rfl, r0, r1, _⟩, hs2, hg2⟩
  have r2 := r1 (by omega)
  have HO2 : Hid (w2.ownsRow w.heap.size 9 1 (.slice q1 ss.length c1) ss.length (strRow ss)) := HO1.out.kept hg2 (.inr (fun e => by have := (HO1.out.lt p e).1; omega))
  have HG2 : Hid (w.grownBy w2 (some p)) := touch_trans HG1.out hg2
  have HS2 : Hid (Src 117 B p a len cap w2) := hs2
  have hsz2 := HG2.out.size
  clear hs2 hg2 HO1 HG1 HS1 r1 hr1
  have hr : r = 0 ∨ r = 1 ∨ r = 2 ∨ r = 3 := by omega
  rcases hr with rfl | rfl | rfl | rfl
  · go_wp2_with fail
    refine (specDigest_any _ _ (by decide)).mono ?_
    rintro e w3 ⟨rfl, b3⟩
    have HO3 := ownS_below HO2.out b3
    have HG3 := touch_below HG2.out b3
    have HS3 := HS2.out.below b3
    have hD := digestB_le ⟨#[120]⟩
    generalize digestB ⟨#[120]⟩ = D at *
    obtain ⟨v', w4, hr4, ho4, hg4⟩ := app_one w3 w.heap.size _ ss HO3 D (by omega) HG3.size
    have HG4 : Hid (w.grownBy w4 (some p)) := touch_own (touch_below HG3 ((Below.refl _ _).alloc (Nat.le_refl _) _)) hg4 (fun j hj => (HO3.lt j hj).1)
    have HS4 : Hid (Src 117 B p a len cap w4) := (HS3.below ((Below.refl _ _).alloc (Nat.le_refl _) _)).other hg4 (fun j hj => by have := (HO3.lt j hj).1; omega)
    have HW : Hid (Few w4 v' (ss ++ [D])) := own_few ho4 (by simp; omega) (fun x hx => by
      rcases List.mem_append.1 hx with h | h
      · exact HF.out x h
      · rw [List.mem_singleton.1 h]; exact hD)
    clear ho4 hg4 HO3 HG3 b3 HS3
    go_wp2_with (at_builtin; refine wpList_append_run rfl _ _ _ rfl _ _ _ _ rfl rfl hr4 ?_)
    go_wp2
    go_ret
    exact ⟨⟨v', _, rfl, HW.out⟩, HS4.out, HG4.out⟩
  · by_cases h0 : 0 < ss.length
    · obtain ⟨g, rfl, hg, hgl, ht, hf⟩ := ownS_at HO2.out h0
      have d1 : decide (0 < (ss.length : Int)) = true := decide_eq_true (by omega)
      have HW : Hid (Few w2 (.slice (some ⟨g, 1, none⟩) (ss.length - 1) (c1 - 1)) (ss.drop 1)) := ⟨some ⟨g, 1, none⟩, c1 - 1, by rw [List.length_drop], by rw [List.length_drop]; omega, by have := ht.drop 1; rwa [Nat.zero_add] at this, by simp; omega, fun x hx => HF.out x (List.mem_of_mem_drop hx)⟩
      clear ht hf
      by_cases hc : c1 = 1
      · subst hc
        have HZ : Hid (Few w2 (.slice (some ⟨g, 0, none⟩) 0 0) []) := ⟨_, 0, rfl, by simp, TxtAt.nil _ _, by simp, by simp⟩
        go_wp2
        go_ret
        exact ⟨⟨_, _, rfl, HZ.out⟩, HS2.out, HG2.out⟩
      · go_wp2
        go_ret
        exact ⟨⟨_, _, rfl, HW.out⟩, HS2.out, HG2.out⟩
    · have d1 : decide (0 < (ss.length : Int)) = false := decide_eq_false (by omega)
      have HW : Hid (Few w2 (.slice q1 ss.length c1) ss) := own_few HO2.out (by omega) HF.out
      go_wp2
      go_ret
      exact ⟨⟨_, _, rfl, HW.out⟩, HS2.out, HG2.out⟩
  · by_cases h0 : 0 < ss.length
    · have d1 : decide (0 < (ss.length : Int)) = true := decide_eq_true (by omega)
      go_wp2_with fail
      refine (n_any B p a len cap _ _ HS2.out (by omega)).mono ?_
      rintro e w3 ⟨⟨r, rfl, r0, r1, r2⟩, hs3, hg3⟩
      obtain ⟨k, rfl⟩ := Int.eq_ofNat_of_zero_le r0
      have hk : k < ss.length := by
        by_cases h1 : (1 : Int) < ss.length
        · have := r1 h1; omega
        · have := r2 (by omega); omega
      have HO3 := HO2.out.kept hg3 (.inr (fun e => by have := (HO2.out.lt p e).1; omega))
      have HG3 := touch_trans HG2.out hg3
      have H3 : Hid (Src 117 B p a len cap w3) := hs3
      clear hs3 hg3 r1 r2
      go_wp2_with fail
      refine (specDigest_any _ _ (by decide)).mono ?_
      rintro e w4 ⟨rfl, b4⟩
      have HO4 := ownS_below HO3 b4
      have HG4 := touch_below HG3 b4
      have H4 := H3.out.below b4
      have hD := digestB_le ⟨#[121]⟩
      generalize digestB ⟨#[121]⟩ = D at *
      obtain ⟨g, rfl, hg, hgl, ht, hf⟩ := ownS_at HO4 h0
      have hf := hf k
      have hc := ht.at k hk
      rw [Nat.zero_add] at hc
      have i1 : (k : Int) < ss.length := by omega
      have HW : Hid (Few (w4.setCell ⟨g, k, none⟩ (.string D)) (.slice (some ⟨g, 0, none⟩) ss.length c1) (ss.set k D)) := ⟨_, _, by rw [List.length_set], by rw [List.length_set]; exact hc1, ht.put k hk D, by rw [List.length_set]; omega, fun x hx => by
        rcases List.mem_or_eq_of_mem_set hx with h | h
        · exact HF.out x h
        · rw [h]; exact hD⟩
      have HG5 : Hid (w.grownBy (w4.setCell ⟨g, k, none⟩ (.string D)) (some p)) := touch_own HG4 (row := some g) (touch_set (World.grownBy.refl _ _) k _) (fun j hj => by cases hj; exact hg)
      have HS5 : Hid (Src 117 B p a len cap (w4.setCell ⟨g, k, none⟩ (.string D))) := H4.other (touch_set (World.grownBy.refl w4 (some g)) k _) (fun j hj => by cases hj; omega)
      clear ht HO4 HG4 HO3 HG3 b4 H4 H3
      generalize ss[k] = X at *
      go_wp2
      go_ret
      exact ⟨⟨_, _, rfl, HW.out⟩, HS5.out, HG5.out⟩
    · have d1 : decide (0 < (ss.length : Int)) = false := decide_eq_false (by omega)
      have HW : Hid (Few w2 (.slice q1 ss.length c1) ss) := own_few HO2.out (by omega) HF.out
      go_wp2
      go_ret
      exact ⟨⟨_, _, rfl, HW.out⟩, HS2.out, HG2.out⟩
  · by_cases h0 : 0 < ss.length
    · obtain ⟨g, rfl, hg, hgl, ht, hf⟩ := ownS_at HO2.out h0
      have d1 : decide (0 < (ss.length : Int)) = true := decide_eq_true (by omega)
      have hf := hf 0
      have hc := ht.at 0 h0
      rw [Nat.zero_add] at hc
      have hX := H32.out _ (List.getElem_mem h0)
      have HP := fun s => ht.put 0 h0 s
      generalize ss[0] = X at *
      have HH : Hid (∀ s : ByteArray, s.size ≤ 32 → Few (w2.setCell ⟨g, 0, none⟩ (.string s)) (.slice (some ⟨g, 0, none⟩) ss.length c1) (ss.set 0 s) ∧ Src 117 B p a len cap (w2.setCell ⟨g, 0, none⟩ (.string s)) ∧ w.grownBy (w2.setCell ⟨g, 0, none⟩ (.string s)) (some p)) := fun s h => ⟨⟨_, _, by rw [List.length_set], by rw [List.length_set]; exact hc1, HP s, by rw [List.length_set]; omega, fun x hx => by
        rcases List.mem_or_eq_of_mem_set hx with h' | h'
        · exact HF.out x h'
        · rw [h']; exact h⟩, HS2.out.other (touch_set (World.grownBy.refl w2 (some g)) 0 _) (fun j hj => by cases hj; omega), touch_own HG2.out (row := some g) (touch_set (World.grownBy.refl _ _) 0 _) (fun j hj => by cases hj; exact hg)⟩
      clear ht HP
      go_wp2
      go_ret
      have hE := HH.out (X.extract 1 32) (by simp; omega)
      exact ⟨⟨_, _, rfl, hE.1⟩, hE.2⟩
    · have d1 : decide (0 < (ss.length : Int)) = false := decide_eq_false (by omega)
      have HW : Hid (Few w2 (.slice q1 ss.length c1) ss) := own_few HO2.out (by omega) HF.out
      go_wp2
      go_ret
      exact ⟨⟨_, _, rfl, HW.out⟩, HS2.out, HG2.out⟩
theorem spoil_any (B p : Nat) (a : Option Addr) (len cap : Nat) (q : Option Addr) (cq : Nat) (ss : List ByteArray) (w : World) (hs : Src 117 B p a len cap w) (hq : TxtAt w q ss) (hcq : ss.length ≤ cq) (hl : ss.length ≤ 64) (h32 : ∀ x ∈ ss, x.size = 32) :
    Calls Tryd.prog 88 #[.pointer (some ⟨p, 0, none⟩), .slice q ss.length cq] w fun e w' =>
      (∃ (v : Value) (L : List ByteArray), e = .returned v ∧ Few w' v L) ∧ w.grownBy w' (some p) :=
  (spoilS_any B p a len cap q cq ss w hs hq hcq hl h32).mono fun _ _ h => ⟨h.1, h.2.2⟩
end Go.Proofs.YtlmkfjlaakmmpaaDoor
