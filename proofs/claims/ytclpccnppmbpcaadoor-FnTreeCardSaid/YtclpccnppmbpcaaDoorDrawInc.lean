/-
  What DrawIncluded draws: a text of at most 32 bytes, two numbers, few such texts, and one more.
-/
import Derived.Test.YtclpccnppmbpcaaDoorRows
import Derived.Test.YtclpccnppmbpcaaDoorBytes
import Derived.Test.YtclpccnppmbpcaaDoorDigMath
import Derived.Test.YtclpccnppmbpcaaDoorOwnB
import Derived.Test.YtclpccnppmbpcaaDoorDrawTreeDigest
import Derived.Test.YtclpccnppmbpcaaDoorSlA
import Derived.Test.YtclpccnppmbpcaaDoorSlBOwnS
import Derived.Test.YtclpccnppmbpcaaDoorAppS
import Derived.Test.YtclpccnppmbpcaaDoorTreeTree2TreeH
import Derived.Test.YtclpccnppmbpcaaDoorPath2
import Derived.Test.YtclpccnppmbpcaaDoorDrawNodeSpecLeaf
import Derived.Test.YtclpccnppmbpcaaDoorConMathProofLaw
import Derived.Test.YtclpccnppmbpcaaDoorSrc
import Derived.Test.YtclpccnppmbpcaaDoorDraws
import Derived.Test.YtclpccnppmbpcaaDoorDrawKit
import Derived.Test.YtclpccnppmbpcaaDoorSome
import Derived.Test.YtclpccnppmbpcaaDoorSpoil
import Derived.Handy
import Derived.WalkSpells
import Derived.OwnWalk
namespace Go.Proofs.YtclpccnppmbpcaaDoor
open Go.RowKit Go.Lib
set_option linter.unusedVariables false
set_option maxRecDepth 20000

theorem leafA_le (t : ByteArray) : (leafA t).size ≤ 32 := by
  unfold leafA; split
  · rw [leafB_size]; omega
  · simp

set_option maxHeartbeats 4000000 in
theorem drawInc_any (B : Nat) (a : Option Addr) (len cap : Nat) (w : World) (hlen : len ≤ 1048576) (hB : B ≤ w.heap.size) (hc : CodeAt B a len w) :
    Calls Tryd.prog 34 #[.slice a len cap] w fun e w' => (∃ (m n : Int) (v : Value) (L : List ByteArray) (was root : ByteArray), e = .returned (.tuple #[.string was, .int .i64 m, .int .i64 n, v, .string root]) ∧ Few w' v L ∧ -9223372036854775808 ≤ m ∧ m ≤ 9223372036854775807 ∧ -9223372036854775808 ≤ n ∧ n ≤ 9223372036854775807 ∧ was.size ≤ 32 ∧ root.size ≤ 32) ∧ Below w.heap.size w w' := by
  have HC : Hid (CodeAt B a len w) := hc
  clear hc
  go_enter Tryd.func34, Tryd.ntmps34
  go_wp2_with fail
  refine (source_any B a len cap w hlen hB HC.out).mono ?_
  rintro e w1 ⟨rfl, hs1, hb1⟩
  have H1 : Hid (Src 97 B w.heap.size a len cap w1) := hs1
  have hsz1 := hs1.lt
  clear hs1 HC
  go_wp2_with fail
  refine (some_any B w.heap.size a len cap _ H1.out).mono ?_
  rintro e w2 ⟨⟨v, L, rfl, ho, hl, hx⟩, hs2, hg2⟩
  obtain ⟨q0, cq0, rfl, hcq0, _⟩ := ownS_form ho
  obtain ⟨v', w3, hr3, ho3, hg3⟩ := app_one w2 w1.heap.size _ L ho ⟨#[101, 110, 100]⟩ (by omega) hg2.size
  obtain ⟨hs3, hg3⟩ := app_leaves ho hs2 hsz1 hg2 hg3
  have hx3 : ∀ x ∈ L ++ [⟨#[101, 110, 100]⟩], x.size ≤ 101 := fun x hx' => by
    rcases List.mem_append.1 hx' with h | h
    · exact hx x h
    · rw [List.mem_singleton.1 h]; decide
  have hl3 : (L ++ [(⟨#[101, 110, 100]⟩ : ByteArray)]).length ≤ 31 := by simp; omega
  have hl0 : 0 < (L ++ [(⟨#[101, 110, 100]⟩ : ByteArray)]).length := by simp
  obtain ⟨l, hL⟩ : ∃ l, l = L ++ [(⟨#[101, 110, 100]⟩ : ByteArray)] := ⟨_, rfl⟩
  rw [← hL] at ho3 hx3 hl3 hl0
  obtain ⟨q, cq, rfl, hcq, _⟩ := ownS_form ho3
  have HO3 : Hid (w3.ownsRow w1.heap.size 9 1 (.slice q l.length cq) l.length (strRow l)) := ho3
  have HX3 : Hid (∀ x ∈ l, x.size ≤ 101) := hx3
  clear hx3
  have H3 : Hid (Src 97 B w.heap.size a len cap w3) := hs3
  have hb3 := below_touch hb1 hg3 (Nat.le_refl _)
  clear hs2 hs3 ho3 ho hL hx hg2 hcq0 hg3 H1
  go_wp2_with (at_builtin; refine wpList_append_run rfl _ _ _ rfl _ _ _ _ rfl rfl hr3 ?_)
  clear hr3 hl
  refine (n_any B w.heap.size a len cap _ _ H3.out (by omega)).mono ?_
  rintro e w4 ⟨⟨r, rfl, r0, r1, r2⟩, hs4, hg4⟩
  obtain ⟨k, rfl⟩ := Int.eq_ofNat_of_zero_le r0
  have hk : k < l.length := by
    by_cases h1 : (1 : Int) < l.length
    · have := r1 h1; omega
    · have := r2 (by omega); omega
  have ho4 := HO3.out.kept hg4 (.inr (fun e => by have := (HO3.out.lt _ e).1; omega))
  obtain ⟨g, rfl, hg, hgl, ht4, _⟩ := ownS_at ho4 hl0
  have HT4 : Hid (TxtAt w4 (some ⟨g, 0, none⟩) l) := ht4
  have H4 : Hid (Src 97 B w.heap.size a len cap w4) := hs4
  have hb4 := below_touch hb3 hg4 (Nat.le_refl _)
  clear hs4 hg4 ht4 r1 r2 ho4 HO3 H3
  go_wp2_with fail
  refine (specPath_any (some ⟨g, 0, none⟩) cq l _ w4 HT4.out (by omega) hcq (by omega) (by omega)).mono ?_
  rintro e w5 ⟨v, rfl, ho5, b5⟩
  have hPw := pathA_wide l (k : Int)
  have hPf := pathA_few l (k : Int)
  generalize pathA l (k : Int) = P at *
  have HPw : Hid (∀ x ∈ P, x.size = 32) := hPw
  have HPl : Hid (∀ x ∈ P, x.size ≤ 32) := fun x hx => by rw [hPw x hx]; omega
  obtain ⟨qp, cp, rfl, hcp, _⟩ := ownS_form ho5
  have hsz4 := H4.out.lt
  have HO5 : Hid (w5.ownsRow w4.heap.size 9 1 (.slice qp P.length cp) P.length (strRow P)) := ho5
  have H5 : Hid (Src 97 B w.heap.size a len cap w5) := H4.out.below b5
  have HT5 : Hid (TxtAt w5 (some ⟨g, 0, none⟩) l) := HT4.out.below b5
  have hb5 := hb4.trans (b5.mono hb4.size)
  clear ho5 b5 HT4 H4 hPw
  have hcell := HT5.out.at k hk
  rw [Nat.zero_add] at hcell
  have htx := HX3.out _ (List.getElem_mem hk)
  generalize l[k] = tx at *
  have j1 : (k : Int) < l.length := by omega
  go_wp2_with fail
  refine (specLeaf_any tx _ (by unfold maxLen; omega)).mono ?_
  rintro e w6 ⟨rfl, b6⟩
  have hW := leafA_le tx
  generalize leafA tx = was at *
  have hb6 := hb5.trans (b6.mono hb5.size)
  have HT6 : Hid (TxtAt w6 (some ⟨g, 0, none⟩) l) := HT5.out.below b6
  have H6 : Hid (Src 97 B w.heap.size a len cap w6) := H5.out.below b6
  have HO6 : Hid (w6.ownsRow w4.heap.size 9 1 (.slice qp P.length cp) P.length (strRow P)) := ownS_below HO5.out b6
  clear HT5 H5 b6 HO5 hcell
  go_wp2_with fail
  refine (specTree_any (some ⟨g, 0, none⟩) cq l w6 HT6.out (by omega) hcq).mono ?_
  rintro e w7 ⟨rfl, b7⟩
  have hR := treeA_le l
  generalize treeA l = root at *
  have hb7 := hb6.trans (b7.mono hb6.size)
  have H7 : Hid (Src 97 B w.heap.size a len cap w7) := H6.out.below b7
  have HO7 : Hid (w7.ownsRow w4.heap.size 9 1 (.slice qp P.length cp) P.length (strRow P)) := ownS_below HO6.out b7
  clear HT6 H6 b7 HO6
  go_wp2_with fail
  refine (one_any B w.heap.size a len cap 3 _ H7.out (by omega)).mono ?_
  rintro e w8 ⟨⟨b, rfl⟩, hs8, hg8⟩
  have HO8 : Hid (w8.ownsRow w4.heap.size 9 1 (.slice qp P.length cp) P.length (strRow P)) := HO7.out.kept hg8 (.inr (fun e => by have := (HO7.out.lt _ e).1; omega))
  have H8 : Hid (Src 97 B w.heap.size a len cap w8) := hs8
  have hb8 := below_touch hb7 hg8 (Nat.le_refl _)
  clear hs8 hg8 HO7 H7
  cases b
  · have HW : Hid (Few w8 (.slice qp P.length cp) P) := own_few HO8.out (by omega) HPl.out
    go_wp2
    (try simp only [Exit.inBlock, Exit.then])
    refine bodyPost_ret (results_tmp5 rfl _ _ _) rfl ?_
    exact ⟨⟨_, _, _, P, was, root, rfl, HW.out, by omega, by omega, by omega, by omega, hW, hR⟩, hb8⟩
  · go_wp2_with fail
    refine (n_any B w.heap.size a len cap 4 _ H8.out (by omega)).mono ?_
    rintro e w9 ⟨⟨r, rfl, r0', r1, _⟩, hs9, hg9⟩
    have r2 := r1 (by omega)
    have HO9 : Hid (w9.ownsRow w4.heap.size 9 1 (.slice qp P.length cp) P.length (strRow P)) := HO8.out.kept hg9 (.inr (fun e => by have := (HO8.out.lt _ e).1; omega))
    have H9 : Hid (Src 97 B w.heap.size a len cap w9) := hs9
    have hb9 := below_touch hb8 hg9 (Nat.le_refl _)
    clear hs9 hg9 HO8 H8 r1
    have hr : r = 0 ∨ r = 1 ∨ r = 2 ∨ r = 3 := by omega
    rcases hr with rfl | rfl | rfl | rfl
    · obtain ⟨_, _, hv, _, ht9⟩ := ownS_form HO9.out
      cases hv
      have HT9 : Hid (TxtAt w9 qp P) := ht9
      clear ht9
      go_wp2_with fail
      refine (spoil_any B w.heap.size a len cap qp cp P w9 H9.out HT9.out hcp (by omega) HPw.out).mono ?_
      rintro e w10 ⟨⟨v', L', rfl, hf⟩, hg10⟩
      have HW : Hid (Few w10 v' L') := hf
      have hb10 := below_touch hb9 hg10 (Nat.le_refl _)
      clear hf hg10
      go_wp2
      (try simp only [Exit.inBlock, Exit.then])
      refine bodyPost_ret (results_tmp5 rfl _ _ _) rfl ?_
      exact ⟨⟨_, _, _, L', was, root, rfl, HW.out, by omega, by omega, by omega, by omega, hW, hR⟩, hb10⟩
    · go_wp2_with fail
      refine (n_any B w.heap.size a len cap 3 _ H9.out (by omega)).mono ?_
      rintro e w10 ⟨⟨r, rfl, s0, s1, _⟩, hs10, hg10⟩
      have s2 := s1 (by omega)
      have HO10 := HO9.out.kept hg10 (.inr (fun e => by have := (HO9.out.lt _ e).1; omega))
      have HW : Hid (Few w10 (.slice qp P.length cp) P) := own_few HO10 (by omega) HPl.out
      have hb10 := below_touch hb9 hg10 (Nat.le_refl _)
      clear hs10 hg10 HO10 s1
      go_wp2
      (try simp only [Exit.inBlock, Exit.then])
      refine bodyPost_ret (results_tmp5 rfl _ _ _) rfl ?_
      exact ⟨⟨_, _, _, P, was, root, rfl, HW.out, by go_num, by go_num, by omega, by omega, hW, hR⟩, hb10⟩
    · go_wp2_with fail
      refine (edge_any B w.heap.size a len cap _ H9.out).mono ?_
      rintro e w10 ⟨⟨r, rfl, s0, s1⟩, hs10, hg10⟩
      have HO10 := HO9.out.kept hg10 (.inr (fun e => by have := (HO9.out.lt _ e).1; omega))
      have hb10 := below_touch hb9 hg10 (Nat.le_refl _)
      have hlt10 := hs10.lt
      have H10 : Hid (Src 97 B w.heap.size a len cap (w10.alloc (.cells #[.int .i64 ((l.length : Int) + 1), .int .i64 ((l.length : Int) - 1), .int .i64 r, .int .i64 4611686018427387904] 2))) := hs10.below ((Below.refl _ _).alloc (Nat.le_refl _) _)
      clear hs10 hg10 H9
      go_wp2_with fail
      refine (n_any B w.heap.size a len cap 4 _ H10.out (by omega)).mono ?_
      rintro e w11 ⟨⟨r', rfl, t0, t1, _⟩, hs11, hg11⟩
      have t2 := t1 (by omega)
      obtain ⟨j, rfl⟩ := Int.eq_ofNat_of_zero_le t0
      obtain ⟨u, hu, u0, u1⟩ := edge4 ((l.length : Int) + 1) ((l.length : Int) - 1) r (by omega) (by omega) (by omega) (by omega) s0 s1 j (by omega)
      have hcell := hg11.cell_far ⟨w10.heap.size, j, none⟩ (by simp) (by simp; omega)
      rw [World.cell?_alloc_mark, hu] at hcell
      have HO11 := (HO10.alloc (.cells #[.int .i64 ((l.length : Int) + 1), .int .i64 ((l.length : Int) - 1), .int .i64 r, .int .i64 4611686018427387904] 2)).kept hg11 (.inr (fun e => by have := (HO10.lt _ e).1; omega))
      have HW : Hid (Few w11 (.slice qp P.length cp) P) := own_few HO11 (by omega) HPl.out
      have hb11 := below_touch (hb10.alloc hb10.size _) hg11 (Nat.le_refl _)
      clear hs11 hg11 HO11 HO10 t1 hu
      go_wp2
      (try simp only [Exit.inBlock, Exit.then])
      refine bodyPost_ret (results_tmp5 rfl _ _ _) rfl ?_
      exact ⟨⟨_, _, _, P, was, root, rfl, HW.out, by omega, by omega, u0, u1, hW, hR⟩, hb11⟩
    · go_wp2_with fail
      refine (specDigest_any _ _ (by decide)).mono ?_
      rintro e w10 ⟨rfl, b10⟩
      have hD := digestB_le ⟨#[122]⟩
      generalize digestB ⟨#[122]⟩ = D at *
      have HO10 := ownS_below HO9.out b10
      have HW : Hid (Few w10 (.slice qp P.length cp) P) := own_few HO10 (by omega) HPl.out
      have hb10 := hb9.trans (b10.mono hb9.size)
      clear HO10 b10
      go_wp2
      (try simp only [Exit.inBlock, Exit.then])
      refine bodyPost_ret (results_tmp5 rfl _ _ _) rfl ?_
      exact ⟨⟨_, _, _, P, D, root, rfl, HW.out, by omega, by omega, by omega, by omega, hD, hR⟩, hb10⟩
end Go.Proofs.YtclpccnppmbpcaaDoor
