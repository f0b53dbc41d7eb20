/-
  What the draw l03Range draws: a size from -1 to 1000001 and few nodes of at most 32 bytes each, in a row that the call owns. The source's block alone is written.
  Conditions: the source is one ('Src').
-/
import Derived.Test.YtclpccnppmbpcaaDoorRows
import Derived.Test.YtclpccnppmbpcaaDoorBytes
import Derived.Test.YtclpccnppmbpcaaDoorDigMath
import Derived.Test.YtclpccnppmbpcaaDoorOwnB
import Derived.Test.YtclpccnppmbpcaaDoorDrawTreeDigest
import Derived.Test.YtclpccnppmbpcaaDoorSlA
import Derived.Test.YtclpccnppmbpcaaDoorSlBOwnS
import Derived.Test.YtclpccnppmbpcaaDoorAppS
import Derived.Test.YtclpccnppmbpcaaDoorRootMathAddMathCopied
import Derived.Test.YtclpccnppmbpcaaDoorAdd2
import Derived.Test.YtclpccnppmbpcaaDoorSrc
import Derived.Test.YtclpccnppmbpcaaDoorDraws
import Derived.Test.YtclpccnppmbpcaaDoorDrawKit
import Derived.Test.YtclpccnppmbpcaaDoorSome
import Derived.Test.YtclpccnppmbpcaaDoorSpoil
import Derived.Test.YtclpccnppmbpcaaDoorRngKit
import Derived.Handy
import Derived.WalkSpells
import Derived.OwnWalk
import Derived.Deep.RegionLaw
import Derived.Deep.RegionWith
namespace Go.Proofs.YtclpccnppmbpcaaDoor
open Go.RowKit Go.Lib
set_option linter.unusedVariables false
set_option maxRecDepth 20000

set_option maxHeartbeats 4000000 in
theorem drawRng_any (B p : Nat) (a : Option Addr) (len cap : Nat) (w : World) (hs : Src 97 B p a len cap w) :
    Calls Tryd.prog 77 #[.pointer (some ⟨p, 0, none⟩)] w fun e w' =>
      (∃ (n : Int) (v : Value) (L : List ByteArray), e = .returned (.agg #[.int .i64 n, v]) ∧ w'.ownsRow w.heap.size 9 1 v L.length (strRow L) ∧ L.length ≤ 40 ∧ (∀ x ∈ L, x.size ≤ 32) ∧ -1 ≤ n ∧ n ≤ 1000001) ∧ Src 97 B p a len cap w' ∧ w.grownBy w' (some p) := by
  have hp := hs.lt
  obtain ⟨z, z0, z1, hz⟩ := hs.size
  obtain ⟨W1, hW1⟩ : ∃ W1, W1 = w.alloc (.cells #[.int .i64 0, .slice none 0 0] 48) := ⟨_, rfl⟩
  obtain ⟨W2, hW2⟩ : ∃ W2, W2 = W1.alloc (.cells #[.int .i64 0, .slice none 0 0] 48) := ⟨_, rfl⟩
  have HW1 : Hid (W1 = w.alloc (.cells #[.int .i64 0, .slice none 0 0] 48)) := hW1
  have HW2 : Hid (W2 = (w.alloc (.cells #[.int .i64 0, .slice none 0 0] 48)).alloc (.cells #[.int .i64 0, .slice none 0 0] 48)) := by rw [hW2, hW1]; exact rfl
  have B1 : Hid (Below w.heap.size w W1) := by rw [hW1]; exact (Below.refl _ _).alloc (Nat.le_refl _) _
  have hsz1 : W1.heap.size = w.heap.size + 1 := by rw [hW1]; simp
  have B2 : Hid (Below w.heap.size w W2) := by rw [hW2]; exact B1.out.alloc B1.out.size _
  have HS2 : Hid (Src 97 B p a len cap W2) := hs.below B2.out
  have hz2 : W2.cell? ⟨p, 3, none⟩ = some (.int .i64 z) := by rw [B2.out.cell (p := ⟨p, 3, none⟩) hp]; exact hz
  have HR2 : Hid (RngS W1 p (w.heap.size + 1) 0 (.slice none 0 0) [] W2) := by
    refine ⟨?_, by omega, ?_, World.ownsRow_nil _ _ _ _⟩
    · rw [hW2]; exact World.grownBy_alloc _ _ _
    · rw [hW2, ← hsz1]; exact (MapKept.heap_alloc W1 _).1
  have HK : Hid (∀ w', W1.grownBy w' (some p) → w'.cell? ⟨w.heap.size, 0, none⟩ = some (.int .i64 0) ∧ w'.cell? ⟨w.heap.size, 1, none⟩ = some (.slice none 0 0) ∧ w'.frozen? ⟨w.heap.size, 0, none⟩ = false ∧ w'.frozen? ⟨w.heap.size, 1, none⟩ = false) := by
    intro w' hg
    have hb : w'.heap[w.heap.size]? = some (.cells #[.int .i64 0, .slice none 0 0] 48 (0, 0)) := (hg.block w.heap.size (by omega) (fun e => by cases e; omega)).trans (by rw [hW1]; exact (MapKept.heap_alloc w _).1)
    simp [World.cell?, World.frozen?, hb]
  have HF : Hid (∀ (w5 : World) (n : Int) (v : Value) (l : List ByteArray) (x y : Value), RngS W1 p (w.heap.size + 1) n v l w5 → Src 97 B p a len cap w5 →
      ((w5.setCell ⟨w.heap.size, 0, none⟩ x).setCell ⟨w.heap.size, 1, none⟩ y).ownsRow w.heap.size 9 1 v l.length (strRow l) ∧ Src 97 B p a len cap ((w5.setCell ⟨w.heap.size, 0, none⟩ x).setCell ⟨w.heap.size, 1, none⟩ y) ∧ w.grownBy ((w5.setCell ⟨w.heap.size, 0, none⟩ x).setCell ⟨w.heap.size, 1, none⟩ y) (some p)) := by
    intro w5 n v l x y h hs
    have g2 : w5.grownBy ((w5.setCell ⟨w.heap.size, 0, none⟩ x).setCell ⟨w.heap.size, 1, none⟩ y) (some w.heap.size) := touch_set (touch_set (World.grownBy.refl w5 (some w.heap.size)) 0 x) 1 y
    refine ⟨ownS_mono (ownsRow_setCell_below (ownsRow_setCell_below h.own (by show w.heap.size < _; omega) _) (by show w.heap.size < _; omega) _) (by omega), hs.other g2 (fun j e => by cases e; omega), ?_⟩
    exact touch_own (touch_trans (touch_below (World.grownBy.refl _ _) B1.out) h.gr) g2 (fun j e => by cases e; omega)
  rw [HW2.out] at hz2
  have HZ1 : Hid (W1.heap.size = w.heap.size + 1) := hsz1
  have hp1 : p < W1.heap.size := by omega
  clear hs hW1 hW2 hz hsz1
  go_enter Tryd.func77, Tryd.ntmps77
  go_wp2_with fail
  rw [← HW2.out]
  refine (n_any B p a len cap _ _ HS2.out (by go_num)).mono ?_
  rintro e w1 ⟨⟨r, rfl, hr0, hr1, hr2⟩, hs1, hg1⟩
  have hr : r ≤ 35 := by
    have := hr1 (by go_num)
    go_num
  have HS1 : Hid (Src 97 B p a len cap w1) := hs1
  have HR1 : Hid (RngS W1 p (w.heap.size + 1) 0 (.slice none 0 0) [] w1) := HR2.out.touch hp1 hg1
  obtain ⟨k1, rfl⟩ := Int.eq_ofNat_of_zero_le hr0
  clear hs1 hg1 hz2 hr1 hr2 HR2 HS2 HW2
  go_wp2_with fail
  go_loopw [4] (fun i wr => ∃ (k : Nat) (n : Int) (v : Value) (L : List ByteArray), i = .int .i64 k ∧ L.length + k ≤ 35 ∧ 0 ≤ n ∧ n + k ≤ 35 ∧ Hid (RngS W1 p (w.heap.size + 1) n v L wr) ∧ Hid (∀ x ∈ L, x.size ≤ 32) ∧ Hid (Src 97 B p a len cap wr)) (fun i _ => (intOf i).toNat)
  case atStart => exact ⟨k1, 0, _, [], rfl, by simp; omega, by omega, by omega, HR1, (fun x hx => by simp at hx), HS1⟩
  case round =>
    clear HR1 HS1
    obtain ⟨k, n, v, L, rfl, hk, n0, n1, HR, HL, HS⟩ := hrel
    obtain ⟨c0, c1, f0, f1⟩ := HR.out.cells
    obtain ⟨q, cq, rfl, hcq, _⟩ := ownS_form HR.out.own
    by_cases hlt : 0 < (k : Int)
    · have QN : Hid (∀ w', RngS W1 p (w.heap.size + 1) n (.slice q L.length cq) L w' → Src 97 B p a len cap w' → Calls Tryd.prog 53 #[.pointer (some ⟨p, 0, none⟩), .int .i64 3] w' fun e x1 => ∃ r : Int, e = .returned (.int .i64 r) ∧ r ≤ 2 ∧ Src 97 B p a len cap x1 ∧ RngS W1 p (w.heap.size + 1) n (.slice q L.length cq) L x1) := fun w' hR hS => (n_any B p a len cap 3 w' hS (by omega)).mono (by
          rintro e x1 ⟨⟨r, rfl, r0, r1, _⟩, s1, g1⟩
          exact ⟨r, rfl, by have := r1 (by omega); omega, s1, hR.touch hp1 g1⟩)
      have QB : Hid (∀ w' r, r ≤ 2 → RngS W1 p (w.heap.size + 1) n (.slice q L.length cq) L w' → Src 97 B p a len cap w' → Calls Tryd.prog 54 #[.pointer (some ⟨p, 0, none⟩), .int .i64 r] w' fun e x1 => ∃ t : ByteArray, e = .returned (.string t) ∧ t.size ≤ 2 ∧ Src 97 B p a len cap x1 ∧ RngS W1 p (w.heap.size + 1) n (.slice q L.length cq) L x1) := fun w' r hr hR hS => (bytes_any B p a len cap r w' hS (by omega)).mono (by
          rintro e x1 ⟨⟨t, rfl, ht⟩, s1, g1⟩
          exact ⟨t, rfl, by omega, s1, hR.touch hp1 g1⟩)
      have QA : Hid (∀ w' t, t.size ≤ 2 → RngS W1 p (w.heap.size + 1) n (.slice q L.length cq) L w' → Src 97 B p a len cap w' → Calls Tryd.prog 36 #[.agg #[.int .i64 n, .slice q L.length cq], .string t] w' fun e x1 => ∃ q3 c3, e = .returned (.agg #[.int .i64 (addN n L t), .slice q3 (addL n L t).length c3]) ∧ x1.ownsRow W1.heap.size 9 1 (.slice q3 (addL n L t).length c3) (addL n L t).length (strRow (addL n L t)) ∧ Src 97 B p a len cap x1 ∧ RngS W1 p (w.heap.size + 1) n (.slice q L.length cq) L x1) := fun w' t ht hR hS => by
          obtain ⟨_, _, hv, _, htx⟩ := ownS_form hR.own
          cases hv
          refine (specAdd_any n q cq L t w' htx (by omega) hcq (fun x hx => by have := HL.out x hx; omega) (by unfold maxLen; omega) (by omega) (by omega)).mono ?_
          rintro e x1 ⟨v, rfl, ho, hb⟩
          obtain ⟨q3, c3, rfl, _, _⟩ := ownS_form ho
          exact ⟨q3, c3, rfl, ownS_mono ho hR.gr.size, hS.below hb, hR.below hb⟩
      go_wp2_with fail
      go_region_with (first
        | (go_at_call 53; refine (QN.out _ (by first | exact HR.out | exact HR.out.drew) (by first | exact HS.out | exact HS.out.below (Below.refl _ _).drew)).mono ?_; rintro e x1 ⟨r, rfl, hr2, s1, q1⟩; obtain ⟨c2, c3, f2, f3⟩ := q1.cells)
        | (go_at_call 54; refine (QB.out _ _ hr2 (by first | exact q1 | exact q1.drew) (by first | exact s1 | exact s1.below (Below.refl _ _).drew)).mono ?_; rintro e x2 ⟨t, rfl, ht2, s2, q2⟩; obtain ⟨c4, c5, f4, f5⟩ := q2.cells)
        | (go_at_call 36; refine (QA.out _ _ ht2 (by first | exact q2 | exact q2.drew) (by first | exact s2 | exact s2.below (Below.refl _ _).drew)).mono ?_; rintro e x3 ⟨q4, c8, rfl, o3, s3, q3⟩; obtain ⟨c6, c7, f6, f7⟩ := q3.cells))
      all_goals
        have R3 : Hid (RngS W1 p (w.heap.size + 1) (addN n L t) (.slice q4 (addL n L t).length c8) (addL n L t) ((x3.setCell ⟨w.heap.size + 1, 0, none⟩ (.int .i64 (addN n L t))).setCell ⟨w.heap.size + 1, 1, none⟩ (.slice q4 (addL n L t).length c8))) := q3.put o3
        have S3 : Hid (Src 97 B p a len cap ((x3.setCell ⟨w.heap.size + 1, 0, none⟩ (.int .i64 (addN n L t))).setCell ⟨w.heap.size + 1, 1, none⟩ (.slice q4 (addL n L t).length c8))) := (q3.setN (m := addN n L t)).src hp1 (q3.src hp1 s3)
        have hl3 := addL_len n L t
        have hn3 := addN_bd n L t (35 - k) n0 (by omega)
        have HL3 : Hid (∀ x ∈ addL n L t, x.size ≤ 32) := addL_small n L t HL.out
        clear q1 q2 q3 s1 s2 s3 o3
        go_wp2_with fail
        go_roundw
        case rel => exact ⟨k - 1, addN n L t, _, addL n L t, by go_num, by omega, hn3.1, by omega, R3, HL3, S3⟩
        case measure => simp [intOf]; omega
    · have HEnd : Hid (∀ (w5 : World) (m : Int) (v : Value) (l : List ByteArray) (x y : Value), RngS W1 p (w.heap.size + 1) m v l w5 → Src 97 B p a len cap w5 → l.length ≤ 40 → (∀ x ∈ l, x.size ≤ 32) → -1 ≤ m → m ≤ 1000001 →
          (∃ (n : Int) (v' : Value) (L : List ByteArray), Ending.returned (.agg #[.int .i64 m, v]) = .returned (.agg #[.int .i64 n, v']) ∧ ((w5.setCell ⟨w.heap.size, 0, none⟩ x).setCell ⟨w.heap.size, 1, none⟩ y).ownsRow w.heap.size 9 1 v' L.length (strRow L) ∧ L.length ≤ 40 ∧ (∀ x ∈ L, x.size ≤ 32) ∧ -1 ≤ n ∧ n ≤ 1000001) ∧ Src 97 B p a len cap ((w5.setCell ⟨w.heap.size, 0, none⟩ x).setCell ⟨w.heap.size, 1, none⟩ y) ∧ w.grownBy ((w5.setCell ⟨w.heap.size, 0, none⟩ x).setCell ⟨w.heap.size, 1, none⟩ y) (some p)) := by
        intro w5 m v l x y hR hS hl hx h0 h1
        obtain ⟨e1, e2, e3⟩ := HF.out w5 m v l x y hR hS
        exact ⟨⟨m, v, l, rfl, e1, hl, hx, h0, h1⟩, e2, e3⟩
      clear HF
      go_wp2_with fail
      refine (one_any B p a len cap 15 _ HS.out (by omega)).mono ?_
      rintro e w2 ⟨⟨b, rfl⟩, hs2, hg2⟩
      have R2 : Hid (RngS W1 p (w.heap.size + 1) n (.slice q L.length cq) L w2) := HR.out.touch hp1 hg2
      have S2 : Hid (Src 97 B p a len cap w2) := hs2
      clear hs2 hg2 HR HS c0 c1 f0 f1
      cases b
      · obtain ⟨c0, c1, f0, f1⟩ := R2.out.cells
        obtain ⟨d0, d1, d2, d3⟩ := HK.out _ R2.out.gr
        go_wp2_with fail
        refine bodyPost_ret (v := .agg #[.int .i64 n, .slice q L.length cq]) (by simp [results, Tryd.results77, go_sem, d0, d1]) rfl ?_
        exact HEnd.out w2 n _ L _ _ R2.out S2.out (by omega) HL.out (by omega) (by omega)
      · go_wp2_with fail
        refine (n_any B p a len cap 3 _ S2.out (by omega)).mono ?_
        rintro e w3 ⟨⟨r, rfl, r0, r1, _⟩, hs3, hg3⟩
        have r2 := r1 (by omega)
        have R3 : Hid (RngS W1 p (w.heap.size + 1) n (.slice q L.length cq) L w3) := R2.out.touch hp1 hg3
        have S3 : Hid (Src 97 B p a len cap w3) := hs3
        clear hs3 hg3 R2 S2 r1
        have hr : r = 0 ∨ r = 1 ∨ r = 2 := by omega
        rcases hr with rfl | rfl | rfl
        · obtain ⟨W4, hW4⟩ : ∃ W4, W4 = w3.alloc (.cells #[.int .i64 (-1), .int .i64 999999, .int .i64 1000000, .int .i64 1000001] 2) := ⟨_, rfl⟩
          have HW4 : Hid (W4 = w3.alloc (.cells #[.int .i64 (-1), .int .i64 999999, .int .i64 1000000, .int .i64 1000001] 2)) := hW4
          have R4 : Hid (RngS W1 p (w.heap.size + 1) n (.slice q L.length cq) L W4) := by rw [hW4]; exact R3.out.below ((Below.refl _ _).alloc (Nat.le_refl _) _)
          have S4 : Hid (Src 97 B p a len cap W4) := by rw [hW4]; exact S3.out.below ((Below.refl _ _).alloc (Nat.le_refl _) _)
          clear hW4
          go_wp2_with fail
          rw [← HW4.out]
          refine (n_any B p a len cap 4 _ S4.out (by omega)).mono ?_
          rintro e w5 ⟨⟨r', rfl, t0, t1, _⟩, hs5, hg5⟩
          have t2 := t1 (by omega)
          obtain ⟨j, rfl⟩ := Int.eq_ofNat_of_zero_le t0
          obtain ⟨u, hu, u0, u1, K, hK, hO⟩ := ones_edge j (by omega)
          have HO : Hid (∀ w, Calls Tryd.prog 102 #[.int .i64 u] w fun e w' => e = .returned (.int .i64 (K : Int)) ∧ w' = w) := hO
          have hcell := hg5.cell_far ⟨w3.heap.size, j, none⟩ (by rw [HW4.out]; simp) (by simp; have := R3.out.gr.size; have := HZ1.out; omega)
          rw [HW4.out, World.cell?_alloc_mark, hu] at hcell
          have R5 := R4.out.touch hp1 hg5
          obtain ⟨c0, c1, f0, f1⟩ := R5.cells
          have R6 : Hid (RngS W1 p (w.heap.size + 1) u (.slice none 0 0) [] ((w5.setCell ⟨w.heap.size + 1, 0, none⟩ (.int .i64 u)).setCell ⟨w.heap.size + 1, 1, none⟩ (.slice none 0 0))) := (R5.setN (m := u)).setV (World.ownsRow_nil _ _ _ _)
          have S6 : Hid (Src 97 B p a len cap ((w5.setCell ⟨w.heap.size + 1, 0, none⟩ (.int .i64 u)).setCell ⟨w.heap.size + 1, 1, none⟩ (.slice none 0 0))) := (R5.setN (m := u)).src hp1 (R5.src hp1 hs5)
          have hj : (j : Int) < 4 := by omega
          clear hs5 hg5 hu hO R5 R4 S4 t1
          go_wp2_with fail
          refine (HO.out _).mono ?_
          rintro e w6 ⟨rfl, rfl⟩
          clear c0 c1 f0 f1 hcell HO
          generalize ((w5.setCell ⟨w.heap.size + 1, 0, none⟩ (.int .i64 u)).setCell ⟨w.heap.size + 1, 1, none⟩ (.slice none 0 0)) = w6 at *
          have hD := digestB_le ⟨#[110]⟩
          have QD : Hid (∀ w', Calls Tryd.prog 21 #[.string ⟨#[110]⟩] w' fun e x1 => e = .returned (.string (digestB ⟨#[110]⟩)) ∧ Below w'.heap.size w' x1) := fun w' => specDigest_any ⟨#[110]⟩ w' (by decide)
          generalize digestB ⟨#[110]⟩ = D at *
          go_wp2_with fail
          go_loopw [5] (fun i wr => ∃ (k : Nat) (v : Value) (M : List ByteArray), i = .int .i64 k ∧ M.length + k ≤ 24 ∧ Hid (RngS W1 p (w.heap.size + 1) u v M wr) ∧ Hid (∀ x ∈ M, x.size ≤ 32) ∧ Hid (Src 97 B p a len cap wr)) (fun i _ => (intOf i).toNat)
          case atStart => exact ⟨K, _, [], rfl, by simp; omega, R6, (fun x hx => by simp at hx), S6⟩
          case round =>
            clear R6 S6
            obtain ⟨k, v, M, rfl, hk, HR, HM, HS⟩ := hrel
            obtain ⟨c0, c1, f0, f1⟩ := HR.out.cells
            obtain ⟨q, cq, rfl, hcq, _⟩ := ownS_form HR.out.own
            by_cases hlt : 0 < (k : Int)
            · go_wp2_with fail
              go_region_law (first
                | (refine step_append_run rfl _ _ 41 rfl (.slice q M.length cq) (.slice (some ⟨x1.heap.size, 0, none⟩) 1 1) _ _ rfl rfl (by with_reducible exact hr4) ?_)
                | (go_simp; go_at_call 21; refine (QD.out _).mono ?_; rintro e x1 ⟨rfl, y1⟩; have q1 : RngS W1 p (w.heap.size + 1) u (.slice q M.length cq) M x1 := RngS.below (by first | exact HR.out | exact HR.out.drew) y1; obtain ⟨c2, c3, f2, f3⟩ := q1.cells; obtain ⟨v4, w4, hr4, ho4, hg4⟩ := app_one x1 W1.heap.size _ M q1.own D (by omega) q1.gr.size; obtain ⟨q5, c5, rfl, _, _⟩ := ownS_form ho4; obtain ⟨a0, a1, a2, RR⟩ := q1.append _ hg4 ho4; obtain ⟨c6, c7, f6, f7⟩ := (RngS.below (w' := x1.alloc (.cells #[.string D] 9)) q1 ((Below.refl _ _).alloc (Nat.le_refl _) _)).cells))
              all_goals
                have e1 : (M ++ [D]).length = M.length + 1 := by simp
                rw [e1] at RR
                have R4 : Hid (RngS W1 p (w.heap.size + 1) u (.slice q5 (M.length + 1) c5) (M ++ [D]) (w4.setCell ⟨w.heap.size + 1, 1, none⟩ (.slice q5 (M.length + 1) c5))) := RR
                have S4 : Hid (Src 97 B p a len cap (w4.setCell ⟨w.heap.size + 1, 1, none⟩ (.slice q5 (M.length + 1) c5))) := q1.appendS hp1 _ hg4 (Src.below (by first | exact HS.out | exact HS.out.below (Below.refl _ _).drew) y1)
                clear q1 RR ho4 hg4 y1
                go_wp2_with fail
                go_roundw
                case rel => exact ⟨k - 1, _, M ++ [D], by go_num, by simp; omega, R4, (fun x hx => by
                  rcases List.mem_append.1 hx with h | h
                  · exact HM.out x h
                  · rw [List.mem_singleton.1 h]; exact hD), S4⟩
                case measure => simp [intOf]; omega
            · obtain ⟨d0, d1, d2, d3⟩ := HK.out _ HR.out.gr
              go_wp2_with fail
              refine bodyPost_ret (v := .agg #[.int .i64 u, .slice q M.length cq]) (by simp [results, Tryd.results77, go_sem, d0, d1]) rfl ?_
              obtain ⟨⟨n', v', L', e1, e2⟩, e3⟩ := HEnd.out wr u _ M (.int .i64 u) (.slice q M.length cq) HR.out HS.out (by omega) HM.out u0 u1
              exact ⟨⟨n', v', e1, L', e2⟩, e3⟩
        · have hD := digestB_le ⟨#[109]⟩
          have QD : Hid (∀ w', Calls Tryd.prog 21 #[.string ⟨#[109]⟩] w' fun e x1 => e = .returned (.string (digestB ⟨#[109]⟩)) ∧ Below w'.heap.size w' x1) := fun w' => specDigest_any ⟨#[109]⟩ w' (by decide)
          generalize digestB ⟨#[109]⟩ = D at *
          obtain ⟨c0, c1, f0, f1⟩ := R3.out.cells
          go_wp2_with fail
          go_region_law (first
            | (refine step_append_run rfl _ _ 41 rfl (.slice q L.length cq) (.slice (some ⟨x1.heap.size, 0, none⟩) 1 1) _ _ rfl rfl (by with_reducible exact hr4) ?_)
            | (go_simp; go_at_call 21; refine (QD.out _).mono ?_; rintro e x1 ⟨rfl, y1⟩; have q1 : RngS W1 p (w.heap.size + 1) n (.slice q L.length cq) L x1 := RngS.below (by first | exact R3.out | exact R3.out.drew) y1; obtain ⟨c2, c3, f2, f3⟩ := q1.cells; obtain ⟨v4, w4, hr4, ho4, hg4⟩ := app_one x1 W1.heap.size _ L q1.own D (by omega) q1.gr.size; obtain ⟨q5, c5, rfl, _, _⟩ := ownS_form ho4; obtain ⟨a0, a1, a2, RR⟩ := q1.append _ hg4 ho4; obtain ⟨c6, c7, f6, f7⟩ := (RngS.below (w' := x1.alloc (.cells #[.string D] 9)) q1 ((Below.refl _ _).alloc (Nat.le_refl _) _)).cells))
          all_goals
            have e1 : (L ++ [D]).length = L.length + 1 := by simp
            rw [e1] at RR
            have R4 : Hid (RngS W1 p (w.heap.size + 1) n (.slice q5 (L.length + 1) c5) (L ++ [D]) (w4.setCell ⟨w.heap.size + 1, 1, none⟩ (.slice q5 (L.length + 1) c5))) := RR
            have S4 : Hid (Src 97 B p a len cap (w4.setCell ⟨w.heap.size + 1, 1, none⟩ (.slice q5 (L.length + 1) c5))) := q1.appendS hp1 _ hg4 (Src.below (by first | exact S3.out | exact S3.out.below (Below.refl _ _).drew) y1)
            obtain ⟨c0, c1, f0, f1⟩ := R4.out.cells
            obtain ⟨d0, d1, d2, d3⟩ := HK.out _ R4.out.gr
            clear q1 RR ho4 hg4 y1
            go_wp2_with fail
            refine bodyPost_ret (v := .agg #[.int .i64 n, .slice q5 (L.length + 1) c5]) (by simp [results, Tryd.results77, go_sem, d0, d1]) rfl ?_
            exact HEnd.out _ n _ (L ++ [D]) _ _ R4.out S4.out (by simp; omega) (fun x hx => by
              rcases List.mem_append.1 hx with h | h
              · exact HL.out x h
              · rw [List.mem_singleton.1 h]; exact hD) (by omega) (by omega)
        · obtain ⟨c0, c1, f0, f1⟩ := R3.out.cells
          have R4 : Hid (RngS W1 p (w.heap.size + 1) (n + 1) (.slice q L.length cq) L (w3.setCell ⟨w.heap.size + 1, 0, none⟩ (.int .i64 (n + 1)))) := R3.out.setN
          have S4 : Hid (Src 97 B p a len cap (w3.setCell ⟨w.heap.size + 1, 0, none⟩ (.int .i64 (n + 1)))) := R3.out.src hp1 S3.out
          obtain ⟨c2, c3, f2, f3⟩ := R4.out.cells
          obtain ⟨d0, d1, d2, d3⟩ := HK.out _ R4.out.gr
          go_wp2_with fail
          refine bodyPost_ret (v := .agg #[.int .i64 (n + 1), .slice q L.length cq]) (by simp [results, Tryd.results77, go_sem, d0, d1]) rfl ?_
          exact HEnd.out _ (n + 1) _ L _ _ R4.out S4.out (by omega) HL.out (by omega) (by omega)
end Go.Proofs.YtclpccnppmbpcaaDoor
