/-
  What the specification's DiskFlush answers.
-/
import Derived.Test.YtcbclmhkejknoaaRows
import Derived.Test.YtcbclmhkejknoaaBytes
import Derived.Test.YtcbclmhkejknoaaSlA
import Derived.Test.YtcbclmhkejknoaaSlB
import Derived.Test.YtcbclmhkejknoaaOwnS
import Derived.Test.YtcbclmhkejknoaaOwnB
import Derived.Test.YtcbclmhkejknoaaDskMath
import Derived.Test.YtcbclmhkejknoaaDskR
import Derived.Test.YtcbclmhkejknoaaDskS
import Derived.Test.YtcbclmhkejknoaaDskA
import Derived.Test.YtcbclmhkejknoaaDskC
import Derived.Test.YtcbclmhkejknoaaDskT
import Derived.Handy
import Derived.WalkSpells
import Derived.OwnWalk
import Derived.Laws.OwnMore
namespace Go.Proofs.Ytcbclmhkejknoaa
open Go.RowKit Go.Lib
set_option linter.unusedVariables false
set_option maxRecDepth 20000

/-- A disk that is put together in a box at X: its sectors lie in the row at b. -/
structure FlS (W2 : World) (X b d n : Nat) (L : List ByteArray) (w : World) : Prop where
  own : w.ownsRow W2.heap.size 9 1 (.slice (some ⟨b, 0, none⟩) n d) n (strRow L)
  bel : Below W2.heap.size W2 w
  box : w.heap[X]? = some (.cells #[.slice (some ⟨b, 0, none⟩) n d, .slice none 0 0] 25 (0, 0))
  len : L.length = n
  hX : W2.heap.size ≤ X
  ne : b ≠ X
theorem FlS.drew {W2 : World} {X b d n : Nat} {L : List ByteArray} {w : World} (h : FlS W2 X b d n L w) : FlS W2 X b d n L w.drew := ⟨ownS_below h.own (Below.refl _ _).drew, h.bel.drew, h.box, h.len, h.hX, h.ne⟩
theorem FlS.cells {W2 : World} {X b d n : Nat} {L : List ByteArray} {w : World} (h : FlS W2 X b d n L w) : w.cell? ⟨X, 0, none⟩ = some (.slice (some ⟨b, 0, none⟩) n d) ∧ w.cell? ⟨X, 1, none⟩ = some (.slice none 0 0) := by simp [World.cell?, h.box]
theorem FlS.at_ {W2 : World} {X b d n : Nat} {L : List ByteArray} {w : World} (h : FlS W2 X b d n L w) (A : Nat) (hA : A < n) : (∃ x, w.cell? ⟨b, A, none⟩ = some (.string x)) ∧ w.frozen? ⟨b, A, none⟩ = false := by
  have hl := h.len
  refine ⟨⟨L[A]'(by omega), ?_⟩, h.own.frozenAt A⟩
  rw [h.own.cellAt A (by omega)]
  simp [strRow, show A < L.length by omega]
theorem FlS.put {W2 : World} {X b d n : Nat} {L : List ByteArray} {w : World} (h : FlS W2 X b d n L w) (A : Nat) (D : ByteArray) : FlS W2 X b d n (L.set A D) (w.setCell ⟨b, A, none⟩ (.string D)) := by
  refine ⟨?_, h.bel.setCell (by show W2.heap.size ≤ b; exact (h.own.lt b rfl).1) _, ?_, by rw [List.length_set]; exact h.len, h.hX, h.ne⟩
  · have := (h.own.stored A (.string D)).1
    have e : (strRow L).set A (.string D) = strRow (L.set A D) := by simp [strRow, List.map_set]
    rw [e] at this; exact this
  · rw [show (w.setCell ⟨b, A, none⟩ (.string D)).heap[X]? = w.heap[X]? by simp [World.setCell, Array.getElem?_modify, h.ne]]
    exact h.box
def flC (ss : List ByteArray) (ps : List Pnd) : Int := if dskB ss ps = true then 0 else 1
def flS (ss : List ByteArray) (ps : List Pnd) : List ByteArray := if dskB ss ps = true then flushB ss ps else []

set_option maxHeartbeats 4000000 in
theorem specDiskFlush_any (q1 : Option Addr) (c1 : Nat) (ss : List ByteArray) (q2 : Option Addr) (c2 : Nat) (ps : List Pnd) (w : World) (h1 : TxtAt w q1 ss) (h2 : PndAt w q2 ps) (n1 : ss.length ≤ 1048576) (n2 : ps.length ≤ 1048576) (m1 : ss.length ≤ c1) (m2 : ps.length ≤ c2) :
    Calls Try.prog 23 #[.agg #[.slice q1 ss.length c1, .slice q2 ps.length c2]] w fun e w' => ∃ v1, e = .returned (.agg #[v1, .slice none 0 0, .string ByteArray.empty, .int .i64 (flC ss ps)]) ∧ DskO w.heap.size (flS ss ps) [] v1 (.slice none 0 0) w' ∧ Below w.heap.size w w' := by
  obtain ⟨W2, hW2⟩ : ∃ W2, W2 = (w.alloc (.cells #[.slice q1 ss.length c1, .slice q2 ps.length c2] 25)).alloc (.cells #[.slice none 0 0, .slice none 0 0, .string ⟨#[]⟩, .int .i64 0] 41) := ⟨_, rfl⟩
  have HW2 : Hid (W2 = (w.alloc (.cells #[.slice q1 ss.length c1, .slice q2 ps.length c2] 25)).alloc (.cells #[.slice none 0 0, .slice none 0 0, .string ⟨#[]⟩, .int .i64 0] 41)) := hW2
  have hs1 : (w.alloc (.cells #[.slice q1 ss.length c1, .slice q2 ps.length c2] 25)).heap.size = w.heap.size + 1 := by simp
  have S2 : W2.heap.size = w.heap.size + 2 := by rw [hW2]; simp
  have R0 : W2.heap[w.heap.size]? = some (.cells #[.slice q1 ss.length c1, .slice q2 ps.length c2] 25 (0, 0)) := by rw [hW2]; exact (Below.heap_alloc _ _ _ (by rw [hs1]; omega)).trans (MapKept.heap_alloc w _).1
  have R1 : W2.heap[w.heap.size + 1]? = some (.cells #[.slice none 0 0, .slice none 0 0, .string ByteArray.empty, .int .i64 0] 41 (0, 0)) := by rw [hW2, ← hs1]; exact (MapKept.heap_alloc _ _).1
  have B2 : Hid (Below w.heap.size w W2) := by rw [hW2]; exact ((Below.refl _ _).alloc (Nat.le_refl _) _).alloc (by rw [hs1]; omega) _
  have T1 : Hid (TxtAt W2 q1 ss) := h1.below B2.out
  have T2 : Hid (PndAt W2 q2 ps) := h2.below B2.out
  have HX : Hid (∀ x, Below W2.heap.size W2 x → x.cell? ⟨w.heap.size, 0, none⟩ = some (.slice q1 ss.length c1) ∧ x.cell? ⟨w.heap.size, 1, none⟩ = some (.slice q2 ps.length c2)) := fun x hb => by
    have h0 := (hb.block w.heap.size (by omega)).trans R0
    simp [World.cell?, h0]
  have HR : Hid (∀ x, Below W2.heap.size W2 x → x.cell? ⟨w.heap.size + 1, 0, none⟩ = some (.slice none 0 0) ∧ x.cell? ⟨w.heap.size + 1, 1, none⟩ = some (.slice none 0 0) ∧ x.cell? ⟨w.heap.size + 1, 2, none⟩ = some (.string ByteArray.empty) ∧ x.cell? ⟨w.heap.size + 1, 3, none⟩ = some (.int .i64 0) ∧ x.frozen? ⟨w.heap.size + 1, 0, none⟩ = false ∧ x.frozen? ⟨w.heap.size + 1, 1, none⟩ = false ∧ x.frozen? ⟨w.heap.size + 1, 2, none⟩ = false ∧ x.frozen? ⟨w.heap.size + 1, 3, none⟩ = false) := fun x hb => by
    have h1 := (hb.block (w.heap.size + 1) (by omega)).trans R1
    simp [World.cell?, World.frozen?, h1]
  have hD := specDiskRight_any q1 c1 ss q2 c2 ps W2 T1.out T2.out n1 n2 m1 m2
  obtain ⟨t0, t1⟩ := HX.out W2 (Below.refl _ _)
  clear hW2 R0 R1 h1 h2 hs1
  rw [HW2.out] at t0 t1
  cases hd : dskB ss ps with
  | false =>
    have hC : Hid (flC ss ps = 1 ∧ flS ss ps = []) := ⟨if_neg (by rw [hd]; exact Bool.false_ne_true), if_neg (by rw [hd]; exact Bool.false_ne_true)⟩
    rw [hd] at hD
    clear hd T1 T2
    go_enter Try.func23, Try.ntmps23
    go_wp2_with fail
    rw [← HW2.out]
    refine hD.mono ?_
    rintro e y1 ⟨rfl, b1⟩
    go_wp2_with fail
    refine (l05Ill_any 1 y1).mono ?_
    rintro e y2 ⟨rfl, b2⟩
    have b2 := chainB b1 b2
    have HE : Hid (∀ x0 x1 x2 x3 : Value, Below w.heap.size w ((((y2.setCell ⟨w.heap.size + 1, 0, none⟩ x0).setCell ⟨w.heap.size + 1, 1, none⟩ x1).setCell ⟨w.heap.size + 1, 2, none⟩ x2).setCell ⟨w.heap.size + 1, 3, none⟩ x3)) := fun x0 x1 x2 x3 => below_set4 (chainB B2.out b2) (by omega) _ _ _ _
    obtain ⟨r0, r1, r2, r3, f0, f1, f2, f3⟩ := HR.out y2 b2
    clear b1 b2 HR HX t0 t1
    go_wp2_with fail
    refine bodyPost_ret (v := .agg #[.slice none 0 0, .slice none 0 0, .string ByteArray.empty, .int .i64 1]) (by simp [results, Try.results23, go_sem, r0, r1, r2, r3]) rfl ?_
    rw [hC.out.1, hC.out.2]
    exact ⟨_, rfl, DskO.nil _ _, HE.out _ _ _ _⟩
  | true =>
  obtain ⟨⟨p1, p2⟩, p3, -, p5⟩ := dskB_parts hd
  have HV : Hid (flC ss ps = 0 ∧ flS ss ps = flushB ss ps) := ⟨if_pos hd, if_pos hd⟩
  have H5 : Hid (∀ p ∈ ps, pndOk ss.length p) := p5
  rw [hd] at hD
  clear hd p5
  go_enter Try.func23, Try.ntmps23
  go_wp2_with fail
  rw [← HW2.out]
  refine hD.mono ?_
  rintro e y1 ⟨rfl, b1⟩
  have bE : Below W2.heap.size W2 (y1.alloc (.cells #[] 9)) := alB b1 _
  obtain ⟨x0, x1⟩ := HX.out _ bE
  obtain ⟨v1, y2, hr, cop⟩ := copy_texts (y1.alloc (.cells #[] 9)) y1.heap.size (MapKept.heap_alloc y1 _).1 q1 c1 ss (T1.out.below bE) n1
  obtain ⟨b, d, rfl, hbd, hb1, hb2⟩ := cop.at_
  have b2 := chainB bE cop.bel
  have hbW : W2.heap.size ≤ b := by have := b1.size; rw [szA] at hb1; omega
  have F0 : Hid (FlS W2 y2.heap.size b d ss.length (flushB ss (ps.take 0)) (y2.alloc (.cells #[.slice (some ⟨b, 0, none⟩) ss.length d, .slice none 0 0] 25))) :=
    ⟨(own_up cop.own hbW).alloc _, alB b2 _, (MapKept.heap_alloc y2 _).1, rfl, b2.size, by omega⟩
  have U2 : Hid (∀ x, Below W2.heap.size W2 x → PndAt x q2 ps) := fun x hb => T2.out.below hb
  clear b1 t0 t1 cop hb1 hbW T1 T2 hD
  go_wp2_with (at_builtin; refine wpList_append_run rfl _ _ _ rfl _ _ _ _ rfl rfl hr ?_)
  go_loopw [4] (fun i wr => ∃ k : Nat, k ≤ ps.length ∧ i = .int .i64 k ∧ Hid (FlS W2 y2.heap.size b d ss.length (flushB ss (ps.take k)) wr)) (fun i _ => ps.length - (intOf i).toNat)
  case atStart => exact ⟨0, by omega, rfl, F0⟩
  case round =>
    clear F0 hr x0 x1 bE
    obtain ⟨k, hk, rfl, HF⟩ := hrel
    obtain ⟨x0, x1⟩ := HX.out _ HF.out.bel
    obtain ⟨k0, k1⟩ := HF.out.cells
    by_cases hlt : k < ps.length
    · obtain ⟨bp, op, rfl, hbp, hc1, hc2⟩ := U2.out _ HF.out.bel k hlt
      have hok := H5.out _ (List.getElem_mem hlt)
      have hsn := flushB_snoc ss ps k hlt
      have HP : Hid (∀ (A : Nat) (D : ByteArray), ps[k] = ((A : Int), D) → FlS W2 y2.heap.size b d ss.length (flushB ss (ps.take (k + 1))) (wr.setCell ⟨b, A, none⟩ (.string D))) := fun A D h => by
        rw [hsn, h]; exact HF.out.put A D
      have HQ : Hid (∀ A, A < ss.length → (∃ x, wr.cell? ⟨b, A, none⟩ = some (.string x)) ∧ wr.frozen? ⟨b, A, none⟩ = false) := fun A hA => HF.out.at_ A hA
      have i1 : (k : Int) < ps.length := by omega
      clear hsn HF
      generalize ps[k] = P at *
      obtain ⟨a, D⟩ := P
      obtain ⟨⟨ha0, ha1⟩, -⟩ := hok
      obtain ⟨A, rfl⟩ := Int.eq_ofNat_of_zero_le (show 0 ≤ a from ha0)
      have hA1 : (A : Int) < ss.length := by have : (A : Int) ≤ (ss.length : Int) - 1 := ha1; omega
      have hA : A < ss.length := by omega
      have hc1 : wr.cell? ⟨bp, op + k * 2, none⟩ = some (.int .i64 (A : Int)) := hc1
      have hc2 : wr.cell? ⟨bp, op + k * 2 + 1, none⟩ = some (.string D) := hc2
      obtain ⟨⟨xo, hco⟩, hfo⟩ := HQ.out A hA
      have HF2 : Hid (FlS W2 y2.heap.size b d ss.length (flushB ss (ps.take (k + 1))) (wr.setCell ⟨b, A, none⟩ (.string D)).drew) := (HP.out A D rfl).drew
      clear HP HQ ha0 ha1
      go_wp2_with fail
      go_region
      all_goals
        go_wp2_with fail
        go_roundw
        case rel => exact ⟨k + 1, by omega, by go_num, HF2⟩
        case measure => simp [intOf]; omega
    · obtain rfl : k = ps.length := by omega
      have HF2 := HF.out
      rw [List.take_of_length_le (Nat.le_refl _)] at HF2
      obtain ⟨r0, r1, r2, r3, f0, f1, f2, f3⟩ := HR.out _ HF2.bel
      have HE : Hid (∀ x0 x1 x2 x3 : Value, DskO w.heap.size (flushB ss ps) [] (.slice (some ⟨b, 0, none⟩) ss.length d) (.slice none 0 0) ((((wr.setCell ⟨w.heap.size + 1, 0, none⟩ x0).setCell ⟨w.heap.size + 1, 1, none⟩ x1).setCell ⟨w.heap.size + 1, 2, none⟩ x2).setCell ⟨w.heap.size + 1, 3, none⟩ x3) ∧ Below w.heap.size w ((((wr.setCell ⟨w.heap.size + 1, 0, none⟩ x0).setCell ⟨w.heap.size + 1, 1, none⟩ x1).setCell ⟨w.heap.size + 1, 2, none⟩ x2).setCell ⟨w.heap.size + 1, 3, none⟩ x3)) := fun x0 x1 x2 x3 => by
        have h0 : DskO W2.heap.size (flushB ss ps) [] (.slice (some ⟨b, 0, none⟩) ss.length d) (.slice none 0 0) wr := ⟨by rw [flushB_len]; exact HF2.own, World.ownsRow_nil _ _ _ _, .inr (fun h => by cases h)⟩
        exact ⟨(h0.set4 (by omega) x0 x1 x2 x3).mono (by omega), below_set4 (chainB B2.out HF2.bel) (by omega) _ _ _ _⟩
      clear HF HF2 HR HX
      go_wp2_with fail
      refine bodyPost_ret (v := .agg #[.slice (some ⟨b, 0, none⟩) ss.length d, .slice none 0 0, .string ByteArray.empty, .int .i64 0]) (by simp [results, Try.results23, go_sem, r0, r1, r2, r3]; rfl) rfl ?_
      rw [HV.out.1, HV.out.2]
      exact ⟨_, rfl, HE.out _ _ _ _⟩
end Go.Proofs.Ytcbclmhkejknoaa
