/-
  What the specification's DiskWrite answers.
-/
import Derived.Test.YtcbclmhkejknoaaRows
import Derived.Test.YtcbclmhkejknoaaBytes
import Derived.Test.YtcbclmhkejknoaaSlA
import Derived.Test.YtcbclmhkejknoaaSlB
import Derived.Test.YtcbclmhkejknoaaOwnS
import Derived.Test.YtcbclmhkejknoaaDskMath
import Derived.Test.YtcbclmhkejknoaaDskR
import Derived.Test.YtcbclmhkejknoaaDskS
import Derived.Test.YtcbclmhkejknoaaDskA
import Derived.Test.YtcbclmhkejknoaaDskC
import Derived.Test.YtcbclmhkejknoaaDskT
import Derived.Test.YtcbclmhkejknoaaOwnB
import Derived.Handy
import Derived.WalkSpells
import Derived.OwnWalk
import Derived.Deep.AppendLies
namespace Go.Proofs.Ytcbclmhkejknoaa
open Go.RowKit Go.Lib
set_option linter.unusedVariables false
set_option maxRecDepth 20000

theorem app_pend (w : World) (base : Nat) (v : Value) (l : List Pnd) (own : w.ownsRow base 53 2 v l.length (pndRow l)) (x : Pnd) (hl : l.length + 1 ≤ 1048576) (hbase : base ≤ w.heap.size) :
    ∃ g c w', (Builtin.append_ #[23, 23] 23 #[v, .slice (some ⟨w.heap.size, 0, none⟩) 1 1]).run Try.prog (w.alloc (.cells #[.int .i64 x.1, .string x.2] 53)) = .ok (.slice (some ⟨g, 0, none⟩) (l.length + 1) c) w' ∧
      w'.ownsRow base 53 2 (.slice (some ⟨g, 0, none⟩) (l.length + 1) c) (l ++ [x]).length (pndRow (l ++ [x])) ∧ (w.alloc (.cells #[.int .i64 x.1, .string x.2] 53)).grownBy w' v.ownBlock ∧ (v.ownBlock = some g ∨ g = w.heap.size + 1) := by
  obtain ⟨i0, hi, hz0, hz1, hz2⟩ := info_parts infoPnd
  obtain ⟨g, c, w', h1, h2, h3, h4, _⟩ := run_append_lies (P := Try.prog) (w.alloc (.cells #[.int .i64 x.1, .string x.2] 53)) 23 23 base 53 i0 _ 2 24 Try.underlying23 hi hz0 hz1 hz2 rfl (by omega) v l.length (pndRow l) (own.alloc _) ⟨w.heap.size, 0, none⟩ 1 1 (pndRow [x]) rfl (fun j u hu => by
      have hj : j < 2 := by
        rcases Nat.lt_or_ge j 2 with q | q
        · exact q
        · rw [List.getElem?_eq_none (by rw [pndRow_len]; exact q)] at hu; cases hu
      have hadd : (⟨w.heap.size, 0, none⟩ : Addr).add j = ⟨w.heap.size, 0 + j, none⟩ := by unfold Addr.add; split <;> simp_all
      rw [hadd, Nat.zero_add, World.cell?_alloc_mark]
      match j, hj with
      | 0, _ => exact hu
      | 1, _ => exact hu) (fun u hu => by
      simp [pndRow] at hu
      rcases hu with rfl | rfl <;> rfl) (by omega) (by unfold maxLen; omega) (by omega) (by simp; omega) (w.heap.size + 1) (by simp)
  refine ⟨g, c, w', h1, ?_, h3, h4⟩
  have e1 : (l ++ [x]).length = l.length + 1 := by simp
  rw [e1, pndRow_append]; exact h2

def wrC (ss : List ByteArray) (ps : List Pnd) (at_ : Int) (data : ByteArray) : Int := if 8000 < data.size then 2 else if dskB ss ps = true ∧ data.size ≤ 64 then (if inB ss at_ = true then (if 200 ≤ ps.length then 9 else 0) else 8) else 1
def wrS (ss : List ByteArray) (ps : List Pnd) (at_ : Int) (data : ByteArray) : List ByteArray := if wrC ss ps at_ data = 0 then ss else []
def wrP (ss : List ByteArray) (ps : List Pnd) (at_ : Int) (data : ByteArray) : List Pnd := if wrC ss ps at_ data = 0 then ps ++ [(at_, data)] else []

set_option maxHeartbeats 4000000 in
theorem specDiskWrite_any (q1 : Option Addr) (c1 : Nat) (ss : List ByteArray) (q2 : Option Addr) (c2 : Nat) (ps : List Pnd) (at_ : Int) (data : ByteArray) (w : World) (h1 : TxtAt w q1 ss) (h2 : PndAt w q2 ps) (n1 : ss.length ≤ 1048576) (n2 : ps.length ≤ 1048576) (m1 : ss.length ≤ c1) (m2 : ps.length ≤ c2) (hdt : data.size ≤ 1048576) :
    Calls Try.prog 21 #[.agg #[.slice q1 ss.length c1, .slice q2 ps.length c2], .int .i64 at_, .string data] w fun e w' => ∃ v1 v2, e = .returned (.agg #[v1, v2, .string ByteArray.empty, .int .i64 (wrC ss ps at_ data)]) ∧ DskO w.heap.size (wrS ss ps at_ data) (wrP ss ps at_ data) v1 v2 w' ∧ Below w.heap.size w w' := by
  obtain ⟨W2, hW2⟩ : ∃ W2, W2 = (w.alloc (.cells #[.slice q1 ss.length c1, .slice q2 ps.length c2] 25)).alloc (.cells #[.slice none 0 0, .slice none 0 0, .string ⟨#[]⟩, .int .i64 0] 41) := ⟨_, rfl⟩
  have HW2 : Hid (W2 = (w.alloc (.cells #[.slice q1 ss.length c1, .slice q2 ps.length c2] 25)).alloc (.cells #[.slice none 0 0, .slice none 0 0, .string ⟨#[]⟩, .int .i64 0] 41)) := hW2
  have hs1 : (w.alloc (.cells #[.slice q1 ss.length c1, .slice q2 ps.length c2] 25)).heap.size = w.heap.size + 1 := by simp
  have S2 : W2.heap.size = w.heap.size + 2 := by rw [hW2]; simp
  have R0 : W2.heap[w.heap.size]? = some (.cells #[.slice q1 ss.length c1, .slice q2 ps.length c2] 25 (0, 0)) := by rw [hW2]; exact (Below.heap_alloc _ _ _ (by rw [hs1]; omega)).trans (MapKept.heap_alloc w _).1
  have R1 : W2.heap[w.heap.size + 1]? = some (.cells #[.slice none 0 0, .slice none 0 0, .string ByteArray.empty, .int .i64 0] 41 (0, 0)) := by rw [hW2, ← hs1]; exact (MapKept.heap_alloc _ _).1
  have B2 : Hid (Below w.heap.size w W2) := by rw [hW2]; exact ((Below.refl _ _).alloc (Nat.le_refl _) _).alloc (by rw [hs1]; omega) _
  have T1 : Hid (TxtAt W2 q1 ss) := h1.below B2.out
  have T2 : Hid (PndAt W2 q2 ps) := h2.below B2.out
  have HX : Hid (∀ x, Below W2.heap.size W2 x → x.cell? ⟨w.heap.size, 0, none⟩ = some (.slice q1 ss.length c1) ∧ x.cell? ⟨w.heap.size, 1, none⟩ = some (.slice q2 ps.length c2)) := fun x hb => by
    have h0 := (hb.block w.heap.size (by omega)).trans R0
    simp [World.cell?, h0]
  have HR : Hid (∀ x, Below W2.heap.size W2 x → x.cell? ⟨w.heap.size + 1, 0, none⟩ = some (.slice none 0 0) ∧ x.cell? ⟨w.heap.size + 1, 1, none⟩ = some (.slice none 0 0) ∧ x.cell? ⟨w.heap.size + 1, 2, none⟩ = some (.string ByteArray.empty) ∧ x.cell? ⟨w.heap.size + 1, 3, none⟩ = some (.int .i64 0) ∧ x.frozen? ⟨w.heap.size + 1, 0, none⟩ = false ∧ x.frozen? ⟨w.heap.size + 1, 1, none⟩ = false ∧ x.frozen? ⟨w.heap.size + 1, 2, none⟩ = false ∧ x.frozen? ⟨w.heap.size + 1, 3, none⟩ = false) := fun x hb => by
    have h1 := (hb.block (w.heap.size + 1) (by omega)).trans R1
    simp [World.cell?, World.frozen?, h1]
  have HEr : Hid (∀ (y : World) (c : Int) (x0 x1 x2 x3 : Value), Below W2.heap.size W2 y → wrC ss ps at_ data = c → c ≠ 0 → ∃ v1 v2, Ending.returned (.agg #[.slice none 0 0, .slice none 0 0, .string ByteArray.empty, .int .i64 c]) = .returned (.agg #[v1, v2, .string ByteArray.empty, .int .i64 (wrC ss ps at_ data)]) ∧ DskO w.heap.size (wrS ss ps at_ data) (wrP ss ps at_ data) v1 v2 ((((y.setCell ⟨w.heap.size + 1, 0, none⟩ x0).setCell ⟨w.heap.size + 1, 1, none⟩ x1).setCell ⟨w.heap.size + 1, 2, none⟩ x2).setCell ⟨w.heap.size + 1, 3, none⟩ x3) ∧ Below w.heap.size w ((((y.setCell ⟨w.heap.size + 1, 0, none⟩ x0).setCell ⟨w.heap.size + 1, 1, none⟩ x1).setCell ⟨w.heap.size + 1, 2, none⟩ x2).setCell ⟨w.heap.size + 1, 3, none⟩ x3)) := by
    intro y c x0 x1 x2 x3 hb hc hn
    have hn' : ¬ wrC ss ps at_ data = 0 := by rw [hc]; exact hn
    rw [show wrS ss ps at_ data = [] from if_neg hn', show wrP ss ps at_ data = [] from if_neg hn', hc]
    exact ⟨_, _, rfl, DskO.nil _ _, below_set4 (chainB B2.out hb) (by omega) _ _ _ _⟩
  have hD := specDiskRight_any q1 c1 ss q2 c2 ps W2 T1.out T2.out n1 n2 m1 m2
  obtain ⟨t0, t1⟩ := HX.out W2 (Below.refl _ _)
  clear hW2 R0 R1 h1 h2 hs1
  by_cases h8 : 8000 < data.size
  · have hC : Hid (wrC ss ps at_ data = 2) := if_pos h8
    have d8 : decide (8000 < (data.size : Int)) = true := decide_eq_true (by omega)
    clear T1 T2 hD h8
    go_enter Try.func21, Try.ntmps21
    go_wp2_with fail
    rw [← HW2.out]
    refine (l05Ill_any 2 W2).mono ?_
    rintro e y2 ⟨rfl, b2⟩
    have HE := fun x0 x1 x2 x3 => HEr.out y2 2 x0 x1 x2 x3 b2 hC.out (by omega)
    obtain ⟨r0, r1, r2, r3, f0, f1, f2, f3⟩ := HR.out y2 b2
    clear b2 HEr HR HX t0 t1
    go_wp2_with fail
    refine bodyPost_ret (v := .agg #[.slice none 0 0, .slice none 0 0, .string ByteArray.empty, .int .i64 2]) (by simp [results, Try.results21, go_sem, r0, r1, r2, r3]) rfl ?_
    exact HE _ _ _ _
  have d8 : decide (8000 < (data.size : Int)) = false := decide_eq_false (by omega)
  have hC0 : wrC ss ps at_ data = if dskB ss ps = true ∧ data.size ≤ 64 then (if inB ss at_ = true then (if 200 ≤ ps.length then 9 else 0) else 8) else 1 := if_neg h8
  rw [HW2.out] at t0 t1
  cases hd : dskB ss ps with
  | false =>
    have hC : Hid (wrC ss ps at_ data = 1) := by show _ = _; rw [hC0, if_neg (fun h => by rw [hd] at h; cases h.1)]
    rw [hd] at hD
    clear hd T1 T2 hC0 h8
    go_enter Try.func21, Try.ntmps21
    go_wp2_with fail
    rw [← HW2.out]
    refine hD.mono ?_
    rintro e y1 ⟨rfl, b1⟩
    go_wp2_with fail
    refine (l05Ill_any 1 y1).mono ?_
    rintro e y2 ⟨rfl, b2⟩
    have b2 := chainB b1 b2
    have HE := fun x0 x1 x2 x3 => HEr.out y2 1 x0 x1 x2 x3 b2 hC.out (by omega)
    obtain ⟨r0, r1, r2, r3, f0, f1, f2, f3⟩ := HR.out y2 b2
    clear b1 b2 HEr HR HX t0 t1
    go_wp2_with fail
    refine bodyPost_ret (v := .agg #[.slice none 0 0, .slice none 0 0, .string ByteArray.empty, .int .i64 1]) (by simp [results, Try.results21, go_sem, r0, r1, r2, r3]) rfl ?_
    exact HE _ _ _ _
  | true =>
  obtain ⟨⟨p1, p2⟩, p3, -, -⟩ := dskB_parts hd
  rw [hd] at hD
  by_cases h64 : data.size ≤ 64
  case neg =>
    have hC : Hid (wrC ss ps at_ data = 1) := by show _ = _; rw [hC0, if_neg (fun h => h64 h.2)]
    have d64 : decide (64 < (data.size : Int)) = true := decide_eq_true (by omega)
    clear hd T1 T2 hC0 h8 h64
    go_enter Try.func21, Try.ntmps21
    go_wp2_with fail
    rw [← HW2.out]
    refine hD.mono ?_
    rintro e y1 ⟨rfl, b1⟩
    go_wp2_with fail
    refine (l05Ill_any 1 y1).mono ?_
    rintro e y2 ⟨rfl, b2⟩
    have b2 := chainB b1 b2
    have HE := fun x0 x1 x2 x3 => HEr.out y2 1 x0 x1 x2 x3 b2 hC.out (by omega)
    obtain ⟨r0, r1, r2, r3, f0, f1, f2, f3⟩ := HR.out y2 b2
    clear b1 b2 HEr HR HX t0 t1
    go_wp2_with fail
    refine bodyPost_ret (v := .agg #[.slice none 0 0, .slice none 0 0, .string ByteArray.empty, .int .i64 1]) (by simp [results, Try.results21, go_sem, r0, r1, r2, r3]) rfl ?_
    exact HE _ _ _ _
  have d64 : decide (64 < (data.size : Int)) = false := decide_eq_false (by omega)
  rw [if_pos ⟨hd, h64⟩] at hC0
  have HI : Hid (∀ x, Calls Try.prog 24 #[.int .i64 at_, .int .i64 0, .int .i64 ((ss.length : Int) - 1)] x fun e w' => e = .returned (.bool (inB ss at_)) ∧ w' = x) := fun x => l05Is_any _ _ _ x
  cases hi : inB ss at_ with
  | false =>
    have hC : Hid (wrC ss ps at_ data = 8) := by show _ = _; rw [hC0, if_neg (by rw [hi]; exact Bool.false_ne_true)]
    rw [hi] at HI
    clear hd hi T1 T2 hC0 h8 h64
    go_enter Try.func21, Try.ntmps21
    go_wp2_with fail
    rw [← HW2.out]
    refine hD.mono ?_
    rintro e y1 ⟨rfl, b1⟩
    obtain ⟨x0, x1⟩ := HX.out y1 b1
    clear t0 t1
    go_wp2_with fail
    refine (HI.out _).mono ?_
    rintro e y1 ⟨rfl, rfl⟩
    go_wp2_with fail
    refine (l05Ill_any 8 y1).mono ?_
    rintro e y2 ⟨rfl, b2⟩
    have b2 := chainB b1 b2
    have HE := fun x0 x1 x2 x3 => HEr.out y2 8 x0 x1 x2 x3 b2 hC.out (by omega)
    obtain ⟨r0, r1, r2, r3, f0, f1, f2, f3⟩ := HR.out y2 b2
    clear b1 b2 HEr HR HX x0 x1
    go_wp2_with fail
    refine bodyPost_ret (v := .agg #[.slice none 0 0, .slice none 0 0, .string ByteArray.empty, .int .i64 8]) (by simp [results, Try.results21, go_sem, r0, r1, r2, r3]) rfl ?_
    exact HE _ _ _ _
  | true =>
  rw [if_pos hi] at hC0
  rw [hi] at HI
  by_cases h200 : 200 ≤ ps.length
  · have hC : Hid (wrC ss ps at_ data = 9) := by show _ = _; rw [hC0, if_pos h200]
    have d200 : decide (200 ≤ (ps.length : Int)) = true := decide_eq_true (by omega)
    clear hd hi T1 T2 hC0 h8 h64 h200
    go_enter Try.func21, Try.ntmps21
    go_wp2_with fail
    rw [← HW2.out]
    refine hD.mono ?_
    rintro e y1 ⟨rfl, b1⟩
    obtain ⟨x0, x1⟩ := HX.out y1 b1
    clear t0 t1
    go_wp2_with fail
    refine (HI.out _).mono ?_
    rintro e y1 ⟨rfl, rfl⟩
    go_wp2_with fail
    refine (l05Ill_any 9 y1).mono ?_
    rintro e y2 ⟨rfl, b2⟩
    have b2 := chainB b1 b2
    have HE := fun x0 x1 x2 x3 => HEr.out y2 9 x0 x1 x2 x3 b2 hC.out (by omega)
    obtain ⟨r0, r1, r2, r3, f0, f1, f2, f3⟩ := HR.out y2 b2
    clear b1 b2 HEr HR HX x0 x1
    go_wp2_with fail
    refine bodyPost_ret (v := .agg #[.slice none 0 0, .slice none 0 0, .string ByteArray.empty, .int .i64 9]) (by simp [results, Try.results21, go_sem, r0, r1, r2, r3]) rfl ?_
    exact HE _ _ _ _
  have d200 : decide (200 ≤ (ps.length : Int)) = false := decide_eq_false (by omega)
  have hC : wrC ss ps at_ data = 0 := by rw [hC0, if_neg h200]
  have HV : Hid (wrS ss ps at_ data = ss ∧ wrP ss ps at_ data = ps ++ [(at_, data)] ∧ wrC ss ps at_ data = 0) := ⟨if_pos hC, if_pos hC, hC⟩
  clear hd hi hC0 hC HEr h8
  go_enter Try.func21, Try.ntmps21
  go_wp2_with fail
  rw [← HW2.out]
  refine hD.mono ?_
  rintro e y1 ⟨rfl, b1⟩
  obtain ⟨x0, x1⟩ := HX.out y1 b1
  clear t0 t1
  go_wp2_with fail
  refine (HI.out _).mono ?_
  rintro e y1 ⟨rfl, rfl⟩
  go_wp2_with fail
  refine (l05Copy_any q1 c1 ss q2 c2 ps y1 (T1.out.below b1) (T2.out.below b1) n1 n2 m1 m2).mono ?_
  rintro e y2 ⟨v1, v2, rfl, ho, b2⟩
  have ho := ho.mono (show W2.heap.size ≤ y1.heap.size from b1.size)
  have b2 := chainB b1 b2
  obtain ⟨o1, d1, rfl, -, -⟩ := ownS_form ho.own1
  obtain ⟨o2, d2, rfl, -, -⟩ := ownP_form ho.own2
  obtain ⟨Y, hY⟩ : ∃ Y, Y = y2.alloc (.cells #[.slice o1 ss.length d1, .slice o2 ps.length d2] 25) := ⟨_, rfl⟩
  have HY : Hid (Y = y2.alloc (.cells #[.slice o1 ss.length d1, .slice o2 ps.length d2] 25)) := hY
  have SY : Y.heap.size = y2.heap.size + 1 := by rw [hY]; simp
  have RY : Y.heap[y2.heap.size]? = some (.cells #[.slice o1 ss.length d1, .slice o2 ps.length d2] 25 (0, 0)) := by rw [hY]; exact (MapKept.heap_alloc _ _).1
  have bY : Below W2.heap.size W2 Y := by rw [hY]; exact alB b2 _
  have hoY : DskO W2.heap.size ss ps (.slice o1 ss.length d1) (.slice o2 ps.length d2) Y := by rw [hY]; exact ho.below ((Below.refl _ _).alloc (Nat.le_refl _) _)
  obtain ⟨g, cg, y3, hr3, ow3, gr3, at3⟩ := app_pend Y W2.heap.size _ ps hoY.own2 (at_, data) (by omega) bY.size
  have hv2 : ∀ j, (Value.slice o2 ps.length d2).ownBlock = some j → W2.heap.size ≤ j ∧ j < y2.heap.size := fun j hj => ho.own2.lt j hj
  have b3 : Below W2.heap.size W2 y3 := (alB bY _).grown gr3 (by rw [szA]; have := bY.size; omega) (fun j hj => (hv2 j hj).1)
  have R3 : y3.heap[y2.heap.size]? = some (.cells #[.slice o1 ss.length d1, .slice o2 ps.length d2] 25 (0, 0)) := by
    rw [gr3.block y2.heap.size (by rw [szA]; omega) (fun h => by have := (hv2 _ h.symm).2; omega)]
    exact (Below.heap_alloc _ _ _ (by omega)).trans RY
  have k0 : y3.cell? ⟨y2.heap.size, 0, none⟩ = some (.slice o1 ss.length d1) ∧ y3.cell? ⟨y2.heap.size, 1, none⟩ = some (.slice o2 ps.length d2) ∧ y3.frozen? ⟨y2.heap.size, 1, none⟩ = false := by simp [World.cell?, World.frozen?, R3]
  obtain ⟨k0, k1, k2⟩ := k0
  have ow1 : y3.ownsRow W2.heap.size 9 1 (.slice o1 ss.length d1) ss.length (strRow ss) := (hoY.own1.alloc _).kept gr3 hoY.ne
  have hv1 : ∀ j, (Value.slice o1 ss.length d1).ownBlock = some j → j < y2.heap.size := fun j hj => (ho.own1.lt j hj).2
  have hg2 : g ≠ y2.heap.size ∧ W2.heap.size ≤ g := by
    rcases at3 with h | h
    · have := hv2 g h; omega
    · have := b2.size; omega
  have hne : (Value.slice o1 ss.length d1).ownBlock = none ∨ (Value.slice o1 ss.length d1).ownBlock ≠ (Value.slice (some ⟨g, 0, none⟩) (ps.length + 1) cg).ownBlock := by
    rcases hoY.ne with h | h
    · exact .inl h
    · refine .inr (fun e => ?_)
      have e : (Value.slice o1 ss.length d1).ownBlock = some g := e
      rcases at3 with h2 | h2
      · exact h (e.trans h2.symm)
      · have := hv1 g e; omega
  have b4 : ∀ v, Below W2.heap.size W2 (y3.setCell ⟨y2.heap.size, 1, none⟩ v) := fun v => b3.setCell (by show W2.heap.size ≤ y2.heap.size; exact b2.size) _
  have ho4 : ∀ v, DskO W2.heap.size ss (ps ++ [(at_, data)]) (.slice o1 ss.length d1) (.slice (some ⟨g, 0, none⟩) (ps.length + 1) cg) (y3.setCell ⟨y2.heap.size, 1, none⟩ v) := fun v =>
    ⟨ownsRow_setCell_other ow1 (fun e => by have := hv1 _ e; exact absurd this (Nat.lt_irrefl _)) _, ownsRow_setCell_other ow3 (fun e => hg2.1 (by simpa [Value.ownBlock] using e)) _, hne⟩
  have HE : Hid (∀ v x0 x1 x2 x3 : Value, DskO w.heap.size ss (ps ++ [(at_, data)]) (.slice o1 ss.length d1) (.slice (some ⟨g, 0, none⟩) (ps.length + 1) cg) (((((y3.setCell ⟨y2.heap.size, 1, none⟩ v).setCell ⟨w.heap.size + 1, 0, none⟩ x0).setCell ⟨w.heap.size + 1, 1, none⟩ x1).setCell ⟨w.heap.size + 1, 2, none⟩ x2).setCell ⟨w.heap.size + 1, 3, none⟩ x3) ∧ Below w.heap.size w (((((y3.setCell ⟨y2.heap.size, 1, none⟩ v).setCell ⟨w.heap.size + 1, 0, none⟩ x0).setCell ⟨w.heap.size + 1, 1, none⟩ x1).setCell ⟨w.heap.size + 1, 2, none⟩ x2).setCell ⟨w.heap.size + 1, 3, none⟩ x3)) := fun v x0 x1 x2 x3 => ⟨((ho4 v).set4 (by omega) x0 x1 x2 x3).mono (by omega), below_set4 (chainB B2.out (b4 v)) (by omega) _ _ _ _⟩
  obtain ⟨r0, r1, r2, r3, f0, f1, f2, f3⟩ := HR.out _ (b4 (.slice (some ⟨g, 0, none⟩) (ps.length + 1) cg))
  rw [hY] at hr3
  dsimp only at hr3
  rw [show (y2.alloc (.cells #[.slice o1 ss.length d1, .slice o2 ps.length d2] 25)).heap.size = y2.heap.size + 1 by simp] at hr3
  clear b1 b2 b3 b4 HR HX x0 x1 ho hoY ho4 bY hY RY SY R3 ow1 ow3 gr3 at3 hv1 hv2 hg2 hne
  go_wp2_with (at_builtin; refine wpList_append_run rfl _ _ _ rfl _ _ _ _ rfl rfl hr3 ?_)
  refine bodyPost_ret (v := .agg #[.slice o1 ss.length d1, .slice (some ⟨g, 0, none⟩) (ps.length + 1) cg, .string ByteArray.empty, .int .i64 0]) (by simp [results, Try.results21, go_sem, r0, r1, r2, r3]; rfl) rfl ?_
  obtain ⟨e1, e2, e3⟩ := HV.out
  rw [e1, e2, e3]
  exact ⟨_, _, rfl, HE.out _ _ _ _ _⟩
end Go.Proofs.Ytcbclmhkejknoaa
