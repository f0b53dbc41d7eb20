/-
  What the specification's DiskRead answers.
-/
import Derived.Test.YtnppgldafhpchaaDoorRows
import Derived.Test.YtnppgldafhpchaaDoorBytes
import Derived.Test.YtnppgldafhpchaaDoorSlASlBOwnS
import Derived.Test.YtnppgldafhpchaaDoorDskMath
import Derived.Test.YtnppgldafhpchaaDoorDskR
import Derived.Test.YtnppgldafhpchaaDoorTextMathDskS
import Derived.Test.YtnppgldafhpchaaDoorDskA
import Derived.Test.YtnppgldafhpchaaDoorDskC
import Derived.Handy
import Derived.WalkSpells
import Derived.OwnWalk
namespace Go.Proofs.YtnppgldafhpchaaDoor
open Go.RowKit Go.Lib
set_option linter.unusedVariables false
set_option maxRecDepth 20000

theorem DskO.nil (base : Nat) (w : World) : DskO base [] [] (.slice none 0 0) (.slice none 0 0) w := ⟨World.ownsRow_nil _ _ _ _, World.ownsRow_nil _ _ _ _, .inl rfl⟩
theorem DskO.mono {base base' : Nat} {ss : List ByteArray} {ps : List Pnd} {v1 v2 : Value} {w : World} (h : DskO base ss ps v1 v2 w) (hb : base' ≤ base) : DskO base' ss ps v1 v2 w := ⟨ownS_mono h.own1 hb, ownS_mono h.own2 hb, h.ne⟩
theorem DskO.below {base : Nat} {ss : List ByteArray} {ps : List Pnd} {v1 v2 : Value} {w w' : World} (h : DskO base ss ps v1 v2 w) (hb : Below w.heap.size w w') : DskO base ss ps v1 v2 w' := ⟨ownS_below h.own1 hb, ownS_below h.own2 hb, h.ne⟩
theorem DskO.set {base : Nat} {ss : List ByteArray} {ps : List Pnd} {v1 v2 : Value} {w : World} (h : DskO base ss ps v1 v2 w) {g : Nat} (hg : g < base) (o : Nat) (x : Value) : DskO base ss ps v1 v2 (w.setCell ⟨g, o, none⟩ x) := ⟨ownsRow_setCell_below h.own1 hg _, ownsRow_setCell_below h.own2 hg _, h.ne⟩
theorem DskO.set4 {base : Nat} {ss : List ByteArray} {ps : List Pnd} {v1 v2 : Value} {w : World} (h : DskO base ss ps v1 v2 w) {g : Nat} (hg : g < base) (x0 x1 x2 x3 : Value) : DskO base ss ps v1 v2 ((((w.setCell ⟨g, 0, none⟩ x0).setCell ⟨g, 1, none⟩ x1).setCell ⟨g, 2, none⟩ x2).setCell ⟨g, 3, none⟩ x3) := (((h.set hg 0 x0).set hg 1 x1).set hg 2 x2).set hg 3 x3

def inB (ss : List ByteArray) (at_ : Int) : Bool := decide (0 ≤ at_ ∧ at_ ≤ (ss.length : Int) - 1)
def rdC (ss : List ByteArray) (ps : List Pnd) (at_ : Int) : Int := if dskB ss ps = true then (if inB ss at_ = true then 0 else 8) else 1
def rdS (ss : List ByteArray) (ps : List Pnd) (at_ : Int) : List ByteArray := if rdC ss ps at_ = 0 then ss else []
def rdP (ss : List ByteArray) (ps : List Pnd) (at_ : Int) : List Pnd := if rdC ss ps at_ = 0 then ps else []
def rdT (ss : List ByteArray) (ps : List Pnd) (at_ : Int) : ByteArray := if rdC ss ps at_ = 0 then readB ss ps at_ else ByteArray.empty

set_option maxHeartbeats 4000000 in
theorem specDiskRead_any (q1 : Option Addr) (c1 : Nat) (ss : List ByteArray) (q2 : Option Addr) (c2 : Nat) (ps : List Pnd) (at_ : Int) (w : World) (h1 : TxtAt w q1 ss) (h2 : PndAt w q2 ps) (n1 : ss.length ≤ 1048576) (n2 : ps.length ≤ 1048576) (m1 : ss.length ≤ c1) (m2 : ps.length ≤ c2) :
    Calls Tryd.prog 13 #[.agg #[.slice q1 ss.length c1, .slice q2 ps.length c2], .int .i64 at_] w fun e w' => ∃ v1 v2, e = .returned (.agg #[v1, v2, .string (rdT ss ps at_), .int .i64 (rdC ss ps at_)]) ∧ DskO w.heap.size (rdS ss ps at_) (rdP ss ps at_) v1 v2 w' ∧ Below w.heap.size w w' := by
  obtain ⟨W2, hW2⟩ : ∃ W2, W2 = (w.alloc (.cells #[.slice q1 ss.length c1, .slice q2 ps.length c2] 30)).alloc (.cells #[.slice none 0 0, .slice none 0 0, .string ⟨#[]⟩, .int .i64 0] 41) := ⟨_, rfl⟩
  have HW2 : Hid (W2 = (w.alloc (.cells #[.slice q1 ss.length c1, .slice q2 ps.length c2] 30)).alloc (.cells #[.slice none 0 0, .slice none 0 0, .string ⟨#[]⟩, .int .i64 0] 41)) := hW2
  have hs1 : (w.alloc (.cells #[.slice q1 ss.length c1, .slice q2 ps.length c2] 30)).heap.size = w.heap.size + 1 := by simp
  have S2 : W2.heap.size = w.heap.size + 2 := by rw [hW2]; simp
  have R0 : W2.heap[w.heap.size]? = some (.cells #[.slice q1 ss.length c1, .slice q2 ps.length c2] 30 (0, 0)) := by rw [hW2]; exact (Below.heap_alloc _ _ _ (by rw [hs1]; omega)).trans (MapKept.heap_alloc w _).1
  have R1 : W2.heap[w.heap.size + 1]? = some (.cells #[.slice none 0 0, .slice none 0 0, .string ByteArray.empty, .int .i64 0] 41 (0, 0)) := by rw [hW2, ← hs1]; exact (MapKept.heap_alloc _ _).1
  have B2 : Hid (Below w.heap.size w W2) := by rw [hW2]; exact ((Below.refl _ _).alloc (Nat.le_refl _) _).alloc (by rw [hs1]; omega) _
  have T1 : Hid (TxtAt W2 q1 ss) := h1.below B2.out
  have T2 : Hid (PndAt W2 q2 ps) := h2.below B2.out
  have HX : Hid (∀ x, Below W2.heap.size W2 x → x.cell? ⟨w.heap.size, 0, none⟩ = some (.slice q1 ss.length c1) ∧ x.cell? ⟨w.heap.size, 1, none⟩ = some (.slice q2 ps.length c2)) := fun x hb => by
    have h0 := (hb.block w.heap.size (by omega)).trans R0
    simp [World.cell?, h0]
  have HR : Hid (∀ x, Below W2.heap.size W2 x → x.cell? ⟨w.heap.size + 1, 0, none⟩ = some (.slice none 0 0) ∧ x.cell? ⟨w.heap.size + 1, 1, none⟩ = some (.slice none 0 0) ∧ x.cell? ⟨w.heap.size + 1, 2, none⟩ = some (.string ByteArray.empty) ∧ x.cell? ⟨w.heap.size + 1, 3, none⟩ = some (.int .i64 0) ∧ x.frozen? ⟨w.heap.size + 1, 0, none⟩ = false ∧ x.frozen? ⟨w.heap.size + 1, 1, none⟩ = false ∧ x.frozen? ⟨w.heap.size + 1, 2, none⟩ = false ∧ x.frozen? ⟨w.heap.size + 1, 3, none⟩ = false) := fun x hb => by
    have h1 := (hb.block (w.heap.size + 1) (by omega)).trans R1
    simp [World.cell?, World.frozen?, h1]
  have HEr : Hid (∀ (y : World) (c : Int) (x0 x1 x2 x3 : Value), Below W2.heap.size W2 y → rdC ss ps at_ = c → c ≠ 0 → ∃ v1 v2, Ending.returned (.agg #[.slice none 0 0, .slice none 0 0, .string ByteArray.empty, .int .i64 c]) = .returned (.agg #[v1, v2, .string (rdT ss ps at_), .int .i64 (rdC ss ps at_)]) ∧ DskO w.heap.size (rdS ss ps at_) (rdP ss ps at_) v1 v2 ((((y.setCell ⟨w.heap.size + 1, 0, none⟩ x0).setCell ⟨w.heap.size + 1, 1, none⟩ x1).setCell ⟨w.heap.size + 1, 2, none⟩ x2).setCell ⟨w.heap.size + 1, 3, none⟩ x3) ∧ Below w.heap.size w ((((y.setCell ⟨w.heap.size + 1, 0, none⟩ x0).setCell ⟨w.heap.size + 1, 1, none⟩ x1).setCell ⟨w.heap.size + 1, 2, none⟩ x2).setCell ⟨w.heap.size + 1, 3, none⟩ x3)) := by
    intro y c x0 x1 x2 x3 hb hc hn
    have hn' : ¬ rdC ss ps at_ = 0 := by rw [hc]; exact hn
    rw [show rdT ss ps at_ = ByteArray.empty from if_neg hn', show rdS ss ps at_ = [] from if_neg hn', show rdP ss ps at_ = [] from if_neg hn', hc]
    exact ⟨_, _, rfl, DskO.nil _ _, below_set4 (chainB B2.out hb) (by omega) _ _ _ _⟩
  have hD := specDiskRight_any q1 c1 ss q2 c2 ps W2 T1.out T2.out n1 n2 m1 m2
  obtain ⟨t0, t1⟩ := HX.out W2 (Below.refl _ _)
  clear hW2 R0 R1 h1 h2 hs1
  cases hd : dskB ss ps with
  | false =>
    have hC : Hid (rdC ss ps at_ = 1) := if_neg (by rw [hd]; exact Bool.false_ne_true)
    rw [hd] at hD
    rw [HW2.out] at t0 t1
    clear hd T1 T2
    go_enter Tryd.func13, Tryd.ntmps13
    go_wp2_with fail
    rw [← HW2.out]
    refine hD.mono ?_
    rintro e y1 ⟨rfl, b1⟩
    go_wp2_with fail
    refine (l05Ill_any 1 y1).mono ?_
    rintro e y2 ⟨rfl, b2⟩
    have b2 := chainB b1 b2
    have HE := fun x0 x1 x2 x3 => HEr.out y2 1 x0 x1 x2 x3 b2 hC.out (by omega)
    obtain ⟨r0, r1, r2, r3, f0, f1, f2, f3⟩ := HR.out y2 b2
    clear b1 b2 HEr HR HX t0 t1
    go_wp2_with fail
    refine bodyPost_ret (v := .agg #[.slice none 0 0, .slice none 0 0, .string ByteArray.empty, .int .i64 1]) (by simp [results, Tryd.results13, go_sem, r0, r1, r2, r3]) rfl ?_
    exact HE _ _ _ _
  | true =>
  obtain ⟨⟨p1, p2⟩, p3, p4, p5⟩ := dskB_parts hd
  rw [hd] at hD
  have HI : Hid (∀ x, Calls Tryd.prog 27 #[.int .i64 at_, .int .i64 0, .int .i64 ((ss.length : Int) - 1)] x fun e w' => e = .returned (.bool (inB ss at_)) ∧ w' = x) := fun x => l05Is_any _ _ _ x
  rw [HW2.out] at t0 t1
  cases hi : inB ss at_ with
  | false =>
    have hC : Hid (rdC ss ps at_ = 8) := by show (if dskB ss ps = true then _ else _) = _; rw [if_pos hd, if_neg (by rw [hi]; exact Bool.false_ne_true)]
    rw [hi] at HI
    clear hd hi T1 T2 p4 p5
    go_enter Tryd.func13, Tryd.ntmps13
    go_wp2_with fail
    rw [← HW2.out]
    refine hD.mono ?_
    rintro e y1 ⟨rfl, b1⟩
    obtain ⟨x0, x1⟩ := HX.out y1 b1
    clear t0 t1
    go_wp2_with fail
    refine (HI.out _).mono ?_
    rintro e y1 ⟨rfl, rfl⟩
    go_wp2_with fail
    refine (l05Ill_any 8 y1).mono ?_
    rintro e y2 ⟨rfl, b2⟩
    have b2 := chainB b1 b2
    have HE := fun x0 x1 x2 x3 => HEr.out y2 8 x0 x1 x2 x3 b2 hC.out (by omega)
    obtain ⟨r0, r1, r2, r3, f0, f1, f2, f3⟩ := HR.out y2 b2
    clear b1 b2 HEr HR HX x0 x1
    go_wp2_with fail
    refine bodyPost_ret (v := .agg #[.slice none 0 0, .slice none 0 0, .string ByteArray.empty, .int .i64 8]) (by simp [results, Tryd.results13, go_sem, r0, r1, r2, r3]) rfl ?_
    exact HE _ _ _ _
  | true =>
  have hC : rdC ss ps at_ = 0 := by show (if dskB ss ps = true then _ else _) = _; rw [if_pos hd, if_pos hi]
  have HV : Hid (rdT ss ps at_ = readB ss ps at_ ∧ rdS ss ps at_ = ss ∧ rdP ss ps at_ = ps ∧ rdC ss ps at_ = 0) := ⟨if_pos hC, if_pos hC, if_pos hC, hC⟩
  have hat : 0 ≤ at_ ∧ at_ ≤ (ss.length : Int) - 1 := by unfold inB at hi; rw [decide_eq_true_iff] at hi; exact hi
  rw [hi] at HI
  obtain ⟨A, rfl⟩ := Int.eq_ofNat_of_zero_le hat.1
  have hA : A < ss.length := by omega
  have hA1 : (A : Int) < ss.length := by omega
  have HSec : Hid (secAt ss (A : Int) = ss[A]) := by show ss.getD _ _ = _; simp [List.getD_eq_getElem?_getD, hA]
  have H4 : Hid (∀ x ∈ ss, x.size ≤ 64) := p4
  clear hd hi hC HEr hat p4 p5
  go_enter Tryd.func13, Tryd.ntmps13
  go_wp2_with fail
  rw [← HW2.out]
  refine hD.mono ?_
  rintro e y1 ⟨rfl, b1⟩
  obtain ⟨x0, x1⟩ := HX.out y1 b1
  clear t0 t1
  go_wp2_with fail
  refine (HI.out _).mono ?_
  rintro e y1 ⟨rfl, rfl⟩
  have U1 : Hid (TxtAt y1 q1 ss) := T1.out.below b1
  have U2 : Hid (PndAt y1 q2 ps) := T2.out.below b1
  obtain ⟨bq, oq, rfl, hbq, hcq⟩ := U1.out A hA
  have HSz : Hid (∀ x, x = ss[A] → x = readTo (A : Int) (secAt ss (A : Int)) (ps.take 0)) := fun x hx => by rw [hx, HSec.out]; rfl
  generalize ss[A] = X0 at *
  have HS0 : Hid (X0 = readTo (A : Int) (secAt ss (A : Int)) (ps.take 0)) := HSz.out X0 rfl
  clear HSz HSec
  go_wp2_with fail
  go_loop [5, 6] (fun s i => ∃ (k : Nat) (u : ByteArray), k ≤ ps.length ∧ s = .string u ∧ i = .int .i64 k ∧ Hid (u = readTo (A : Int) (secAt ss (A : Int)) (ps.take k))) (fun _ i => ps.length - (intOf i).toNat)
  case atStart => exact ⟨0, X0, by omega, rfl, rfl, HS0⟩
  case round =>
    obtain ⟨k, u, hk, rfl, rfl, HU⟩ := hrel
    by_cases hlt : k < ps.length
    · obtain ⟨b, off, rfl, hb, hc1, hc2⟩ := U2.out k hlt
      have hsn := readTo_snoc (A : Int) ps k hlt (secAt ss (A : Int))
      rw [← HU.out] at hsn
      have HU2 : Hid (∀ v, v = (if ps[k].1 = (A : Int) then ps[k].2 else u) → v = readTo (A : Int) (secAt ss (A : Int)) (ps.take (k + 1))) := fun v hv => by rw [hsn, hv]
      clear hsn HU
      generalize ps[k] = P at *
      obtain ⟨a, D⟩ := P
      have hc1 : y1.cell? ⟨b, off + k * 2, none⟩ = some (.int .i64 a) := hc1
      have hc2 : y1.cell? ⟨b, off + k * 2 + 1, none⟩ = some (.string D) := hc2
      by_cases he : a = (A : Int)
      · have HU3 : Hid (D = readTo (A : Int) (secAt ss (A : Int)) (ps.take (k + 1))) := HU2.out D (by rw [if_pos he])
        have hbe : (a == (A : Int)) = true := beq_iff_eq.2 he
        clear he HU2
        go_wp2_with fail
        go_round
        case rel => exact ⟨k + 1, D, by omega, rfl, by go_num, HU3⟩
        case measure => simp [intOf]; omega
      · have HU3 : Hid (u = readTo (A : Int) (secAt ss (A : Int)) (ps.take (k + 1))) := HU2.out u (by rw [if_neg he])
        have hbe : (a == (A : Int)) = false := beq_eq_false_iff_ne.2 he
        clear he HU2
        go_wp2_with fail
        go_round
        case rel => exact ⟨k + 1, u, by omega, rfl, by go_num, HU3⟩
        case measure => simp [intOf]; omega
    · obtain rfl : k = ps.length := by omega
      have HUr : Hid (u = readB ss ps (A : Int)) := by
        have h := HU.out
        rw [List.take_of_length_le (Nat.le_refl _)] at h
        exact h
      clear HU
      go_wp2_with fail
      refine (l05Copy_any _ c1 ss q2 c2 ps y1 U1.out U2.out n1 n2 m1 m2).mono ?_
      rintro e y2 ⟨v1, v2, rfl, ho, b2⟩
      have ho := ho.mono (show w.heap.size + 2 ≤ y1.heap.size by have := b1.size; omega)
      have b2 := chainB b1 b2
      obtain ⟨o1, d1, rfl, -, -⟩ := ownS_form ho.own1
      obtain ⟨o2, d2, rfl, -, -⟩ := ownP_form ho.own2
      have HE : Hid (∀ x0 x1 x2 x3 : Value, DskO w.heap.size ss ps (.slice o1 ss.length d1) (.slice o2 ps.length d2) ((((y2.setCell ⟨w.heap.size + 1, 0, none⟩ x0).setCell ⟨w.heap.size + 1, 1, none⟩ x1).setCell ⟨w.heap.size + 1, 2, none⟩ x2).setCell ⟨w.heap.size + 1, 3, none⟩ x3) ∧ Below w.heap.size w ((((y2.setCell ⟨w.heap.size + 1, 0, none⟩ x0).setCell ⟨w.heap.size + 1, 1, none⟩ x1).setCell ⟨w.heap.size + 1, 2, none⟩ x2).setCell ⟨w.heap.size + 1, 3, none⟩ x3)) := fun x0 x1 x2 x3 => ⟨(ho.set4 (by omega) x0 x1 x2 x3).mono (by omega), below_set4 (chainB B2.out b2) (by omega) _ _ _ _⟩
      obtain ⟨r0, r1, r2, r3, f0, f1, f2, f3⟩ := HR.out y2 b2
      clear b1 b2 HR HX x0 x1 ho
      go_wp2_with fail
      refine bodyPost_ret (v := .agg #[.slice o1 ss.length d1, .slice o2 ps.length d2, .string u, .int .i64 0]) (by simp [results, Tryd.results13, go_sem, r0, r1, r2, r3]) rfl ?_
      obtain ⟨e1, e2, e3, e4⟩ := HV.out
      rw [e1, e2, e3, e4, ← HUr.out]
      exact ⟨_, _, rfl, HE.out _ _ _ _⟩
end Go.Proofs.YtnppgldafhpchaaDoor
