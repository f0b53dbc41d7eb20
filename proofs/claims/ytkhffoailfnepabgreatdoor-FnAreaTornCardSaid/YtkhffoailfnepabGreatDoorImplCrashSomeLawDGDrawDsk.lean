/-
  Parts of one proof, laid as one text: ImplCrash, Some, LawDG, DrawDsk; what each says stands at its head.
-/
import Derived.Test.YtkhffoailfnepabGreatDoorRows
import Derived.Test.YtkhffoailfnepabGreatDoorBytesDigMath
import Derived.Test.YtkhffoailfnepabGreatDoorSlASlBOwnSOwnBSrc
import Derived.Test.YtkhffoailfnepabGreatDoorDrawsDrawKitDskMath
import Derived.Test.YtkhffoailfnepabGreatDoorDskSDskCDskT
import Derived.Test.YtkhffoailfnepabGreatDoorDskFDskK
import Derived.Test.YtkhffoailfnepabGreatDoorDskLawLawSLawSGLawP
import Derived.Test.YtkhffoailfnepabGreatDoorLawDLwDskLwArLawIPutMathPutNum
import Derived.Test.YtkhffoailfnepabGreatDoorPuLeImplDRImplAACopied
import Derived.Test.YtkhffoailfnepabGreatDoorImplDC
import Derived.Test.YtkhffoailfnepabGreatDoorImplDGImplFlushImplSt
import Derived.Handy
import Derived.WalkSpells
import Derived.OwnWalk
import Derived.Deep.RegionWith
import Derived.Test.YtkhffoailfnepabGreatDoorDskRAppSStepAppDskA
import Derived.Test.YtkhffoailfnepabGreatDoorDskW
/-
  What the program's DiskCrash answers: as the specification's.
  Conditions: the cells hold the texts, the pendings and the numbers; no text is greater than 2^20 bytes.
-/
namespace Go.Proofs.YtkhffoailfnepabGreatDoor
open Go.RowKit Go.Lib
set_option linter.unusedVariables false
set_option maxRecDepth 20000

theorem keptB_len (keep : List Int) (ps : List Pnd) : ∀ i, (keptB keep i ps).length ≤ ps.length := by
  induction ps with
  | nil => intro i; exact Nat.le_refl _
  | cons p ps ih =>
    intro i
    show (if 0 < keep.getD i 0 then p :: keptB keep (i + 1) ps else keptB keep (i + 1) ps).length ≤ _
    have := ih (i + 1)
    split
    · simp; exact this
    · simp; omega
set_option maxHeartbeats 4000000 in
theorem implDiskCrash_any (q1 : Option Addr) (c1 : Nat) (ss : List ByteArray) (q2 : Option Addr) (c2 : Nat) (ps : List Pnd) (q3 : Option Addr) (c3 : Nat) (keep : List Int) (w : World) (h1 : TxtAt w q1 ss) (h2 : PndAt w q2 ps) (h3 : IntAt w q3 keep) (n1 : ss.length ≤ 1048576) (n2 : ps.length ≤ 1048576) (n3 : keep.length ≤ 1048576) (m1 : ss.length ≤ c1) (m2 : ps.length ≤ c2) (m3 : keep.length ≤ c3) (s1 : ∀ x ∈ ss, x.size ≤ 1048576) (s2 : ∀ p ∈ ps, p.2.size ≤ 1048576) :
    Calls Tryz.prog 19 #[.agg #[.slice q1 ss.length c1, .slice q2 ps.length c2], .slice q3 keep.length c3] w fun e w' => ∃ v1 v2, e = .returned (.agg #[v1, v2]) ∧ DskO w.heap.size (crS ss ps keep) (crP ss ps keep) v1 v2 w' ∧ Below w.heap.size w w' := by
  obtain ⟨W2, hW2⟩ : ∃ W2, W2 = (w.alloc (.cells #[.slice q1 ss.length c1, .slice q2 ps.length c2] 26)).alloc (.cells #[.slice none 0 0, .slice none 0 0] 26) := ⟨_, rfl⟩
  have HW2 : Hid (W2 = (w.alloc (.cells #[.slice q1 ss.length c1, .slice q2 ps.length c2] 26)).alloc (.cells #[.slice none 0 0, .slice none 0 0] 26)) := hW2
  have hs1 : (w.alloc (.cells #[.slice q1 ss.length c1, .slice q2 ps.length c2] 26)).heap.size = w.heap.size + 1 := by simp
  have S2 : W2.heap.size = w.heap.size + 2 := by rw [hW2]; simp
  have R0 : W2.heap[w.heap.size]? = some (.cells #[.slice q1 ss.length c1, .slice q2 ps.length c2] 26 (0, 0)) := by rw [hW2]; exact (Below.heap_alloc _ _ _ (by rw [hs1]; omega)).trans (MapKept.heap_alloc w _).1
  have R1 : W2.heap[w.heap.size + 1]? = some (.cells #[.slice none 0 0, .slice none 0 0] 26 (0, 0)) := by rw [hW2, ← hs1]; exact (MapKept.heap_alloc _ _).1
  have B2 : Hid (Below w.heap.size w W2) := by rw [hW2]; exact ((Below.refl _ _).alloc (Nat.le_refl _) _).alloc (by rw [hs1]; omega) _
  have T1 : Hid (TxtAt W2 q1 ss) := h1.below B2.out
  have T2 : Hid (PndAt W2 q2 ps) := h2.below B2.out
  have T3 : Hid (IntAt W2 q3 keep) := h3.below B2.out
  have HX : Hid (∀ x, Below W2.heap.size W2 x → x.cell? ⟨w.heap.size, 0, none⟩ = some (.slice q1 ss.length c1) ∧ x.cell? ⟨w.heap.size, 1, none⟩ = some (.slice q2 ps.length c2)) := fun x hb => by
    have h0 := (hb.block w.heap.size (by omega)).trans R0
    simp [World.cell?, h0]
  have HR : Hid (∀ x, Below W2.heap.size W2 x → x.cell? ⟨w.heap.size + 1, 0, none⟩ = some (.slice none 0 0) ∧ x.cell? ⟨w.heap.size + 1, 1, none⟩ = some (.slice none 0 0) ∧ x.frozen? ⟨w.heap.size + 1, 0, none⟩ = false ∧ x.frozen? ⟨w.heap.size + 1, 1, none⟩ = false) := fun x hb => by
    have h1 := (hb.block (w.heap.size + 1) (by omega)).trans R1
    simp [World.cell?, World.frozen?, h1]
  have hD := implDiskRight_any q1 c1 ss q2 c2 ps W2 T1.out T2.out n1 n2 m1 m2
  obtain ⟨t0, t1⟩ := HX.out W2 (Below.refl _ _)
  have HSz : Hid (W2.heap.size = w.heap.size + 2) := S2
  have HS1 : Hid (∀ x ∈ ss, x.size ≤ 1048576) := s1
  have HS2 : Hid (∀ p ∈ ps, p.2.size ≤ 1048576) := s2
  clear hW2 R0 R1 h1 h2 h3 hs1 S2 s1 s2
  rw [HW2.out] at t0 t1
  by_cases h4 : 400 < keep.length
  · have hC : Hid (crS ss ps keep = [] ∧ crP ss ps keep = []) := ⟨if_pos h4, if_pos h4⟩
    have d4 : decide (400 < (keep.length : Int)) = true := decide_eq_true (by omega)
    clear T1 T2 T3 hD h4 HR HX
    go_enter Tryz.func19, Tryz.ntmps19
    go_wp2_with fail
    refine bodyPost_ret (v := .agg #[.slice none 0 0, .slice none 0 0]) (by simp [results, Tryz.results19, go_sem]) rfl ?_
    rw [hC.out.1, hC.out.2]
    refine ⟨_, _, rfl, DskO.nil _ _, ?_⟩
    rw [← HW2.out]
    exact B2.out
  have d4 : decide (400 < (keep.length : Int)) = false := decide_eq_false (by omega)
  cases hd : dskB ss ps with
  | false =>
    have hC : Hid (crS ss ps keep = ss ∧ crP ss ps keep = ps) := by
      have hn : ¬ dskB ss ps = true := by rw [hd]; exact Bool.false_ne_true
      refine ⟨?_, ?_⟩
      · unfold crS; rw [if_neg h4, if_neg hn]
      · unfold crP; rw [if_neg h4, if_neg hn]
    rw [hd] at hD
    clear hd h4
    go_enter Tryz.func19, Tryz.ntmps19
    go_wp2_with fail
    rw [← HW2.out]
    refine hD.mono ?_
    rintro e y1 ⟨rfl, b1⟩
    obtain ⟨x0, x1⟩ := HX.out y1 b1
    clear t0 t1
    go_wp2_with fail
    refine (copiedDisk_any q1 c1 ss q2 c2 ps y1 (T1.out.below b1) (T2.out.below b1) n1 n2 m1 m2 HS1.out HS2.out).mono ?_
    rintro e y2 ⟨v1, v2, rfl, ho, b2⟩
    have ho2 := ho.mono (show w.heap.size + 2 ≤ y1.heap.size by have := b1.size; have := HSz.out; omega)
    have b2 := chainB b1 b2
    obtain ⟨o1, d1, rfl, -, -⟩ := ownS_form ho2.own1
    obtain ⟨o2, d2, rfl, -, -⟩ := ownP_form ho2.own2
    have HE : Hid (∀ x0 x1 : Value, DskO w.heap.size ss ps (.slice o1 ss.length d1) (.slice o2 ps.length d2) ((y2.setCell ⟨w.heap.size + 1, 0, none⟩ x0).setCell ⟨w.heap.size + 1, 1, none⟩ x1) ∧ Below w.heap.size w ((y2.setCell ⟨w.heap.size + 1, 0, none⟩ x0).setCell ⟨w.heap.size + 1, 1, none⟩ x1)) := fun x0 x1 => ⟨(ho2.set2 (by omega) x0 x1).mono (by omega), below_set2 (chainB B2.out b2) (by omega) _ _⟩
    obtain ⟨r0, r1, f0, f1⟩ := HR.out y2 b2
    clear b1 b2 HR HX ho ho2 x0 x1
    go_wp2_with fail
    refine bodyPost_ret (v := .agg #[.slice o1 ss.length d1, .slice o2 ps.length d2]) (by simp [results, Tryz.results19, go_sem, r0, r1]) rfl ?_
    rw [hC.out.1, hC.out.2]
    exact ⟨_, _, rfl, HE.out _ _⟩
  | true =>
  obtain ⟨⟨p1, p2⟩, p3, p4, p5⟩ := dskB_parts hd
  have HV : Hid (crS ss ps keep = flushB ss (keptB keep 0 ps) ∧ crP ss ps keep = []) := by
    refine ⟨?_, ?_⟩
    · unfold crS; rw [if_neg h4, if_pos hd]; rfl
    · unfold crP; rw [if_neg h4, if_pos hd]
  rw [hd] at hD
  have QK : Hid (∀ x, Below W2.heap.size W2 x → Calls Tryz.prog 48 #[.slice q2 ps.length c2, .slice q3 keep.length c3] x fun e x1 => ∃ p c, e = .returned (.slice p (keptB keep 0 ps).length c) ∧ (keptB keep 0 ps).length ≤ c ∧ PndAt x1 p (keptB keep 0 ps) ∧ Below W2.heap.size W2 x1) := fun x hb => (keptOf_any q2 c2 ps q3 c3 keep x (T2.out.below hb) (T3.out.below hb) n2 n3 m2 m3).mono (by
    rintro e x1 ⟨v, rfl, ho, h1⟩
    obtain ⟨p, c, rfl, hc, hp⟩ := ownP_form ho
    exact ⟨p, c, rfl, hc, hp, chainB hb h1⟩)
  have QF : Hid (∀ x p c, Below W2.heap.size W2 x → (keptB keep 0 ps).length ≤ c → PndAt x p (keptB keep 0 ps) → Calls Tryz.prog 47 #[.slice q1 ss.length c1, .slice p (keptB keep 0 ps).length c] x fun e x1 => ∃ o d, e = .returned (.agg #[.slice o (flushB ss (keptB keep 0 ps)).length d, .slice none 0 0]) ∧ DskO (w.heap.size + 2) (flushB ss (keptB keep 0 ps)) [] (.slice o (flushB ss (keptB keep 0 ps)).length d) (.slice none 0 0) x1 ∧ Below W2.heap.size W2 x1) := fun x p c hb hc hp => (flushed_any q1 c1 ss p c (keptB keep 0 ps) x (T1.out.below hb) hp p1 p2 (by have := keptB_len keep ps 0; omega) m1 hc p4 (fun q hq => p5 q (kept_sub keep ps 0 q hq))).mono (by
    rintro e x1 ⟨v, rfl, ho, h1⟩
    have ho := ho.mono (show w.heap.size + 2 ≤ x.heap.size by have := hb.size; have := HSz.out; omega)
    obtain ⟨o, d, rfl, -, -⟩ := ownS_form ho.own1
    exact ⟨o, d, rfl, ho, chainB hb h1⟩)
  generalize keptB keep 0 ps = KP at *
  generalize flushB ss KP = FS at *
  clear hd p4 p5 h4
  go_enter Tryz.func19, Tryz.ntmps19
  go_wp2_with fail
  rw [← HW2.out]
  refine hD.mono ?_
  rintro e y1 ⟨rfl, b1⟩
  have H1 : Hid (Below W2.heap.size W2 y1) := b1
  obtain ⟨x0, x1⟩ := HX.out y1 b1
  clear t0 t1 b1
  go_wp2_with fail
  go_region_with (first
    | (go_at_call 48; refine (QK.out _ (by first | exact H1.out | exact H1.out.drew)).mono ?_; rintro e y2 ⟨pk, ck, rfl, hck, hpk, z2⟩; obtain ⟨j0, j1⟩ := HX.out _ z2)
    | (go_at_call 47; refine (QF.out _ pk ck (by first | exact z2 | exact z2.drew) hck (by first | exact hpk | exact hpk.below (Below.refl _ _).drew)).mono ?_; rintro e y3 ⟨o3, d3, rfl, ho3, z3⟩; obtain ⟨r0, r1, f0, f1⟩ := HR.out _ z3))
  all_goals
    have HE : Hid (∀ x0 x1 : Value, DskO w.heap.size FS [] (.slice o3 FS.length d3) (.slice none 0 0) ((y3.setCell ⟨w.heap.size + 1, 0, none⟩ x0).setCell ⟨w.heap.size + 1, 1, none⟩ x1) ∧ Below w.heap.size w ((y3.setCell ⟨w.heap.size + 1, 0, none⟩ x0).setCell ⟨w.heap.size + 1, 1, none⟩ x1)) := fun x0 x1 => ⟨(ho3.set2 (by omega) x0 x1).mono (by omega), below_set2 (chainB B2.out z3) (by omega) _ _⟩
    clear x0 x1 QK QF HX HR
    go_wp2_with fail
    refine bodyPost_ret (v := .agg #[.slice o3 FS.length d3, .slice none 0 0]) (by simp [results, Tryz.results19, go_sem, r0, r1]) rfl ?_
    rw [HV.out.1, HV.out.2]
    exact ⟨_, _, rfl, HE.out _ _⟩
end Go.Proofs.YtkhffoailfnepabGreatDoor
/-
  What l03Some draws: at most 30 texts of at most 101 bytes each, in a row that the call owns. The source's block alone is written.
  Conditions: the source is one ('Src').
-/
namespace Go.Proofs.YtkhffoailfnepabGreatDoor
open Go.RowKit Go.Lib
set_option linter.unusedVariables false
set_option maxRecDepth 20000

theorem BlkS.touch {w w' : World} {g p : Nat} {l : List ByteArray} (h : BlkS w g l) (hg : w.grownBy w' (some p)) (hne : g ≠ p) : BlkS w' g l := by
  unfold BlkS at *; rw [hg.block g (lt_of_block h) (fun e => hne (by cases e; rfl))]; exact h
theorem append_size (s t : ByteArray) : (s ++ t).size = s.size + t.size := by simp

theorem app_one (w : World) (base : Nat) (v : Value) (l : List ByteArray) (own : w.ownsRow base 9 1 v l.length (strRow l)) (T : ByteArray) (hl : l.length + 1 ≤ 1048576) (hbase : base ≤ w.heap.size) :
    ∃ v' w', (Builtin.append_ #[23, 23] 23 #[v, .slice (some ⟨w.heap.size, 0, none⟩) 1 1]).run Tryz.prog (w.alloc (.cells #[.string T] 9)) = .ok v' w' ∧ w'.ownsRow base 9 1 v' (l ++ [T]).length (strRow (l ++ [T])) ∧ (w.alloc (.cells #[.string T] 9)).grownBy w' v.ownBlock :=
  app_texts (w.alloc (.cells #[.string T] 9)) base v l (own.alloc _) (some ⟨w.heap.size, 0, none⟩) 1 [T] (alloc_str w [T]).txt hl (by simp; omega)
/-- What an append to an own row leaves of a source and of what was there. -/
theorem app_leaves {T : TypeId} {B p : Nat} {a : Option Addr} {len cap : Nat} {w0 w w' : World} {e : TypeId} {v : Value} {n : Nat} {xs : List Value} {x : Obj} (own : w.ownsRow w0.heap.size e 1 v n xs) (hs : Src T B p a len cap w) (hp : p < w0.heap.size) (hg : w0.grownBy w (some p)) (h : (w.alloc x).grownBy w' v.ownBlock) :
    Src T B p a len cap w' ∧ w0.grownBy w' (some p) := by
  have hrow : ∀ j, v.ownBlock = some j → w0.heap.size ≤ j := fun j hj => (own.lt j hj).1
  exact ⟨(hs.below ((Below.refl _ _).alloc (Nat.le_refl _) _)).other h (fun j hj => by have := hrow j hj; omega), touch_own (touch_below hg ((Below.refl _ _).alloc (Nat.le_refl _) _)) h hrow⟩

def fourS : List ByteArray := [⟨#[97]⟩, ⟨#[98]⟩, ⟨#[]⟩, ⟨#[101, 110, 116, 114, 121]⟩]
theorem fourS_small : ∀ t ∈ fourS, t.size ≤ 5 := by decide

end Go.Proofs.YtkhffoailfnepabGreatDoor
/-
  Boxes and rows of disks behind a call that marks two rows: what is apart from them stays.
-/
namespace Go.Proofs.YtkhffoailfnepabGreatDoor
open Go.RowKit Go.Lib
set_option linter.unusedVariables false

structure Gr2 (w w' : World) (b1 b2 : Option Nat) : Prop where
  os : w'.os = w.os
  tape : w'.tape = w.tape
  output : w'.output = w.output
  size : w.heap.size ≤ w'.heap.size
  block : ∀ k, k < w.heap.size → some k ≠ b1 → some k ≠ b2 → w'.heap[k]? = w.heap[k]?
theorem Gr2.mk2 {w wm w' : World} {b1 b2 : Option Nat} (h1 : w.grownBy wm b1) (h2 : wm.grownBy w' b2) : Gr2 w w' b1 b2 :=
  ⟨h2.os.trans h1.os, h2.tape.trans h1.tape, h2.output.trans h1.output, Nat.le_trans h1.size h2.size, fun k hk n1 n2 => (h2.block k (Nat.lt_of_lt_of_le hk h1.size) n2).trans (h1.block k hk n1)⟩
theorem Bxs.gr2 {w w' : World} {g : Nat} {T : TypeId} {cs : Array Value} {b1 b2 : Option Nat} (h : Bxs w g T cs) (hg : Gr2 w w' b1 b2) (n1 : some g ≠ b1) (n2 : some g ≠ b2) : Bxs w' g T cs := (hg.block g h.lt n1 n2).trans h
theorem own_gr2 {w w' : World} {base : Nat} {e : TypeId} {s : Nat} {v : Value} {n : Nat} {xs : List Value} {b1 b2 : Option Nat} (h : w.ownsRow base e s v n xs) (hg : Gr2 w w' b1 b2) (hn : ∀ j, v.ownBlock = some j → some j ≠ b1 ∧ some j ≠ b2) : w'.ownsRow base e s v n xs := by
  refine ⟨h.1, ?_⟩
  rcases h.2 with h0 | ⟨g, cap, cur, h1, h2, h3, h4⟩
  · exact .inl h0
  · obtain ⟨n1, n2⟩ := hn g (by rw [h1]; rfl)
    exact .inr ⟨g, cap, cur, h1, h2, (hg.block g (lt_of_block h3) n1 n2).trans h3, h4⟩
theorem below_gr2 {B : Nat} {a w w' : World} {b1 b2 : Option Nat} (h : Below B a w) (hg : Gr2 w w' b1 b2) (hB : B ≤ w.heap.size) (h1 : ∀ k, b1 = some k → B ≤ k) (h2 : ∀ k, b2 = some k → B ≤ k) : Below B a w' :=
  h.trans ⟨hg.os, hg.tape, hg.output, hg.size, fun k hk => hg.block k (by omega) (fun e => by have := h1 k e.symm; omega) (fun e => by have := h2 k e.symm; omega)⟩
/-- The blocks that two values own lie from lo to below hi. -/
def In2 (v1 v2 : Value) (lo hi : Nat) : Prop := (∀ j, v1.ownBlock = some j → lo ≤ j ∧ j < hi) ∧ ∀ j, v2.ownBlock = some j → lo ≤ j ∧ j < hi
theorem DskO.in2 {base : Nat} {ss : List ByteArray} {ps : List Pnd} {v1 v2 : Value} {w : World} (h : DskO base ss ps v1 v2 w) : In2 v1 v2 base w.heap.size := ⟨fun j hj => h.own1.lt j hj, fun j hj => h.own2.lt j hj⟩
theorem In2.off {v1 v2 : Value} {lo hi g : Nat} (h : In2 v1 v2 lo hi) (hg : g < lo ∨ hi ≤ g) : some g ≠ v1.ownBlock ∧ some g ≠ v2.ownBlock := ⟨fun e => by have := h.1 g e.symm; omega, fun e => by have := h.2 g e.symm; omega⟩
theorem In2.apart {v1 v2 u1 u2 : Value} {lo hi lo' hi' : Nat} (h : In2 v1 v2 lo hi) (h' : In2 u1 u2 lo' hi') (hd : hi ≤ lo' ∨ hi' ≤ lo) : (∀ j, v1.ownBlock = some j → some j ≠ u1.ownBlock ∧ some j ≠ u2.ownBlock) ∧ ∀ j, v2.ownBlock = some j → some j ≠ u1.ownBlock ∧ some j ≠ u2.ownBlock :=
  ⟨fun j hj => h'.off (by have := h.1 j hj; omega), fun j hj => h'.off (by have := h.2 j hj; omega)⟩
theorem DskO.gr2 {base : Nat} {ss : List ByteArray} {ps : List Pnd} {v1 v2 : Value} {w w' : World} {b1 b2 : Option Nat} (h : DskO base ss ps v1 v2 w) (hg : Gr2 w w' b1 b2) (hn : (∀ j, v1.ownBlock = some j → some j ≠ b1 ∧ some j ≠ b2) ∧ ∀ j, v2.ownBlock = some j → some j ≠ b1 ∧ some j ≠ b2) : DskO base ss ps v1 v2 w' := ⟨own_gr2 h.own1 hg hn.1, own_gr2 h.own2 hg hn.2, h.ne⟩
theorem Bxs.two {w : World} {g : Nat} {T : TypeId} {a b : Value} (h : Bxs w g T #[a, b]) : w.cell? ⟨g, 0, none⟩ = some a ∧ w.cell? ⟨g, 1, none⟩ = some b := ⟨h.cell 0, h.cell 1⟩
theorem Bxs.four {w : World} {g : Nat} {T : TypeId} {a b c d : Value} (h : Bxs w g T #[a, b, c, d]) : w.cell? ⟨g, 0, none⟩ = some a ∧ w.cell? ⟨g, 1, none⟩ = some b ∧ w.cell? ⟨g, 2, none⟩ = some c ∧ w.cell? ⟨g, 3, none⟩ = some d := ⟨h.cell 0, h.cell 1, h.cell 2, h.cell 3⟩
/-- What reads of a disk's rows. -/
theorem DskO.form {base : Nat} {ss : List ByteArray} {ps : List Pnd} {v1 v2 : Value} {w : World} (h : DskO base ss ps v1 v2 w) : ∃ p1 c1 p2 c2, v1 = .slice p1 ss.length c1 ∧ v2 = .slice p2 ps.length c2 ∧ ss.length ≤ c1 ∧ ps.length ≤ c2 := by
  obtain ⟨p1, c1, e1, m1, _⟩ := ownS_form h.own1
  obtain ⟨p2, c2, e2, m2, _⟩ := ownP_form h.own2
  exact ⟨p1, c1, p2, c2, e1, e2, m1, m2⟩
theorem DskO.read {base : Nat} {ss : List ByteArray} {ps : List Pnd} {p1 p2 : Option Addr} {c1 c2 : Nat} {w : World} (h : DskO base ss ps (.slice p1 ss.length c1) (.slice p2 ps.length c2) w) : TxtAt w p1 ss ∧ PndAt w p2 ps := by
  obtain ⟨p1', c1', e1, _, t1⟩ := ownS_form h.own1
  obtain ⟨p2', c2', e2, _, t2⟩ := ownP_form h.own2
  cases e1; cases e2
  exact ⟨t1, t2⟩
end Go.Proofs.YtkhffoailfnepabGreatDoor
/-
  What l05Disk draws, its parts: the disk that is drawn lies in a box of the call's own, beside the source.
-/
namespace Go.Proofs.YtkhffoailfnepabGreatDoor
open Go.RowKit Go.Lib
set_option linter.unusedVariables false

/-- A disk in a box at X (of block W on, W being the call's first), beside the source at p. -/
structure DrS (w0 : World) (B p : Nat) (a : Option Addr) (len cap X : Nat) (v1 v2 : Value) (ss : List ByteArray) (ps : List Pnd) (x : World) : Prop where
  src : Src 81 B p a len cap x
  gr : w0.grownBy x (some p)
  hp : p < w0.heap.size
  hX : w0.heap.size ≤ X
  box : Bxs x X 26 #[v1, v2]
  dsk : DskO w0.heap.size ss ps v1 v2 x
  n1 : some X ≠ v1.ownBlock
  n2 : some X ≠ v2.ownBlock
variable {w0 x x' : World} {B p : Nat} {a : Option Addr} {len cap X : Nat} {v1 v2 : Value} {ss : List ByteArray} {ps : List Pnd}
theorem grownBy_none_of_below {w w' : World} (h : Below w.heap.size w w') (row : Option Nat) : w.grownBy w' row := ⟨h.os, h.tape, h.output, h.size, fun k hk _ => h.block k hk⟩
theorem DrS.below (h : DrS w0 B p a len cap X v1 v2 ss ps x) (hb : Below x.heap.size x x') : DrS w0 B p a len cap X v1 v2 ss ps x' :=
  ⟨h.src.below hb, touch_trans h.gr (grownBy_none_of_below hb _), h.hp, h.hX, h.box.below hb, h.dsk.below hb, h.n1, h.n2⟩
theorem DskO.touch {base : Nat} {w w' : World} {g : Nat} (h : DskO base ss ps v1 v2 w) (hg : w.grownBy w' (some g)) (hlt : g < base) : DskO base ss ps v1 v2 w' :=
  ⟨h.own1.kept hg (.inr (fun e => by have := (h.own1.lt g e).1; omega)), h.own2.kept hg (.inr (fun e => by have := (h.own2.lt g e).1; omega)), h.ne⟩
theorem DrS.step (h : DrS w0 B p a len cap X v1 v2 ss ps x) (hs : Src 81 B p a len cap x') (hg : x.grownBy x' (some p)) : DrS w0 B p a len cap X v1 v2 ss ps x' :=
  ⟨hs, touch_trans h.gr hg, h.hp, h.hX, (hg.block X h.box.lt (fun e => by cases e; have := h.hp; have := h.hX; omega)).trans h.box, h.dsk.touch hg h.hp, h.n1, h.n2⟩
theorem DrS.drew (h : DrS w0 B p a len cap X v1 v2 ss ps x) : DrS w0 B p a len cap X v1 v2 ss ps x.drew := h.below (Below.refl _ _).drew
theorem DrS.al (h : DrS w0 B p a len cap X v1 v2 ss ps x) (o : Obj) : DrS w0 B p a len cap X v1 v2 ss ps (x.alloc o) := h.below ((Below.refl _ _).alloc (Nat.le_refl _) o)
theorem DrS.cells (h : DrS w0 B p a len cap X v1 v2 ss ps x) : x.cell? ⟨X, 0, none⟩ = some v1 ∧ x.cell? ⟨X, 1, none⟩ = some v2 ∧ x.frozen? ⟨X, 0, none⟩ = false ∧ x.frozen? ⟨X, 1, none⟩ = false := ⟨h.box.cell 0, h.box.cell 1, h.box.fr 0, h.box.fr 1⟩
/-- Another disk is put into the box. -/
theorem DrS.put (h : DrS w0 B p a len cap X v1 v2 ss ps x) {u1 u2 : Value} {ss' : List ByteArray} {ps' : List Pnd} (ho : DskO w0.heap.size ss' ps' u1 u2 x) (m1 : some X ≠ u1.ownBlock) (m2 : some X ≠ u2.ownBlock) :
    DrS w0 B p a len cap X u1 u2 ss' ps' ((x.setCell ⟨X, 0, none⟩ u1).setCell ⟨X, 1, none⟩ u2) := by
  have hX := h.hX
  have hp := h.hp
  have hl := h.box.lt
  have g1 : x.grownBy ((x.setCell ⟨X, 0, none⟩ u1).setCell ⟨X, 1, none⟩ u2) (some X) := by
    refine ⟨rfl, rfl, rfl, by simp [World.setCell], fun q hq hne => ?_⟩
    have hq' : X ≠ q := fun e => hne (by rw [e])
    simp [World.setCell, Array.getElem?_modify, hq']
  refine ⟨h.src.other g1 (fun j hj => by cases hj; omega), touch_own h.gr g1 (fun j hj => by cases hj; exact hX), hp, hX, (h.box.set 0 u1).set 1 u2, ⟨ho.own1.kept g1 (.inr (fun e => m1 e.symm)), ho.own2.kept g1 (.inr (fun e => m2 e.symm)), ho.ne⟩, m1, m2⟩
end Go.Proofs.YtkhffoailfnepabGreatDoor
