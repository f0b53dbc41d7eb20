/-
  Parts of one proof, laid as one text: GrK, ImplFT; what each says stands at its head.
-/
import Derived.Test.YtepmoihgemhjcaaGreatDoorRows
import Derived.Test.YtepmoihgemhjcaaGreatDoorBytesDigMath
import Derived.Test.YtepmoihgemhjcaaGreatDoorTreeMathSlABxKSlBOwnS
import Derived.Handy
import Derived.OwnWalk
import Derived.Test.YtepmoihgemhjcaaGreatDoorFldGSrcDrawsDrawKitAppSSomeDrawTreeScanMath
import Derived.Test.YtepmoihgemhjcaaGreatDoorLtMathLaMathLfMathTakesLStepAppBlNotTakes
import Derived.Test.YtepmoihgemhjcaaGreatDoorTimeBPutMathPutNumJoinedPutTextFldMath
import Derived.Test.YtepmoihgemhjcaaGreatDoorNameRight
import Derived.Test.YtepmoihgemhjcaaGreatDoorGetValGetTxtNumMathFldRdNumFromTmbMathFldRiseLgMath
import Derived.Test.YtepmoihgemhjcaaGreatDoorLgAtKLgAnsLgRtShwKOneKFldBlkRwBlk
import Derived.WalkSpells
import Derived.Deep.AppendLies
import Derived.Deep.RegionHeld3
import Derived.Deep.Cut
/-
  A world that has grown, one block turned: steps of it.
-/
namespace Go.Proofs.YtepmoihgemhjcaaGreatDoor
open Go.RowKit Go.Lib
set_option linter.unusedVariables false

theorem grown_below {w x : World} {P : Nat} (h : Below w.heap.size w x) : w.grownBy x (some P) := ⟨h.os, h.tape, h.output, h.size, fun g hg _ => h.block g hg⟩
theorem grown_set {w x : World} {P : Nat} (h : w.grownBy x (some P)) (i : Nat) (v : Value) : w.grownBy (x.setCell ⟨P, i, none⟩ v) (some P) := by
  refine ⟨h.os, h.tape, h.output, ?_, fun g hg hne => ?_⟩
  · have := h.size
    simpa [World.setCell] using this
  · have hne' : P ≠ g := fun e => hne (by rw [e])
    rw [show (x.setCell ⟨P, i, none⟩ v).heap[g]? = x.heap[g]? by simp [World.setCell, Array.getElem?_modify, hne']]
    exact h.block g hg hne
theorem grown_trans {a b c : World} {P : Nat} (h : a.grownBy b (some P)) (k : b.grownBy c (some P)) : a.grownBy c (some P) :=
  ⟨k.os.trans h.os, k.tape.trans h.tape, k.output.trans h.output, Nat.le_trans h.size k.size, fun g hg hne => (k.block g (Nat.lt_of_lt_of_le hg h.size) hne).trans (h.block g hg hne)⟩
theorem grown_drew {a b : World} {P : Nat} (h : a.grownBy b (some P)) : a.grownBy b.drew (some P) := ⟨h.os, h.tape, h.output, h.size, h.block⟩
/-- Behind a growth that turns a block of one's own all below is as it was. -/
theorem below_turned {B : Nat} {a x y : World} {P : Nat} (h : Below B a x) (k : x.grownBy y (some P)) (hx : B ≤ x.heap.size) (hP : B ≤ P) : Below B a y :=
  h.grown k hx (fun j hj => by have := hj; simp at this; omega)
end Go.Proofs.YtepmoihgemhjcaaGreatDoor
/-
  What the program's rowText answers.
  Conditions: the row is right; the cells of Fields hold the fields.
-/
namespace Go.Proofs.YtepmoihgemhjcaaGreatDoor
open Go.RowKit Go.Lib
set_option linter.unusedVariables false
set_option maxRecDepth 20000

/-- The texts of which rowText is put together. -/
def rtx (fs : List Fld) : List ByteArray := fs.flatMap (fun f => [putTextB f.n, putTextB f.c])
def rtB3 (k : ByteArray) (at_ : Int) (n : Nat) : List ByteArray := [putTextB k, putB at_, putB (n : Int)]
theorem rtx_len (fs : List Fld) : (rtx fs).length = 2 * fs.length := by
  induction fs with
  | nil => rfl
  | cons f fs ih => unfold rtx at *; rw [List.flatMap_cons, List.length_append, ih]; simp; omega
theorem rtx_succ (fs : List Fld) (j : Nat) (h : j < fs.length) : rtx (fs.take (j + 1)) = rtx (fs.take j) ++ [putTextB fs[j].n, putTextB fs[j].c] := by
  unfold rtx; rw [← List.take_append_getElem h, List.flatMap_append]; simp
theorem cat_app (a b : List ByteArray) : cat (a ++ b) = cat a ++ cat b := by
  apply ByteArray.ext; simp [cat]
theorem lfTo_cat : ∀ (fs : List Fld) (t : ByteArray), lfTo t fs = t ++ cat (rtx fs)
  | [], t => by apply ByteArray.ext; simp [lfTo, rtx, cat]
  | f :: fs, t => by
    show lfTo (t ++ putTextB f.n ++ putTextB f.c) fs = _
    rw [lfTo_cat fs]
    have : rtx (f :: fs) = [putTextB f.n, putTextB f.c] ++ rtx fs := by simp [rtx]
    rw [this, cat_app, cat_two, ByteArray.append_assoc, ByteArray.append_assoc, ByteArray.append_assoc]
theorem rt_cat (k : ByteArray) (at_ : Int) (fs : List Fld) : cat (rtB3 k at_ fs.length ++ rtx fs) = lfT k at_ fs := by
  unfold lfT
  rw [lfTo_cat, cat_app]
  congr 1
  apply ByteArray.ext; simp [cat, rtB3]
theorem cat_le (l : List ByteArray) (m : Nat) (h : ∀ x ∈ l, x.size ≤ m) : (cat l).size ≤ l.length * m := by
  induction l with
  | nil => rw [show cat [] = ByteArray.empty from rfl]; simp
  | cons a l ih =>
    have e : cat (a :: l) = a ++ cat l := by rw [show a :: l = [a] ++ l from rfl, cat_app, cat_one]
    have h1 := ih (fun x hx => h x (List.mem_cons_of_mem _ hx))
    have h2 := h a (List.mem_cons_self ..)
    rw [e, ByteArray.size_append, List.length_cons, Nat.add_mul]
    omega
theorem rt_sizes {k : ByteArray} {at_ : Int} {fs : List Fld} (hr : rwB k at_ fs = true) : ∀ x ∈ rtB3 k at_ fs.length ++ rtx fs, x.size ≤ 100 := by
  obtain ⟨hkk, -, ⟨hl1, hl3⟩, hfd, -⟩ := rwB_parts hr
  have hk20 := (nrB_le hkk).2
  intro x hx
  rcases List.mem_append.1 hx with hx | hx
  · have p1 := putTextB_le k (by omega)
    have p2 := putB_size at_
    have p3 := putB_size (fs.length : Int)
    simp [rtB3] at hx
    rcases hx with rfl | rfl | rfl <;> omega
  · unfold rtx at hx
    obtain ⟨f, hf, hx⟩ := List.mem_flatMap.1 hx
    have h1 := (nrB_le (fdB_parts (hfd f hf)).1).2
    have h2 := (fdB_parts (hfd f hf)).2.1
    have p1 := putTextB_le f.n (by omega)
    have p2 := putTextB_le f.c (by omega)
    simp at hx
    rcases hx with rfl | rfl <;> omega
theorem lfT_le {k : ByteArray} {at_ : Int} {fs : List Fld} (hr : rwB k at_ fs = true) : (lfT k at_ fs).size ≤ 900 := by
  have h := cat_le _ 100 (rt_sizes hr)
  rw [rt_cat, List.length_append, rtx_len] at h
  have h3 : (rtB3 k at_ fs.length).length = 3 := rfl
  have := (rwB_parts hr).2.2.1
  omega
/-- A row of texts of its own, beside a box that stays. -/
theorem app_pair (x : World) (base : Nat) (v : Value) (l : List ByteArray) (own : x.ownsRow base 9 1 v l.length (strRow l)) (s t : ByteArray) (hl : l.length + 2 ≤ 1048576) (hbase : base ≤ x.heap.size) :
    ∃ v' y, (Builtin.append_ #[24, 24] 24 #[v, .slice (some ⟨x.heap.size, 0, none⟩) 2 2]).run Tryz.prog (x.alloc (.cells #[.string s, .string t] 9)) = .ok v' y ∧ y.ownsRow base 9 1 v' (l ++ [s, t]).length (strRow (l ++ [s, t])) ∧ (x.alloc (.cells #[.string s, .string t] 9)).grownBy y v.ownBlock := by
  have hb : BlkS (x.alloc (.cells #[.string s, .string t] 9)) x.heap.size [s, t] := alloc_str x [s, t]
  exact app_texts (x.alloc (.cells #[.string s, .string t] 9)) base v l (own.alloc _) (some ⟨x.heap.size, 0, none⟩) 2 [s, t] hb.txt (by simpa using hl) (by rw [szA]; omega)
set_option maxHeartbeats 8000000 in
theorem rowText_any (k : ByteArray) (at_ : Int) (q : Option Addr) (c : Nat) (fs : List Fld) (w : World) (hf : FldAt w q fs) (hc : fs.length ≤ c) (hr : rwB k at_ fs = true) :
    Calls Tryz.prog 207 #[.agg #[.string k, .int .i64 at_, .slice q fs.length c]] w fun e w' => e = .returned (.string (lfT k at_ fs)) ∧ Below w.heap.size w w' := by
  obtain ⟨W1, hW1⟩ : ∃ W1, W1 = w.alloc (.cells #[.string k, .int .i64 at_, .slice q fs.length c] 29) := ⟨_, rfl⟩
  have HW1 : Hid (W1 = w.alloc (.cells #[.string k, .int .i64 at_, .slice q fs.length c] 29)) := hW1
  have B1 : Hid (Below w.heap.size w W1) := by rw [hW1]; exact (Below.refl _ _).alloc (Nat.le_refl _) _
  have K1 : Hid (Bxs W1 w.heap.size 29 #[.string k, .int .i64 at_, .slice q fs.length c]) := by rw [hW1]; exact Bxs.new _ _ _
  have HS1 : Hid (W1.heap.size = w.heap.size + 1) := by rw [hW1]; exact szA _ _
  have HT : Hid (FldAt W1 q fs) := hf.below B1.out
  obtain ⟨hkk, ⟨ha0, ha1⟩, ⟨hl1, hl3⟩, hfd, -⟩ := rwB_parts hr
  have hk20 := (nrB_le hkk).2
  have HSz : Hid (∀ f ∈ fs, f.n.size ≤ 20 ∧ f.c.size ≤ 32) := fun f hf => ⟨(nrB_le (fdB_parts (hfd f hf)).1).2, by have := (fdB_parts (hfd f hf)).2.1; omega⟩
  have HX : Hid (∀ x, Below W1.heap.size W1 x → x.cell? ⟨w.heap.size, 0, none⟩ = some (.string k) ∧ x.cell? ⟨w.heap.size, 1, none⟩ = some (.int .i64 at_) ∧ x.cell? ⟨w.heap.size, 2, none⟩ = some (.slice q fs.length c)) := fun x hb => ⟨(K1.out.below hb).cell 0, (K1.out.below hb).cell 1, (K1.out.below hb).cell 2⟩
  have QK : Hid (∀ x, Below W1.heap.size W1 x → Calls Tryz.prog 104 #[.string k] x fun e x1 => e = .returned (.string (putTextB k)) ∧ Below W1.heap.size W1 x1) := fun x hb => (implPutText_any k x (by unfold maxLen; omega)).mono (by rintro e x1 ⟨rfl, b⟩; exact ⟨rfl, chainB hb b⟩)
  have QA : Hid (∀ x, Below W1.heap.size W1 x → Calls Tryz.prog 102 #[.int .i64 at_] x fun e x1 => e = .returned (.string (putB at_)) ∧ Below W1.heap.size W1 x1) := fun x hb => (implPutNum_any at_ x (by omega) (by omega)).mono (by rintro e x1 ⟨rfl, b⟩; exact ⟨rfl, chainB hb b⟩)
  have QN : Hid (∀ x, Below W1.heap.size W1 x → Calls Tryz.prog 102 #[.int .i64 (fs.length : Int)] x fun e x1 => e = .returned (.string (putB (fs.length : Int))) ∧ Below W1.heap.size W1 x1) := fun x hb => (implPutNum_any (fs.length : Int) x (by omega) (by omega)).mono (by rintro e x1 ⟨rfl, b⟩; exact ⟨rfl, chainB hb b⟩)
  have HL : Hid (cat (rtB3 k at_ fs.length ++ rtx fs) = lfT k at_ fs) := rt_cat k at_ fs
  have HLs : Hid (∀ x ∈ rtB3 k at_ fs.length ++ rtx fs, x.size ≤ 100) := rt_sizes hr
  have HLn : Hid ((rtB3 k at_ fs.length).length = 3) := rfl
  have HRL : Hid (∀ x : World, Below W1.heap.size W1 x → Below W1.heap.size W1 (x.alloc (.cells #[.string (putTextB k), .string (putB at_), .string (putB (fs.length : Int))] 9)) ∧ (x.alloc (.cells #[.string (putTextB k), .string (putB at_), .string (putB (fs.length : Int))] 9)).ownsRow W1.heap.size 9 1 (.slice (some ⟨x.heap.size, 0, none⟩) 3 3) (rtB3 k at_ fs.length ++ rtx (fs.take 0)).length (strRow (rtB3 k at_ fs.length ++ rtx (fs.take 0)))) := fun x hb => by
    refine ⟨alB hb _, ?_⟩
    have := (alloc_str x [putTextB k, putB at_, putB (fs.length : Int)]).own W1.heap.size hb.size (by unfold maxLen; simp)
    exact this
  obtain ⟨b, off, rfl, hb0⟩ := HT.out.some_of (by omega)
  have BR : Hid (Below W1.heap.size W1 W1.drew) := (Below.refl _ _).drew
  clear hW1 hf hr hfd hkk ha0 ha1 hk20
  rw [← HL.out]
  generalize putTextB k = A at *
  generalize putB at_ = B at *
  generalize putB (fs.length : Int) = C at *
  generalize rtB3 k at_ fs.length = L3 at *
  clear HL
  go_enter Tryz.func207, Tryz.ntmps207
  go_upto_region 1 with fail
  rw [← HW1.out]
  refine wp_region_held_drew (S := (fun w' => w'.cell? ⟨w.heap.size, 0, none⟩ = some (.string k) ∧ w'.cell? ⟨w.heap.size, 1, none⟩ = some (.int .i64 at_) ∧ w'.cell? ⟨w.heap.size, 2, none⟩ = some (.slice (some ⟨b, off, none⟩) fs.length c))) (by kernel_rfl) (HX.out _ BR.out) (fun hHeld => ?_)
  refine take_at 0 (v := ?_) rfl (by kernel_rfl) (by kernel_rfl) (by kernel_rfl) (fun _ _ _ h => h) hHeld (Or.inl ⟨by rfl, ?_⟩) ?_
  rotate_left
  · (intro w hSw; (try dsimp only at hSw); go_simp; try with_reducible rfl)
  simp only [Act.put, List.setIfInBounds_toArray, List.set_cons_zero, List.set_cons_succ]
  refine take_at 1 (v := ?_) rfl (by kernel_rfl) (by kernel_rfl) (by kernel_rfl) (fun _ _ _ h => h) hHeld (Or.inl ⟨by rfl, ?_⟩) ?_
  rotate_left
  · (intro w hSw; (try dsimp only at hSw); go_simp; try with_reducible rfl)
  simp only [Act.put, List.setIfInBounds_toArray, List.set_cons_zero, List.set_cons_succ]
  refine take_at 3 (v := ?_) rfl (by kernel_rfl) (by kernel_rfl) (by kernel_rfl) (fun _ _ _ h => h) hHeld (Or.inl ⟨by rfl, ?_⟩) ?_
  rotate_left
  · (intro w hSw; (try dsimp only at hSw); go_simp; try with_reducible rfl)
  simp only [Act.put, List.setIfInBounds_toArray, List.set_cons_zero, List.set_cons_succ]
  refine take_at 4 (v := ?_) rfl (by kernel_rfl) (by kernel_rfl) (by kernel_rfl) (fun _ _ _ h => h) hHeld (Or.inl ⟨by rfl, ?_⟩) ?_
  rotate_left
  · (intro w hSw; (try dsimp only at hSw); go_simp; try with_reducible rfl)
  simp only [Act.put, List.setIfInBounds_toArray, List.set_cons_zero, List.set_cons_succ]
  refine take_at 6 (v := ?_) rfl (by kernel_rfl) (by kernel_rfl) (by kernel_rfl) (fun _ _ _ h => h) hHeld (Or.inl ⟨by rfl, ?_⟩) ?_
  rotate_left
  · (intro w hSw; (try dsimp only at hSw); go_simp; try with_reducible rfl)
  simp only [Act.put, List.setIfInBounds_toArray, List.set_cons_zero, List.set_cons_succ]
  refine take_at 7 (v := ?_) rfl (by kernel_rfl) (by kernel_rfl) (by kernel_rfl) (fun _ _ _ h => h) hHeld (Or.inl ⟨by rfl, ?_⟩) ?_
  rotate_left
  · (intro w hSw; (try dsimp only at hSw); go_simp; try with_reducible rfl)
  simp only [Act.put, List.setIfInBounds_toArray, List.set_cons_zero, List.set_cons_succ]
  refine take_at 8 (v := ?_) rfl (by kernel_rfl) (by kernel_rfl) (by kernel_rfl) (fun _ _ _ h => h) hHeld (Or.inl ⟨by rfl, ?_⟩) ?_
  rotate_left
  · (intro w hSw; (try dsimp only at hSw); go_simp; try with_reducible rfl)
  simp only [Act.put, List.setIfInBounds_toArray, List.set_cons_zero, List.set_cons_succ]
  refine ready_at 2 rfl (by kernel_rfl) (fun K hK => ?_)
  go_simp
  (go_at_call 104; with_reducible refine (QK.out _ BR.out).mono ?_; rintro e x1 ⟨rfl, z1⟩)
  refine hK.out _ _ (HX.out _ z1) (fun hHeld => ?_)
  clear hK K
  try simp only [Act.put, List.setIfInBounds_toArray, List.set_cons_zero, List.set_cons_succ]
  refine ready_at 5 rfl (by kernel_rfl) (fun K hK => ?_)
  go_simp
  (go_at_call 102; with_reducible refine (QA.out _ z1).mono ?_; rintro e x2 ⟨rfl, z2⟩)
  refine hK.out _ _ (HX.out _ z2) (fun hHeld => ?_)
  clear hK K
  try simp only [Act.put, List.setIfInBounds_toArray, List.set_cons_zero, List.set_cons_succ]
  refine ready_at 9 rfl (by kernel_rfl) (fun K hK => ?_)
  go_simp
  (go_at_call 102; with_reducible refine (QN.out _ z2).mono ?_; rintro e x3 ⟨rfl, z3⟩)
  refine hK.out _ _ (HX.out _ z3) (fun hHeld => ?_)
  clear hK K
  try simp only [Act.put, List.setIfInBounds_toArray, List.set_cons_zero, List.set_cons_succ]
  refine ready_at 10 rfl (by kernel_rfl) (fun K hK => ?_)
  go_simp
  refine hK.out _ _ (HX.out _ (alB z3 _)) (fun hHeld => ?_)
  clear hK K
  try simp only [Act.put, List.setIfInBounds_toArray, List.set_cons_zero, List.set_cons_succ]
  refine take_at 11 (v := ?_) rfl (by kernel_rfl) (by kernel_rfl) (by kernel_rfl) (fun _ _ _ h => h) hHeld (Or.inl ⟨by rfl, ?_⟩) ?_
  rotate_left
  · (intro w hSw; (try dsimp only at hSw); go_simp; try with_reducible rfl)
  simp only [Act.put, List.setIfInBounds_toArray, List.set_cons_zero, List.set_cons_succ]
  refine wpAnyH_done (by kernel_rfl) ?_ _
  have P1 := HRL.out _ z3
  obtain ⟨Y, hY⟩ : ∃ Y, Y = x3.alloc (.cells #[.string A, .string B, .string C] 9) := ⟨_, rfl⟩
  rw [← hY] at P1 ⊢
  obtain ⟨PB, PO⟩ := P1
  obtain ⟨u0, u1, u2⟩ := HX.out _ PB
  have HO : Hid (Y.ownsRow W1.heap.size 9 1 (.slice (some ⟨x3.heap.size, 0, none⟩) 3 3) (L3 ++ rtx (fs.take 0)).length (strRow (L3 ++ rtx (fs.take 0)))) := PO
  have HB0 : Hid (Below W1.heap.size W1 Y) := PB
  clear PO PB hY z1 z2 z3 HRL QK QA QN
  go_wp2_with fail
  go_loopw [3, 20] (fun u i wr => ∃ (j : Nat) (v : Value), j ≤ fs.length ∧ v = u ∧ i = .int .i64 j ∧ Hid (Below W1.heap.size W1 wr) ∧ Hid (wr.ownsRow W1.heap.size 9 1 v (L3 ++ rtx (fs.take j)).length (strRow (L3 ++ rtx (fs.take j))))) (fun _ i _ => fs.length - (Go.RowKit.intOf i).toNat)
  case atStart => exact ⟨0, _, Nat.zero_le _, rfl, rfl, HB0, HO⟩
  case round =>
    obtain ⟨j, v, hj, hv, rfl, HB, HOj⟩ := hrel
    subst hv
    clear u0 u1 u2
    by_cases hlt : j < fs.length
    · have i1 : (j : Int) < fs.length := by omega
      have hcell := (HT.out.below HB.out).at j hlt
      have hzj := HSz.out _ (List.getElem_mem hlt)
      have QF : Hid (∀ x, Calls Tryz.prog 104 #[.string fs[j].n] x fun e x1 => e = .returned (.string (putTextB fs[j].n)) ∧ Below x.heap.size x x1) := fun x => implPutText_any fs[j].n x (by unfold maxLen; omega)
      have QC : Hid (∀ x, Calls Tryz.prog 104 #[.string fs[j].c] x fun e x1 => e = .returned (.string (putTextB fs[j].c)) ∧ Below x.heap.size x x1) := fun x => implPutText_any fs[j].c x (by unfold maxLen; omega)
      have HA : Hid (∀ x, Below wr.heap.size wr x → ∃ v' y, (Builtin.append_ #[24, 24] 24 #[v, .slice (some ⟨x.heap.size, 0, none⟩) 2 2]).run Tryz.prog (x.alloc (.cells #[.string (putTextB fs[j].n), .string (putTextB fs[j].c)] 9)) = .ok v' y ∧ y.ownsRow W1.heap.size 9 1 v' (L3 ++ rtx (fs.take (j + 1))).length (strRow (L3 ++ rtx (fs.take (j + 1)))) ∧ Below W1.heap.size W1 y ∧ ∀ g cs, Bxs x g 103 cs → Bxs y g 103 cs) := fun x hb => by
        have hx := ownS_below HOj.out hb
        have hbx : Below W1.heap.size W1 x := chainB HB.out hb
        obtain ⟨v', y, h1, h2, h3⟩ := app_pair x W1.heap.size v _ hx (putTextB fs[j].n) (putTextB fs[j].c) (by rw [List.length_append, rtx_len, List.length_take]; have := HLn.out; omega) hbx.size
        refine ⟨v', y, h1, ?_, (hbx.alloc hbx.size _).grown h3 (by have := hbx.size; rw [szA]; omega) (fun g hg => (hx.lt g hg).1), fun g cs hK => (hK.alloc _).grown h3 (Ne.symm (ownR_ne hx hK (by decide)))⟩
        rw [rtx_succ fs j hlt, ← List.append_assoc]; exact h2
      generalize putTextB fs[j].n = PN at *
      generalize putTextB fs[j].c = PC at *
      generalize fs[j].n = fn at *
      generalize fs[j].c = fc at *
      generalize fs[j].s = fss at *
      generalize fs[j].v = fv at *
      generalize fs[j].g = fg at *
      obtain ⟨c0, c1, c2, c3, c4⟩ := hcell
      go_upto_region 5 with fail
      obtain ⟨y0, hy0⟩ : ∃ y0, y0 = wr.alloc (.cells #[.string fn, .string fc, .string fss, .string fv, .bool fg] 103) := ⟨_, rfl⟩
      rw [← hy0]
      have BY : Hid (Below wr.heap.size wr y0) := by rw [hy0]; exact (Below.refl _ _).alloc (Nat.le_refl _) _
      have KY : Hid (Bxs y0 wr.heap.size 103 #[.string fn, .string fc, .string fss, .string fv, .bool fg]) := by rw [hy0]; exact Bxs.new _ _ _
      have HY : Hid (∀ x, Bxs x wr.heap.size 103 #[.string fn, .string fc, .string fss, .string fv, .bool fg] → x.cell? ⟨wr.heap.size, 0, none⟩ = some (.string fn) ∧ x.cell? ⟨wr.heap.size, 1, none⟩ = some (.string fc)) := fun x hx => ⟨hx.cell 0, hx.cell 1⟩
      have BYR : Hid (Below y0.heap.size y0 y0.drew) := (Below.refl _ _).drew
      have KYR : Hid (Bxs y0.drew wr.heap.size 103 #[.string fn, .string fc, .string fss, .string fv, .bool fg]) := KY.out.below (Below.refl _ _).drew
      clear hy0 c0 c1 c2 c3 c4
      refine wp_region_held_drew (S := (fun w' => w'.cell? ⟨wr.heap.size, 0, none⟩ = some (.string fn) ∧ w'.cell? ⟨wr.heap.size, 1, none⟩ = some (.string fc))) (by kernel_rfl) (HY.out _ KYR.out) (fun hHeld => ?_)
      refine take_at 0 (v := ?_) rfl (by kernel_rfl) (by kernel_rfl) (by kernel_rfl) (fun _ _ _ h => h) hHeld (Or.inl ⟨by rfl, ?_⟩) ?_
      rotate_left
      · (intro w hSw; (try dsimp only at hSw); go_simp; try with_reducible rfl)
      simp only [Act.put, List.setIfInBounds_toArray, List.set_cons_zero, List.set_cons_succ]
      refine take_at 1 (v := ?_) rfl (by kernel_rfl) (by kernel_rfl) (by kernel_rfl) (fun _ _ _ h => h) hHeld (Or.inl ⟨by rfl, ?_⟩) ?_
      rotate_left
      · (intro w hSw; (try dsimp only at hSw); go_simp; try with_reducible rfl)
      simp only [Act.put, List.setIfInBounds_toArray, List.set_cons_zero, List.set_cons_succ]
      refine take_at 2 (v := ?_) rfl (by kernel_rfl) (by kernel_rfl) (by kernel_rfl) (fun _ _ _ h => h) hHeld (Or.inl ⟨by rfl, ?_⟩) ?_
      rotate_left
      · (intro w hSw; (try dsimp only at hSw); go_simp; try with_reducible rfl)
      simp only [Act.put, List.setIfInBounds_toArray, List.set_cons_zero, List.set_cons_succ]
      refine take_at 4 (v := ?_) rfl (by kernel_rfl) (by kernel_rfl) (by kernel_rfl) (fun _ _ _ h => h) hHeld (Or.inl ⟨by rfl, ?_⟩) ?_
      rotate_left
      · (intro w hSw; (try dsimp only at hSw); go_simp; try with_reducible rfl)
      simp only [Act.put, List.setIfInBounds_toArray, List.set_cons_zero, List.set_cons_succ]
      refine take_at 5 (v := ?_) rfl (by kernel_rfl) (by kernel_rfl) (by kernel_rfl) (fun _ _ _ h => h) hHeld (Or.inl ⟨by rfl, ?_⟩) ?_
      rotate_left
      · (intro w hSw; (try dsimp only at hSw); go_simp; try with_reducible rfl)
      simp only [Act.put, List.setIfInBounds_toArray, List.set_cons_zero, List.set_cons_succ]
      refine ready_at 3 rfl (by kernel_rfl) (fun K hK => ?_)
      go_simp
      (go_at_call 104; with_reducible refine (QF.out _).mono ?_; rintro e xa ⟨rfl, zq⟩; have za : Below y0.heap.size y0 xa := chainB BYR.out zq)
      refine hK.out _ _ (HY.out _ (KY.out.below za)) (fun hHeld => ?_)
      clear hK K
      try simp only [Act.put, List.setIfInBounds_toArray, List.set_cons_zero, List.set_cons_succ]
      refine ready_at 6 rfl (by kernel_rfl) (fun K hK => ?_)
      go_simp
      (go_at_call 104; with_reducible refine (QC.out _).mono ?_; rintro e xb ⟨rfl, zr⟩; have zb : Below y0.heap.size y0 xb := chainB za zr)
      refine hK.out _ _ (HY.out _ (KY.out.below zb)) (fun hHeld => ?_)
      clear hK K
      try simp only [Act.put, List.setIfInBounds_toArray, List.set_cons_zero, List.set_cons_succ]
      refine ready_at 7 rfl (by kernel_rfl) (fun K hK => ?_)
      go_simp
      refine hK.out _ _ (HY.out _ ((KY.out.below zb).alloc _)) (fun hHeld => ?_)
      clear hK K
      try simp only [Act.put, List.setIfInBounds_toArray, List.set_cons_zero, List.set_cons_succ]
      refine ready_at 8 rfl (by kernel_rfl) (fun K hK => ?_)
      obtain ⟨va, ya, hrun, hOa, hBa, hKa⟩ := HA.out xb (chainB BY.out zb); refine step_append_run rfl _ _ 24 rfl v (.slice (some ⟨xb.heap.size, 0, none⟩) 2 2) _ _ rfl rfl hrun ?_
      refine hK.out _ _ (HY.out _ (hKa _ _ (KY.out.below zb))) (fun hHeld => ?_)
      clear hK K
      try simp only [Act.put, List.setIfInBounds_toArray, List.set_cons_zero, List.set_cons_succ]
      refine take_at 9 (v := ?_) rfl (by kernel_rfl) (by kernel_rfl) (by kernel_rfl) (fun _ _ _ h => h) hHeld (Or.inl ⟨by rfl, ?_⟩) ?_
      rotate_left
      · (intro w hSw; (try dsimp only at hSw); go_simp; try with_reducible rfl)
      simp only [Act.put, List.setIfInBounds_toArray, List.set_cons_zero, List.set_cons_succ]
      refine wpAnyH_done (by kernel_rfl) ?_ _
      clear HA QF QC
      have HB2 : Hid (Below W1.heap.size W1 ya) := hBa
      have HO2 : Hid (ya.ownsRow W1.heap.size 9 1 va (L3 ++ rtx (fs.take (j + 1))).length (strRow (L3 ++ rtx (fs.take (j + 1))))) := hOa
      clear hBa hOa hKa
      go_wp2_with fail
      go_roundw
      case rel => exact ⟨j + 1, _, by omega, rfl, by go_num, HB2, HO2⟩
      case measure => simp [Go.RowKit.intOf]; omega
    · have hjj : j = fs.length := by omega
      subst hjj
      rw [List.take_length] at HOj
      obtain ⟨p, cp, rfl, hcp, htx⟩ := ownS_form HOj.out
      obtain ⟨b3, o3, rfl, hb3⟩ := TxtAt.some_of7 htx (by rw [List.length_append]; have := HLn.out; omega)
      have hJ := joined_any b3 o3 (L3 ++ rtx fs).length cp (L3 ++ rtx fs) wr rfl hb3 (by rw [List.length_append, rtx_len]; have := HLn.out; omega) hcp (fun i h => htx.at i h) (by
        rw [← cat_size]
        have := cat_le (L3 ++ rtx fs) 100 HLs.out
        rw [List.length_append, rtx_len] at this
        have := HLn.out
        omega)
      obtain ⟨RES, hRES⟩ : ∃ RES, RES = cat (L3 ++ rtx fs) := ⟨_, rfl⟩
      rw [← hRES] at hJ
      have HRES : Hid (RES = cat (L3 ++ rtx fs)) := hRES
      clear hRES
      generalize (L3 ++ rtx fs).length = LN at *
      clear HLs
      go_wp2_with fail
      refine hJ.mono ?_
      rintro e y ⟨rfl, hb⟩
      have hbb := chainB B1.out (chainB HB.out hb)
      go_wp2_with fail
      go_ret
      exact ⟨ret_str HRES.out, hbb⟩
end Go.Proofs.YtepmoihgemhjcaaGreatDoor
