/-
  Parts of one proof, laid as one text: ImplFT, ImplOn, ImplFk; what each says stands at its head.
-/
import Derived.Test.YtonleickhincgaaGreatDoorRows
import Derived.Test.YtonleickhincgaaGreatDoorBytesDigMath
import Derived.Test.YtonleickhincgaaGreatDoorTreeMathSlABxKSlBOwnS
import Derived.Test.YtonleickhincgaaGreatDoorMac2AppSSrcDrawsDrawKitSomeIsInSignSSignDWide2StepAppPath2DigestDrawTreeSpoil
import Derived.Test.YtonleickhincgaaGreatDoorLgLawTakesTakesLPutterPathI
import Derived.Test.YtonleickhincgaaGreatDoorTimeBPutMathPutNumJoinedPutTextFldMath
import Derived.Test.YtonleickhincgaaGreatDoorNameRight
import Derived.Test.YtonleickhincgaaGreatDoorImplVerInc2SignRSignWFldRiseScanMath
import Derived.Test.YtonleickhincgaaGreatDoorShwKOwnBPadIMacMathSgnBDigITurn2
import Derived.Handy
import Derived.WalkSpells
import Derived.OwnWalk
import Derived.Deep.AppendLies
import Derived.Deep.RegionHeld3
import Derived.Deep.Cut
import Derived.Test.YtonleickhincgaaGreatDoorFldIsTimeIGrKSpecGNSpecGTTillTwoFldN
import Derived.Test.YtonleickhincgaaGreatDoorFldTbFldTrImplFCBlNot
import Derived.Test.YtonleickhincgaaGreatDoorImplFR
import Derived.Defers
import Derived.Laws.Pointers
import Derived.Laws.LoneSync
import Derived.RegionTactic
import Derived.RegionCalls
/-
  What the program's rowText answers.
  Conditions: the row is right; the cells of Fields hold the fields.
-/
namespace Go.Proofs.YtonleickhincgaaGreatDoor
open Go.RowKit Go.Lib
set_option linter.unusedVariables false
set_option maxRecDepth 20000

/-- The texts of which rowText is put together. -/
def rtx (fs : List Fld) : List ByteArray := fs.flatMap (fun f => [putTextB f.n, putTextB f.c])
def rtB3 (k : ByteArray) (at_ : Int) (n : Nat) : List ByteArray := [putTextB k, putB at_, putB (n : Int)]
theorem rtx_len (fs : List Fld) : (rtx fs).length = 2 * fs.length := by
  induction fs with
  | nil => rfl
  | cons f fs ih => unfold rtx at *; rw [List.flatMap_cons, List.length_append, ih]; simp; omega
theorem rtx_succ (fs : List Fld) (j : Nat) (h : j < fs.length) : rtx (fs.take (j + 1)) = rtx (fs.take j) ++ [putTextB fs[j].n, putTextB fs[j].c] := by
  unfold rtx; rw [← List.take_append_getElem h, List.flatMap_append]; simp
theorem cat_app (a b : List ByteArray) : cat (a ++ b) = cat a ++ cat b := by
  apply ByteArray.ext; simp [cat]
theorem lfTo_cat : ∀ (fs : List Fld) (t : ByteArray), lfTo t fs = t ++ cat (rtx fs)
  | [], t => by apply ByteArray.ext; simp [lfTo, rtx, cat]
  | f :: fs, t => by
    show lfTo (t ++ putTextB f.n ++ putTextB f.c) fs = _
    rw [lfTo_cat fs]
    have : rtx (f :: fs) = [putTextB f.n, putTextB f.c] ++ rtx fs := by simp [rtx]
    rw [this, cat_app, cat_two, ByteArray.append_assoc, ByteArray.append_assoc, ByteArray.append_assoc]
theorem rt_cat (k : ByteArray) (at_ : Int) (fs : List Fld) : cat (rtB3 k at_ fs.length ++ rtx fs) = lfT k at_ fs := by
  unfold lfT
  rw [lfTo_cat, cat_app]
  congr 1
  apply ByteArray.ext; simp [cat, rtB3]
theorem cat_le (l : List ByteArray) (m : Nat) (h : ∀ x ∈ l, x.size ≤ m) : (cat l).size ≤ l.length * m := by
  induction l with
  | nil => rw [show cat [] = ByteArray.empty from rfl]; simp
  | cons a l ih =>
    have e : cat (a :: l) = a ++ cat l := by rw [show a :: l = [a] ++ l from rfl, cat_app, cat_one]
    have h1 := ih (fun x hx => h x (List.mem_cons_of_mem _ hx))
    have h2 := h a (List.mem_cons_self ..)
    rw [e, ByteArray.size_append, List.length_cons, Nat.add_mul]
    omega
theorem rt_sizes {k : ByteArray} {at_ : Int} {fs : List Fld} (hr : rwB k at_ fs = true) : ∀ x ∈ rtB3 k at_ fs.length ++ rtx fs, x.size ≤ 100 := by
  obtain ⟨hkk, -, ⟨hl1, hl3⟩, hfd, -⟩ := rwB_parts hr
  have hk20 := (nrB_le hkk).2
  intro x hx
  rcases List.mem_append.1 hx with hx | hx
  · have p1 := putTextB_le k (by omega)
    have p2 := putB_size at_
    have p3 := putB_size (fs.length : Int)
    simp [rtB3] at hx
    rcases hx with rfl | rfl | rfl <;> omega
  · unfold rtx at hx
    obtain ⟨f, hf, hx⟩ := List.mem_flatMap.1 hx
    have h1 := (nrB_le (fdB_parts (hfd f hf)).1).2
    have h2 := (fdB_parts (hfd f hf)).2.1
    have p1 := putTextB_le f.n (by omega)
    have p2 := putTextB_le f.c (by omega)
    simp at hx
    rcases hx with rfl | rfl <;> omega
theorem lfT_le {k : ByteArray} {at_ : Int} {fs : List Fld} (hr : rwB k at_ fs = true) : (lfT k at_ fs).size ≤ 900 := by
  have h := cat_le _ 100 (rt_sizes hr)
  rw [rt_cat, List.length_append, rtx_len] at h
  have h3 : (rtB3 k at_ fs.length).length = 3 := rfl
  have := (rwB_parts hr).2.2.1
  omega
/-- A row of texts of its own, beside a box that stays. -/
theorem app_pair (x : World) (base : Nat) (v : Value) (l : List ByteArray) (own : x.ownsRow base 9 1 v l.length (strRow l)) (s t : ByteArray) (hl : l.length + 2 ≤ 1048576) (hbase : base ≤ x.heap.size) :
    ∃ v' y, (Builtin.append_ #[25, 25] 25 #[v, .slice (some ⟨x.heap.size, 0, none⟩) 2 2]).run Tryz.prog (x.alloc (.cells #[.string s, .string t] 9)) = .ok v' y ∧ y.ownsRow base 9 1 v' (l ++ [s, t]).length (strRow (l ++ [s, t])) ∧ (x.alloc (.cells #[.string s, .string t] 9)).grownBy y v.ownBlock := by
  have hb : BlkS (x.alloc (.cells #[.string s, .string t] 9)) x.heap.size [s, t] := alloc_str x [s, t]
  exact app_texts (x.alloc (.cells #[.string s, .string t] 9)) base v l (own.alloc _) (some ⟨x.heap.size, 0, none⟩) 2 [s, t] hb.txt (by simpa using hl) (by rw [szA]; omega)
set_option maxHeartbeats 8000000 in
theorem rowText_any (k : ByteArray) (at_ : Int) (q : Option Addr) (c : Nat) (fs : List Fld) (w : World) (hf : FldAt w q fs) (hc : fs.length ≤ c) (hr : rwB k at_ fs = true) :
    Calls Tryz.prog 221 #[.agg #[.string k, .int .i64 at_, .slice q fs.length c]] w fun e w' => e = .returned (.string (lfT k at_ fs)) ∧ Below w.heap.size w w' := by
  obtain ⟨W1, hW1⟩ : ∃ W1, W1 = w.alloc (.cells #[.string k, .int .i64 at_, .slice q fs.length c] 100) := ⟨_, rfl⟩
  have HW1 : Hid (W1 = w.alloc (.cells #[.string k, .int .i64 at_, .slice q fs.length c] 100)) := hW1
  have B1 : Hid (Below w.heap.size w W1) := by rw [hW1]; exact (Below.refl _ _).alloc (Nat.le_refl _) _
  have K1 : Hid (Bxs W1 w.heap.size 100 #[.string k, .int .i64 at_, .slice q fs.length c]) := by rw [hW1]; exact Bxs.new _ _ _
  have HS1 : Hid (W1.heap.size = w.heap.size + 1) := by rw [hW1]; exact szA _ _
  have HT : Hid (FldAt W1 q fs) := hf.below B1.out
  obtain ⟨hkk, ⟨ha0, ha1⟩, ⟨hl1, hl3⟩, hfd, -⟩ := rwB_parts hr
  have hk20 := (nrB_le hkk).2
  have HSz : Hid (∀ f ∈ fs, f.n.size ≤ 20 ∧ f.c.size ≤ 32) := fun f hf => ⟨(nrB_le (fdB_parts (hfd f hf)).1).2, by have := (fdB_parts (hfd f hf)).2.1; omega⟩
  have HX : Hid (∀ x, Below W1.heap.size W1 x → x.cell? ⟨w.heap.size, 0, none⟩ = some (.string k) ∧ x.cell? ⟨w.heap.size, 1, none⟩ = some (.int .i64 at_) ∧ x.cell? ⟨w.heap.size, 2, none⟩ = some (.slice q fs.length c)) := fun x hb => ⟨(K1.out.below hb).cell 0, (K1.out.below hb).cell 1, (K1.out.below hb).cell 2⟩
  have QK : Hid (∀ x, Below W1.heap.size W1 x → Calls Tryz.prog 229 #[.string k] x fun e x1 => e = .returned (.string (putTextB k)) ∧ Below W1.heap.size W1 x1) := fun x hb => (implPutText_any k x (by unfold maxLen; omega)).mono (by rintro e x1 ⟨rfl, b⟩; exact ⟨rfl, chainB hb b⟩)
  have QA : Hid (∀ x, Below W1.heap.size W1 x → Calls Tryz.prog 209 #[.int .i64 at_] x fun e x1 => e = .returned (.string (putB at_)) ∧ Below W1.heap.size W1 x1) := fun x hb => (implPutNum_any at_ x (by omega) (by omega)).mono (by rintro e x1 ⟨rfl, b⟩; exact ⟨rfl, chainB hb b⟩)
  have QN : Hid (∀ x, Below W1.heap.size W1 x → Calls Tryz.prog 209 #[.int .i64 (fs.length : Int)] x fun e x1 => e = .returned (.string (putB (fs.length : Int))) ∧ Below W1.heap.size W1 x1) := fun x hb => (implPutNum_any (fs.length : Int) x (by omega) (by omega)).mono (by rintro e x1 ⟨rfl, b⟩; exact ⟨rfl, chainB hb b⟩)
  have HL : Hid (cat (rtB3 k at_ fs.length ++ rtx fs) = lfT k at_ fs) := rt_cat k at_ fs
  have HLs : Hid (∀ x ∈ rtB3 k at_ fs.length ++ rtx fs, x.size ≤ 100) := rt_sizes hr
  have HLn : Hid ((rtB3 k at_ fs.length).length = 3) := rfl
  have HRL : Hid (∀ x : World, Below W1.heap.size W1 x → Below W1.heap.size W1 (x.alloc (.cells #[.string (putTextB k), .string (putB at_), .string (putB (fs.length : Int))] 9)) ∧ (x.alloc (.cells #[.string (putTextB k), .string (putB at_), .string (putB (fs.length : Int))] 9)).ownsRow W1.heap.size 9 1 (.slice (some ⟨x.heap.size, 0, none⟩) 3 3) (rtB3 k at_ fs.length ++ rtx (fs.take 0)).length (strRow (rtB3 k at_ fs.length ++ rtx (fs.take 0)))) := fun x hb => by
    refine ⟨alB hb _, ?_⟩
    have := (alloc_str x [putTextB k, putB at_, putB (fs.length : Int)]).own W1.heap.size hb.size (by unfold maxLen; simp)
    exact this
  obtain ⟨b, off, rfl, hb0⟩ := HT.out.some_of (by omega)
  have BR : Hid (Below W1.heap.size W1 W1.drew) := (Below.refl _ _).drew
  clear hW1 hf hr hfd hkk ha0 ha1 hk20
  rw [← HL.out]
  generalize putTextB k = A at *
  generalize putB at_ = B at *
  generalize putB (fs.length : Int) = C at *
  generalize rtB3 k at_ fs.length = L3 at *
  clear HL
  go_enter Tryz.func221, Tryz.ntmps221
  go_upto_region 1 with fail
  rw [← HW1.out]
  refine wp_region_held_drew (S := (fun w' => w'.cell? ⟨w.heap.size, 0, none⟩ = some (.string k) ∧ w'.cell? ⟨w.heap.size, 1, none⟩ = some (.int .i64 at_) ∧ w'.cell? ⟨w.heap.size, 2, none⟩ = some (.slice (some ⟨b, off, none⟩) fs.length c))) (by kernel_rfl) (HX.out _ BR.out) (fun hHeld => ?_)
  refine take_at 0 (v := ?_) rfl (by kernel_rfl) (by kernel_rfl) (by kernel_rfl) (fun _ _ _ h => h) hHeld (Or.inl ⟨by rfl, ?_⟩) ?_
  rotate_left
  · (intro w hSw; (try dsimp only at hSw); go_simp; try with_reducible rfl)
  simp only [Act.put, List.setIfInBounds_toArray, List.set_cons_zero, List.set_cons_succ]
  refine take_at 1 (v := ?_) rfl (by kernel_rfl) (by kernel_rfl) (by kernel_rfl) (fun _ _ _ h => h) hHeld (Or.inl ⟨by rfl, ?_⟩) ?_
  rotate_left
  · (intro w hSw; (try dsimp only at hSw); go_simp; try with_reducible rfl)
  simp only [Act.put, List.setIfInBounds_toArray, List.set_cons_zero, List.set_cons_succ]
  refine take_at 3 (v := ?_) rfl (by kernel_rfl) (by kernel_rfl) (by kernel_rfl) (fun _ _ _ h => h) hHeld (Or.inl ⟨by rfl, ?_⟩) ?_
  rotate_left
  · (intro w hSw; (try dsimp only at hSw); go_simp; try with_reducible rfl)
  simp only [Act.put, List.setIfInBounds_toArray, List.set_cons_zero, List.set_cons_succ]
  refine take_at 4 (v := ?_) rfl (by kernel_rfl) (by kernel_rfl) (by kernel_rfl) (fun _ _ _ h => h) hHeld (Or.inl ⟨by rfl, ?_⟩) ?_
  rotate_left
  · (intro w hSw; (try dsimp only at hSw); go_simp; try with_reducible rfl)
  simp only [Act.put, List.setIfInBounds_toArray, List.set_cons_zero, List.set_cons_succ]
  refine take_at 6 (v := ?_) rfl (by kernel_rfl) (by kernel_rfl) (by kernel_rfl) (fun _ _ _ h => h) hHeld (Or.inl ⟨by rfl, ?_⟩) ?_
  rotate_left
  · (intro w hSw; (try dsimp only at hSw); go_simp; try with_reducible rfl)
  simp only [Act.put, List.setIfInBounds_toArray, List.set_cons_zero, List.set_cons_succ]
  refine take_at 7 (v := ?_) rfl (by kernel_rfl) (by kernel_rfl) (by kernel_rfl) (fun _ _ _ h => h) hHeld (Or.inl ⟨by rfl, ?_⟩) ?_
  rotate_left
  · (intro w hSw; (try dsimp only at hSw); go_simp; try with_reducible rfl)
  simp only [Act.put, List.setIfInBounds_toArray, List.set_cons_zero, List.set_cons_succ]
  refine take_at 8 (v := ?_) rfl (by kernel_rfl) (by kernel_rfl) (by kernel_rfl) (fun _ _ _ h => h) hHeld (Or.inl ⟨by rfl, ?_⟩) ?_
  rotate_left
  · (intro w hSw; (try dsimp only at hSw); go_simp; try with_reducible rfl)
  simp only [Act.put, List.setIfInBounds_toArray, List.set_cons_zero, List.set_cons_succ]
  refine ready_at 2 rfl (by kernel_rfl) (fun K hK => ?_)
  go_simp
  (go_at_call 229; with_reducible refine (QK.out _ BR.out).mono ?_; rintro e x1 ⟨rfl, z1⟩)
  refine hK.out _ _ (HX.out _ z1) (fun hHeld => ?_)
  clear hK K
  try simp only [Act.put, List.setIfInBounds_toArray, List.set_cons_zero, List.set_cons_succ]
  refine ready_at 5 rfl (by kernel_rfl) (fun K hK => ?_)
  go_simp
  (go_at_call 209; with_reducible refine (QA.out _ z1).mono ?_; rintro e x2 ⟨rfl, z2⟩)
  refine hK.out _ _ (HX.out _ z2) (fun hHeld => ?_)
  clear hK K
  try simp only [Act.put, List.setIfInBounds_toArray, List.set_cons_zero, List.set_cons_succ]
  refine ready_at 9 rfl (by kernel_rfl) (fun K hK => ?_)
  go_simp
  (go_at_call 209; with_reducible refine (QN.out _ z2).mono ?_; rintro e x3 ⟨rfl, z3⟩)
  refine hK.out _ _ (HX.out _ z3) (fun hHeld => ?_)
  clear hK K
  try simp only [Act.put, List.setIfInBounds_toArray, List.set_cons_zero, List.set_cons_succ]
  refine ready_at 10 rfl (by kernel_rfl) (fun K hK => ?_)
  go_simp
  refine hK.out _ _ (HX.out _ (alB z3 _)) (fun hHeld => ?_)
  clear hK K
  try simp only [Act.put, List.setIfInBounds_toArray, List.set_cons_zero, List.set_cons_succ]
  refine take_at 11 (v := ?_) rfl (by kernel_rfl) (by kernel_rfl) (by kernel_rfl) (fun _ _ _ h => h) hHeld (Or.inl ⟨by rfl, ?_⟩) ?_
  rotate_left
  · (intro w hSw; (try dsimp only at hSw); go_simp; try with_reducible rfl)
  simp only [Act.put, List.setIfInBounds_toArray, List.set_cons_zero, List.set_cons_succ]
  refine wpAnyH_done (by kernel_rfl) ?_ _
  have P1 := HRL.out _ z3
  obtain ⟨Y, hY⟩ : ∃ Y, Y = x3.alloc (.cells #[.string A, .string B, .string C] 9) := ⟨_, rfl⟩
  rw [← hY] at P1 ⊢
  obtain ⟨PB, PO⟩ := P1
  obtain ⟨u0, u1, u2⟩ := HX.out _ PB
  have HO : Hid (Y.ownsRow W1.heap.size 9 1 (.slice (some ⟨x3.heap.size, 0, none⟩) 3 3) (L3 ++ rtx (fs.take 0)).length (strRow (L3 ++ rtx (fs.take 0)))) := PO
  have HB0 : Hid (Below W1.heap.size W1 Y) := PB
  clear PO PB hY z1 z2 z3 HRL QK QA QN
  go_wp2_with fail
  go_loopw [3, 20] (fun u i wr => ∃ (j : Nat) (v : Value), j ≤ fs.length ∧ v = u ∧ i = .int .i64 j ∧ Hid (Below W1.heap.size W1 wr) ∧ Hid (wr.ownsRow W1.heap.size 9 1 v (L3 ++ rtx (fs.take j)).length (strRow (L3 ++ rtx (fs.take j))))) (fun _ i _ => fs.length - (Go.RowKit.intOf i).toNat)
  case atStart => exact ⟨0, _, Nat.zero_le _, rfl, rfl, HB0, HO⟩
  case round =>
    obtain ⟨j, v, hj, hv, rfl, HB, HOj⟩ := hrel
    subst hv
    clear u0 u1 u2
    by_cases hlt : j < fs.length
    · have i1 : (j : Int) < fs.length := by omega
      have hcell := (HT.out.below HB.out).at j hlt
      have hzj := HSz.out _ (List.getElem_mem hlt)
      have QF : Hid (∀ x, Calls Tryz.prog 229 #[.string fs[j].n] x fun e x1 => e = .returned (.string (putTextB fs[j].n)) ∧ Below x.heap.size x x1) := fun x => implPutText_any fs[j].n x (by unfold maxLen; omega)
      have QC : Hid (∀ x, Calls Tryz.prog 229 #[.string fs[j].c] x fun e x1 => e = .returned (.string (putTextB fs[j].c)) ∧ Below x.heap.size x x1) := fun x => implPutText_any fs[j].c x (by unfold maxLen; omega)
      have HA : Hid (∀ x, Below wr.heap.size wr x → ∃ v' y, (Builtin.append_ #[25, 25] 25 #[v, .slice (some ⟨x.heap.size, 0, none⟩) 2 2]).run Tryz.prog (x.alloc (.cells #[.string (putTextB fs[j].n), .string (putTextB fs[j].c)] 9)) = .ok v' y ∧ y.ownsRow W1.heap.size 9 1 v' (L3 ++ rtx (fs.take (j + 1))).length (strRow (L3 ++ rtx (fs.take (j + 1)))) ∧ Below W1.heap.size W1 y ∧ ∀ g cs, Bxs x g 122 cs → Bxs y g 122 cs) := fun x hb => by
        have hx := ownS_below HOj.out hb
        have hbx : Below W1.heap.size W1 x := chainB HB.out hb
        obtain ⟨v', y, h1, h2, h3⟩ := app_pair x W1.heap.size v _ hx (putTextB fs[j].n) (putTextB fs[j].c) (by rw [List.length_append, rtx_len, List.length_take]; have := HLn.out; omega) hbx.size
        refine ⟨v', y, h1, ?_, (hbx.alloc hbx.size _).grown h3 (by have := hbx.size; rw [szA]; omega) (fun g hg => (hx.lt g hg).1), fun g cs hK => (hK.alloc _).grown h3 (Ne.symm (ownR_ne hx hK (by decide)))⟩
        rw [rtx_succ fs j hlt, ← List.append_assoc]; exact h2
      generalize putTextB fs[j].n = PN at *
      generalize putTextB fs[j].c = PC at *
      generalize fs[j].n = fn at *
      generalize fs[j].c = fc at *
      generalize fs[j].s = fss at *
      generalize fs[j].v = fv at *
      generalize fs[j].g = fg at *
      obtain ⟨c0, c1, c2, c3, c4⟩ := hcell
      go_upto_region 5 with fail
      obtain ⟨y0, hy0⟩ : ∃ y0, y0 = wr.alloc (.cells #[.string fn, .string fc, .string fss, .string fv, .bool fg] 122) := ⟨_, rfl⟩
      rw [← hy0]
      have BY : Hid (Below wr.heap.size wr y0) := by rw [hy0]; exact (Below.refl _ _).alloc (Nat.le_refl _) _
      have KY : Hid (Bxs y0 wr.heap.size 122 #[.string fn, .string fc, .string fss, .string fv, .bool fg]) := by rw [hy0]; exact Bxs.new _ _ _
      have HY : Hid (∀ x, Bxs x wr.heap.size 122 #[.string fn, .string fc, .string fss, .string fv, .bool fg] → x.cell? ⟨wr.heap.size, 0, none⟩ = some (.string fn) ∧ x.cell? ⟨wr.heap.size, 1, none⟩ = some (.string fc)) := fun x hx => ⟨hx.cell 0, hx.cell 1⟩
      have BYR : Hid (Below y0.heap.size y0 y0.drew) := (Below.refl _ _).drew
      have KYR : Hid (Bxs y0.drew wr.heap.size 122 #[.string fn, .string fc, .string fss, .string fv, .bool fg]) := KY.out.below (Below.refl _ _).drew
      clear hy0 c0 c1 c2 c3 c4
      refine wp_region_held_drew (S := (fun w' => w'.cell? ⟨wr.heap.size, 0, none⟩ = some (.string fn) ∧ w'.cell? ⟨wr.heap.size, 1, none⟩ = some (.string fc))) (by kernel_rfl) (HY.out _ KYR.out) (fun hHeld => ?_)
      refine take_at 0 (v := ?_) rfl (by kernel_rfl) (by kernel_rfl) (by kernel_rfl) (fun _ _ _ h => h) hHeld (Or.inl ⟨by rfl, ?_⟩) ?_
      rotate_left
      · (intro w hSw; (try dsimp only at hSw); go_simp; try with_reducible rfl)
      simp only [Act.put, List.setIfInBounds_toArray, List.set_cons_zero, List.set_cons_succ]
      refine take_at 1 (v := ?_) rfl (by kernel_rfl) (by kernel_rfl) (by kernel_rfl) (fun _ _ _ h => h) hHeld (Or.inl ⟨by rfl, ?_⟩) ?_
      rotate_left
      · (intro w hSw; (try dsimp only at hSw); go_simp; try with_reducible rfl)
      simp only [Act.put, List.setIfInBounds_toArray, List.set_cons_zero, List.set_cons_succ]
      refine take_at 2 (v := ?_) rfl (by kernel_rfl) (by kernel_rfl) (by kernel_rfl) (fun _ _ _ h => h) hHeld (Or.inl ⟨by rfl, ?_⟩) ?_
      rotate_left
      · (intro w hSw; (try dsimp only at hSw); go_simp; try with_reducible rfl)
      simp only [Act.put, List.setIfInBounds_toArray, List.set_cons_zero, List.set_cons_succ]
      refine take_at 4 (v := ?_) rfl (by kernel_rfl) (by kernel_rfl) (by kernel_rfl) (fun _ _ _ h => h) hHeld (Or.inl ⟨by rfl, ?_⟩) ?_
      rotate_left
      · (intro w hSw; (try dsimp only at hSw); go_simp; try with_reducible rfl)
      simp only [Act.put, List.setIfInBounds_toArray, List.set_cons_zero, List.set_cons_succ]
      refine take_at 5 (v := ?_) rfl (by kernel_rfl) (by kernel_rfl) (by kernel_rfl) (fun _ _ _ h => h) hHeld (Or.inl ⟨by rfl, ?_⟩) ?_
      rotate_left
      · (intro w hSw; (try dsimp only at hSw); go_simp; try with_reducible rfl)
      simp only [Act.put, List.setIfInBounds_toArray, List.set_cons_zero, List.set_cons_succ]
      refine ready_at 3 rfl (by kernel_rfl) (fun K hK => ?_)
      go_simp
      (go_at_call 229; with_reducible refine (QF.out _).mono ?_; rintro e xa ⟨rfl, zq⟩; have za : Below y0.heap.size y0 xa := chainB BYR.out zq)
      refine hK.out _ _ (HY.out _ (KY.out.below za)) (fun hHeld => ?_)
      clear hK K
      try simp only [Act.put, List.setIfInBounds_toArray, List.set_cons_zero, List.set_cons_succ]
      refine ready_at 6 rfl (by kernel_rfl) (fun K hK => ?_)
      go_simp
      (go_at_call 229; with_reducible refine (QC.out _).mono ?_; rintro e xb ⟨rfl, zr⟩; have zb : Below y0.heap.size y0 xb := chainB za zr)
      refine hK.out _ _ (HY.out _ (KY.out.below zb)) (fun hHeld => ?_)
      clear hK K
      try simp only [Act.put, List.setIfInBounds_toArray, List.set_cons_zero, List.set_cons_succ]
      refine ready_at 7 rfl (by kernel_rfl) (fun K hK => ?_)
      go_simp
      refine hK.out _ _ (HY.out _ ((KY.out.below zb).alloc _)) (fun hHeld => ?_)
      clear hK K
      try simp only [Act.put, List.setIfInBounds_toArray, List.set_cons_zero, List.set_cons_succ]
      refine ready_at 8 rfl (by kernel_rfl) (fun K hK => ?_)
      obtain ⟨va, ya, hrun, hOa, hBa, hKa⟩ := HA.out xb (chainB BY.out zb); refine step_append_run rfl _ _ 25 rfl v (.slice (some ⟨xb.heap.size, 0, none⟩) 2 2) _ _ rfl rfl hrun ?_
      refine hK.out _ _ (HY.out _ (hKa _ _ (KY.out.below zb))) (fun hHeld => ?_)
      clear hK K
      try simp only [Act.put, List.setIfInBounds_toArray, List.set_cons_zero, List.set_cons_succ]
      refine take_at 9 (v := ?_) rfl (by kernel_rfl) (by kernel_rfl) (by kernel_rfl) (fun _ _ _ h => h) hHeld (Or.inl ⟨by rfl, ?_⟩) ?_
      rotate_left
      · (intro w hSw; (try dsimp only at hSw); go_simp; try with_reducible rfl)
      simp only [Act.put, List.setIfInBounds_toArray, List.set_cons_zero, List.set_cons_succ]
      refine wpAnyH_done (by kernel_rfl) ?_ _
      clear HA QF QC
      have HB2 : Hid (Below W1.heap.size W1 ya) := hBa
      have HO2 : Hid (ya.ownsRow W1.heap.size 9 1 va (L3 ++ rtx (fs.take (j + 1))).length (strRow (L3 ++ rtx (fs.take (j + 1))))) := hOa
      clear hBa hOa hKa
      go_wp2_with fail
      go_roundw
      case rel => exact ⟨j + 1, _, by omega, rfl, by go_num, HB2, HO2⟩
      case measure => simp [Go.RowKit.intOf]; omega
    · have hjj : j = fs.length := by omega
      subst hjj
      rw [List.take_length] at HOj
      obtain ⟨p, cp, rfl, hcp, htx⟩ := ownS_form HOj.out
      obtain ⟨b3, o3, rfl, hb3⟩ := TxtAt.some_of7 htx (by rw [List.length_append]; have := HLn.out; omega)
      have hJ := joined_any b3 o3 (L3 ++ rtx fs).length cp (L3 ++ rtx fs) wr rfl hb3 (by rw [List.length_append, rtx_len]; have := HLn.out; omega) hcp (fun i h => htx.at i h) (by
        rw [← cat_size]
        have := cat_le (L3 ++ rtx fs) 100 HLs.out
        rw [List.length_append, rtx_len] at this
        have := HLn.out
        omega)
      obtain ⟨RES, hRES⟩ : ∃ RES, RES = cat (L3 ++ rtx fs) := ⟨_, rfl⟩
      rw [← hRES] at hJ
      have HRES : Hid (RES = cat (L3 ++ rtx fs)) := hRES
      clear hRES
      generalize (L3 ++ rtx fs).length = LN at *
      clear HLs
      go_wp2_with fail
      refine hJ.mono ?_
      rintro e y ⟨rfl, hb⟩
      have hbb := chainB B1.out (chainB HB.out hb)
      go_wp2_with fail
      go_ret
      exact ⟨ret_str HRES.out, hbb⟩
end Go.Proofs.YtonleickhincgaaGreatDoor
/-
  What a row at work answers: its leaf is reckoned once, by a sync.Once (one goroutine): the parts of sync.Once's slow road, reckon, leaf.
  Conditions: nothing was reckoned yet, the lock is free; the cells of Fields hold the fields; the two tables of the digest lie as laid.
-/
namespace Go.Proofs.YtonleickhincgaaGreatDoor
open Go.RowKit Go.Lib
set_option linter.unusedVariables false
set_option maxRecDepth 20000

theorem oDisable (w : World) : (callFunc 241 #[]).run Tryz.prog w = .ok (.value (.tuple #[])) w := run_call_mark0 Tryz.func241 (by kernel_rfl) (by kernel_rfl) (by kernel_rfl) .disable (by kernel_rfl) w
theorem oEnable (w : World) : (callFunc 243 #[]).run Tryz.prog w = .ok (.value (.tuple #[])) w := run_call_mark0 Tryz.func243 (by kernel_rfl) (by kernel_rfl) (by kernel_rfl) .enable (by kernel_rfl) w
theorem oAcquire (a : Addr) (w : World) : (callFunc 244 #[.pointer (some a)]).run Tryz.prog w = .ok (.value (.tuple #[])) w := run_call_marked Tryz.func244 (by kernel_rfl) (by kernel_rfl) (by kernel_rfl) .acquire (by kernel_rfl) a w
theorem oRelease (a : Addr) (w : World) : (callFunc 246 #[.pointer (some a)]).run Tryz.prog w = .ok (.value (.tuple #[])) w := run_call_marked Tryz.func246 (by kernel_rfl) (by kernel_rfl) (by kernel_rfl) .releaseMerge (by kernel_rfl) a w

theorem store_deferred (a : Addr) (x : Value) (u : FrameMode) (w : World) (hc : w.cell? a = some x) (hz : w.frozen? a = false) :
    CallsD Tryz.prog 228 #[.pointer (some a), .bool true] u w fun e u' w' => u' = u ∧ (e = .returned (.tuple #[]) ∧ w' = w.drew.setCell a (.int .u32 1)) := by
  have hc' : w.drew.cell? a = some x := by go_simp
  have hz' : w.drew.frozen? a = false := by go_simp
  have hst := run_call_store (P := Tryz.prog) Tryz.func236 (by kernel_rfl) (by kernel_rfl) (by kernel_rfl) (by kernel_rfl) (k := .u32) (y := 1) hc' hz'
  go_enter_d Tryz.func228, Tryz.ntmps228
  go_wp2
  go_region_calls
  all_goals (go_end0; exact ⟨rfl, rfl⟩)
theorem unlock_deferred (a : Addr) (u : FrameMode) (w : World) (hc : w.cell? a = some (.int .i32 1)) (hz : w.frozen? a = false) :
    CallsD Tryz.prog 227 #[.pointer (some a)] u w fun e u' w' => u' = u ∧ (e = .returned (.tuple #[]) ∧ w' = w.setCell a (.int .i32 0)) := by
  have hd := oDisable
  have he := oEnable
  have hr := oRelease
  have hadd := run_call_add (P := Tryz.prog) Tryz.func247 (by kernel_rfl) (by kernel_rfl) (by kernel_rfl) .i32 (by kernel_rfl) (y := -1) (s := 0) hc hz (by simp [go_sem]; rfl)
  have hcv := run_convert_to_unsafe (P := Tryz.prog) (src := 295) (dst := 266) Tryz.underlying295 Tryz.underlying266 (by kernel_rfl) hc
  go_enter_d Tryz.func227, Tryz.ntmps227
  go_wp2
  go_end0
  go_wp2
theorem lock_free (a : Addr) (w : World) (hc : w.cell? a = some (.int .i32 0)) (hz : w.frozen? a = false) :
    Calls Tryz.prog 226 #[.pointer (some a)] w fun e w' => e = .returned (.tuple #[]) ∧ w' = w.setCell a (.int .i32 1) := by
  have hd := oDisable
  have he := oEnable
  have ha := oAcquire
  have hcas := run_call_cas_hit (P := Tryz.prog) Tryz.func242 (by kernel_rfl) (by kernel_rfl) (by kernel_rfl) .i32 (by kernel_rfl) (y := 1) hc hz
  have hc' : (w.setCell a (.int .i32 1)).cell? a = some (.int .i32 1) := World.cell?_setCell_same w a _ hc
  have hcv := run_convert_to_unsafe (P := Tryz.prog) (src := 295) (dst := 266) Tryz.underlying295 Tryz.underlying266 (by kernel_rfl) hc'
  go_enter Tryz.func226, Tryz.ntmps226
  go_wp2
  first | go_end0 | (simp only [Exit.inBlock, Exit.then]; refine bodyPost_ret (results_none rfl _ _ _) rfl ?_) | refine bodyPost_ret (results_none rfl _ _ _) rfl ?_
  go_wp2

/-- A row at work: its row, its sync.Once (done or not; the lock), what was reckoned. -/
def RawB (w : World) (P : Nat) (k : ByteArray) (at_ : Int) (v : Value) (d l : Int) (m : ByteArray) : Prop := Bxs w P 248 #[.string k, .int .i64 at_, v, .int .u32 d, .int .i32 l, .int .u32 0, .string m]
theorem RawB.set3 {w : World} {P : Nat} {k : ByteArray} {at_ : Int} {v : Value} {d l : Int} {m : ByteArray} (h : RawB w P k at_ v d l m) (d' : Int) : RawB (w.setCell ⟨P, 3, none⟩ (.int .u32 d')) P k at_ v d' l m := Bxs.set h 3 _
theorem RawB.set4 {w : World} {P : Nat} {k : ByteArray} {at_ : Int} {v : Value} {d l : Int} {m : ByteArray} (h : RawB w P k at_ v d l m) (l' : Int) : RawB (w.setCell ⟨P, 4, none⟩ (.int .i32 l')) P k at_ v d l' m := Bxs.set h 4 _
theorem RawB.set6 {w : World} {P : Nat} {k : ByteArray} {at_ : Int} {v : Value} {d l : Int} {m : ByteArray} (h : RawB w P k at_ v d l m) (m' : ByteArray) : RawB (w.setCell ⟨P, 6, none⟩ (.string m')) P k at_ v d l m' := Bxs.set h 6 _
theorem RawB.drew {w : World} {P : Nat} {k : ByteArray} {at_ : Int} {v : Value} {d l : Int} {m : ByteArray} (h : RawB w P k at_ v d l m) : RawB w.drew P k at_ v d l m := h
theorem RawB.cells {w : World} {P : Nat} {k : ByteArray} {at_ : Int} {v : Value} {d l : Int} {m : ByteArray} (h : RawB w P k at_ v d l m) : w.cell? ⟨P, 0, none⟩ = some (.string k) ∧ w.cell? ⟨P, 1, none⟩ = some (.int .i64 at_) ∧ w.cell? ⟨P, 2, none⟩ = some v ∧ w.cell? ⟨P, 3, none⟩ = some (.int .u32 d) ∧ w.cell? ⟨P, 4, none⟩ = some (.int .i32 l) ∧ w.cell? ⟨P, 6, none⟩ = some (.string m) := ⟨Bxs.cell h 0, Bxs.cell h 1, Bxs.cell h 2, Bxs.cell h 3, Bxs.cell h 4, Bxs.cell h 6⟩

set_option maxHeartbeats 1000000 in
theorem reckon_any (P : Nat) (k : ByteArray) (at_ : Int) (q : Option Addr) (c : Nat) (fs : List Fld) (d l : Int) (w : World) (hT : Tabs w) (hp : RawB w P k at_ (.slice q fs.length c) d l ByteArray.empty) (hf : FldAt w q fs) (hn : fs.length ≤ 1048576) (hc : fs.length ≤ c) (hk : k.size ≤ maxLen) (hz : FldsLe fs) :
    Calls Tryz.prog 212 #[.pointer (some ⟨P, 0, none⟩)] w fun e w' => e = .returned (.tuple #[]) ∧ RawB w' P k at_ (.slice q fs.length c) d l (lfB k at_ fs) ∧ w.grownBy w' (some P) := by
  have HP : Hid (RawB w P k at_ (.slice q fs.length c) d l ByteArray.empty) := hp
  have HTb : Hid (Tabs w) := hT
  have hR := implRowRight_any k at_ q c fs w hT hf hn hc hk hz
  obtain ⟨t0, t1, t2, t3, t4, t6⟩ := hp.cells
  cases hr : rwB k at_ fs with
  | false =>
    have HV : Hid (lfB k at_ fs = ByteArray.empty) := if_neg (by rw [hr]; exact Bool.false_ne_true)
    rw [hr] at hR
    rw [HV.out]
    clear hp hT hf hr t3 t4 t6
    go_enter Tryz.func212, Tryz.ntmps212
    go_wp2_with fail
    refine hR.mono ?_
    rintro e y ⟨rfl, b1⟩
    have HE : Hid (RawB y P k at_ (.slice q fs.length c) d l ByteArray.empty ∧ w.grownBy y (some P)) := ⟨Bxs.below HP.out b1, grown_below b1⟩
    go_wp2_with fail
    go_end0
    exact ⟨rfl, HE.out⟩
  | true =>
    have HV : Hid (lfB k at_ fs = one101 ++ digB (lfT k at_ fs)) := if_pos hr
    rw [hr] at hR
    have HFt : Hid (FldAt w q fs) := hf
    have HRT : Hid (∀ x, Below w.heap.size w x → Calls Tryz.prog 221 #[.agg #[.string k, .int .i64 at_, .slice q fs.length c]] x fun e w' => e = .returned (.string (lfT k at_ fs)) ∧ Below x.heap.size x w') := fun x hb => rowText_any k at_ q c fs x (HFt.out.below hb) hc hr
    have HD : Hid (∀ x, Tabs x → Calls Tryz.prog 169 #[.string (lfT k at_ fs)] x fun e w' => e = .returned (.string (digB (lfT k at_ fs))) ∧ Below x.heap.size x w') := fun x hx => digI_any _ x (by have := lfT_le hr; omega) hx
    have HJ : Hid (∀ x, Calls Tryz.prog 37 #[.slice (some ⟨x.heap.size, 0, none⟩) 2 2] (x.alloc (.cells #[.string ⟨#[101]⟩, .string (digB (lfT k at_ fs))] 9)) fun e w' => e = .returned (.string (one101 ++ digB (lfT k at_ fs))) ∧ Below x.heap.size x w') := fun x => joined_two one101 (digB (lfT k at_ fs)) x (by rw [digB_size]; show 1 + 32 ≤ _; omega)
    rw [HV.out]
    clear hp hT hf hr HFt HV t3 t4 t6
    generalize one101 ++ digB (lfT k at_ fs) = R at *
    generalize digB (lfT k at_ fs) = D at *
    generalize lfT k at_ fs = X at *
    go_enter Tryz.func212, Tryz.ntmps212
    go_wp2_with fail
    refine hR.mono ?_
    rintro e y1 ⟨rfl, b1⟩
    clear t0 t1 t2
    obtain ⟨t0, t1, t2, -, -, -⟩ := RawB.cells (Bxs.below HP.out b1)
    go_wp2_with fail
    refine (HRT.out y1 b1).mono ?_
    rintro e y2 ⟨rfl, b2⟩
    have b2 := chainB b1 b2
    go_wp2_with fail
    refine (HD.out y2 (HTb.out.to b2)).mono ?_
    rintro e y3 ⟨rfl, b3⟩
    have b3 := chainB b2 b3
    go_wp2_with fail
    refine (HJ.out y3).mono ?_
    rintro e y4 ⟨rfl, b4⟩
    have b4 := chainB b3 b4
    clear t0 t1 t2
    have HK : Hid (RawB y4 P k at_ (.slice q fs.length c) d l ByteArray.empty) := Bxs.below HP.out b4
    have t6 : y4.cell? ⟨P, 6, none⟩ = some (.string ByteArray.empty) := HK.out.cells.2.2.2.2.2
    have f6 : y4.frozen? ⟨P, 6, none⟩ = false := Bxs.fr HK.out 6
    have HE : Hid (RawB (y4.setCell ⟨P, 6, none⟩ (.string R)) P k at_ (.slice q fs.length c) d l R ∧ w.grownBy (y4.setCell ⟨P, 6, none⟩ (.string R)) (some P)) := ⟨HK.out.set6 R, grown_set (grown_below b4) _ _⟩
    clear HK HRT HD HJ b1 b2 b3 b4
    go_wp2_with fail
    go_end0
    exact ⟨rfl, HE.out⟩
/-- The fields lie in another block than the row at work. -/
theorem FldAt.turned {w w' : World} {q : Option Addr} {fs : List Fld} {P : Nat} {k : ByteArray} {at_ : Int} {v : Value} {d l : Int} {m : ByteArray} (hf : FldAt w q fs) (hp : RawB w P k at_ v d l m) (hg : w.grownBy w' (some P)) : FldAt w' q fs := by
  intro i hi
  obtain ⟨b, off, rfl, h1, h2, h3, h4, h5, h6⟩ := hf i hi
  have hne : b ≠ P := by
    rintro rfl
    rw [Bxs.cell hp] at h2 h3
    generalize off + i * 5 = o at *
    match o, h2, h3 with
    | 0, h2, h3 => simp at h3
    | 1, h2, h3 => simp at h2
    | 2, h2, h3 => simp at h3
    | 3, h2, h3 => simp at h2
    | 4, h2, h3 => simp at h2
    | 5, h2, h3 => simp at h2
    | 6, h2, h3 => simp at h3
    | o + 7, h2, h3 => simp at h2
  have hc : ∀ o, w'.cell? ⟨b, o, none⟩ = w.cell? ⟨b, o, none⟩ := fun o => hg.cell_far ⟨b, o, none⟩ h1 (by simpa using hne)
  exact ⟨b, off, rfl, Nat.lt_of_lt_of_le h1 hg.size, (hc _).trans h2, (hc _).trans h3, (hc _).trans h4, (hc _).trans h5, (hc _).trans h6⟩
theorem Tabs.turned {w w' : World} {P : Nat} {k : ByteArray} {at_ : Int} {v : Value} {d l : Int} {m : ByteArray} (h : Tabs w) (hp : RawB w P k at_ v d l m) (hg : w.grownBy w' (some P)) : Tabs w' := by
  have e0 : w.cell? ⟨P, 0, none⟩ = some (.string k) := Bxs.cell hp 0
  have n1 : 1 ≠ P := by rintro rfl; have := h.2.1 0 (by omega); rw [e0] at this; cases this
  have n2 : 0 ≠ P := by rintro rfl; have := h.2.2 0 (by omega); rw [e0] at this; cases this
  have l2 : 0 < w.heap.size := World.block_lt_of_cell? w ⟨0, 0, none⟩ (h.2.2 0 (by omega))
  exact ⟨Nat.lt_of_lt_of_le h.1 hg.size, fun i hi => (hg.cell_far ⟨_, i, none⟩ h.1 (by simpa using n1)).trans (h.2.1 i hi), fun i hi => (hg.cell_far ⟨_, i, none⟩ l2 (by simpa using n2)).trans (h.2.2 i hi)⟩

set_option maxRecDepth 100000 in
set_option maxHeartbeats 1600000 in
/-- '(*sync.Once).doSlow', not yet done and the lock free: the leaf is reckoned; then the two deferred calls. -/
theorem slow_any (P : Nat) (k : ByteArray) (at_ : Int) (q : Option Addr) (c : Nat) (fs : List Fld) (w : World) (hT : Tabs w) (hp : RawB w P k at_ (.slice q fs.length c) 0 0 ByteArray.empty) (hf : FldAt w q fs) (hn : fs.length ≤ 1048576) (hc : fs.length ≤ c) (hk : k.size ≤ maxLen) (hz : FldsLe fs) :
    Calls Tryz.prog 220 #[.pointer (some ⟨P, 3, none⟩), .func (.func 212) #[.pointer (some ⟨P, 0, none⟩)] #[]] w fun e w' => e = .returned (.tuple #[]) ∧ RawB w' P k at_ (.slice q fs.length c) 1 0 (lfB k at_ fs) ∧ w.grownBy w' (some P) := by
  have HP1 : Hid (RawB (w.setCell ⟨P, 4, none⟩ (.int .i32 1)) P k at_ (.slice q fs.length c) 0 1 ByteArray.empty) := hp.set4 1
  have HG1 : Hid (w.grownBy (w.setCell ⟨P, 4, none⟩ (.int .i32 1)) (some P)) := grown_set (World.grownBy.refl _ _) _ _
  have HR := reckon_any P k at_ q c fs 0 1 (w.setCell ⟨P, 4, none⟩ (.int .i32 1)) (hT.turned hp HG1.out) HP1.out (hf.turned hp HG1.out) hn hc hk hz
  have h4 : w.cell? ⟨P, 4, none⟩ = some (.int .i32 0) := Bxs.cell hp 4
  have f4 : w.frozen? ⟨P, 4, none⟩ = false := Bxs.fr hp 4
  have hl := run_call_load (P := Tryz.prog) Tryz.func225 (by kernel_rfl) (by kernel_rfl) (by kernel_rfl) .u32 (by kernel_rfl) (w := w.setCell ⟨P, 4, none⟩ (.int .i32 1)) (a := ⟨P, 3, none⟩) (x := 0) (Bxs.cell HP1.out 3)
  have hnot : ∀ (x : Bool) (w : World), (Op.unary .not (.bool x)).run Tryz.prog w = .ok (.bool (!x)) w := fun _ _ => rfl
  clear hT hp hf hz hk
  generalize lfB k at_ fs = R at *
  generalize hW1 : w.setCell ⟨P, 4, none⟩ (.int .i32 1) = W1 at *
  have HW1 : Hid (w.setCell ⟨P, 4, none⟩ (.int .i32 1) = W1) := hW1
  clear hW1
  go_enter_defers Tryz.func220, Tryz.ntmps220
  go_wp2_with (go_at_call 226; refine (lock_free ⟨P, 4, none⟩ _ h4 f4).mono ?_; rintro e w' ⟨rfl, rfl⟩)
  rw [HW1.out]
  go_wp2_with (first | (go_at_call 219; go_in) | (go_at_call 212; refine HR.mono ?_; rintro e y ⟨rfl, hy1, hy2⟩))
  have HY : Hid (RawB y P k at_ (.slice q fs.length c) 0 1 R) := hy1
  have HYG : Hid (w.grownBy y (some P)) := grown_trans HG1.out hy2
  have y3 : y.cell? ⟨P, 3, none⟩ = some (.int .u32 0) := Bxs.cell hy1 3
  have yf3 : y.frozen? ⟨P, 3, none⟩ = false := Bxs.fr hy1 3
  have HY2 : Hid (RawB (y.drew.setCell ⟨P, 3, none⟩ (.int .u32 1)) P k at_ (.slice q fs.length c) 1 1 R) := HY.out.drew.set3 1
  have HYG2 : Hid (w.grownBy (y.drew.setCell ⟨P, 3, none⟩ (.int .u32 1)) (some P)) := grown_set (grown_drew HYG.out) _ _
  have HE : Hid (RawB ((y.drew.setCell ⟨P, 3, none⟩ (.int .u32 1)).setCell ⟨P, 4, none⟩ (.int .i32 0)) P k at_ (.slice q fs.length c) 1 0 R ∧ w.grownBy ((y.drew.setCell ⟨P, 3, none⟩ (.int .u32 1)).setCell ⟨P, 4, none⟩ (.int .i32 0)) (some P)) := ⟨HY2.out.set4 0, grown_set HYG2.out _ _⟩
  clear hy1 hy2
  go_wp2
  refine leaves_cons (f := 228) (args := #[.pointer (some ⟨P, 3, none⟩), .bool true]) (by simp) (by simp [go_sem]) ?_
  refine (store_deferred ⟨P, 3, none⟩ (.int .u32 0) .returning _ y3 yf3).mono ?_
  rintro e u' w'' ⟨rfl, rfl, rfl⟩
  refine leaves_cons (f := 227) (args := #[.pointer (some ⟨P, 4, none⟩)]) (by simp [settle]) (by simp [go_sem]) ?_
  refine (unlock_deferred ⟨P, 4, none⟩ _ _ (Bxs.cell HY2.out 4) (Bxs.fr HY2.out 4)).mono ?_
  rintro e u' w'' ⟨rfl, rfl, rfl⟩
  simp [Leaves, settle, results, Tryz.results220]
  exact HE.out
set_option maxRecDepth 100000 in
set_option maxHeartbeats 1600000 in
/-- '(*sync.Once).Do', not yet done, the lock free. -/
theorem do_any (P : Nat) (k : ByteArray) (at_ : Int) (q : Option Addr) (c : Nat) (fs : List Fld) (w : World) (hT : Tabs w) (hp : RawB w P k at_ (.slice q fs.length c) 0 0 ByteArray.empty) (hf : FldAt w q fs) (hn : fs.length ≤ 1048576) (hc : fs.length ≤ c) (hk : k.size ≤ maxLen) (hz : FldsLe fs) :
    Calls Tryz.prog 211 #[.pointer (some ⟨P, 3, none⟩), .func (.func 212) #[.pointer (some ⟨P, 0, none⟩)] #[]] w fun e w' => e = .returned (.tuple #[]) ∧ RawB w' P k at_ (.slice q fs.length c) 1 0 (lfB k at_ fs) ∧ w.grownBy w' (some P) := by
  have HS := slow_any P k at_ q c fs w hT hp hf hn hc hk hz
  have hl := run_call_load (P := Tryz.prog) Tryz.func225 (by kernel_rfl) (by kernel_rfl) (by kernel_rfl) .u32 (by kernel_rfl) (w := w) (a := ⟨P, 3, none⟩) (x := 0) (Bxs.cell hp 3)
  have hnot : ∀ (x : Bool) (w : World), (Op.unary .not (.bool x)).run Tryz.prog w = .ok (.bool (!x)) w := fun _ _ => rfl
  clear hT hp hf hz hk
  generalize lfB k at_ fs = R at *
  go_enter Tryz.func211, Tryz.ntmps211
  go_wp2_with (first | (go_at_call 220; refine HS.mono ?_; rintro e w' ⟨rfl, hy1, hy2⟩) | (go_at_call 219; go_in))
  go_end0
  exact ⟨rfl, hy1, hy2⟩
set_option maxHeartbeats 1600000 in
/-- The leaf of a row at work, asked for the first time. -/
theorem leaf_any (P : Nat) (k : ByteArray) (at_ : Int) (q : Option Addr) (c : Nat) (fs : List Fld) (w : World) (hT : Tabs w) (hp : RawB w P k at_ (.slice q fs.length c) 0 0 ByteArray.empty) (hf : FldAt w q fs) (hn : fs.length ≤ 1048576) (hc : fs.length ≤ c) (hk : k.size ≤ maxLen) (hz : FldsLe fs) :
    Calls Tryz.prog 192 #[.pointer (some ⟨P, 0, none⟩)] w fun e w' => e = .returned (.string (lfB k at_ fs)) ∧ RawB w' P k at_ (.slice q fs.length c) 1 0 (lfB k at_ fs) ∧ w.grownBy w' (some P) := by
  have HD := do_any P k at_ q c fs w hT hp hf hn hc hk hz
  have hmf : ∀ (fn : Fn) (first cap : Array Value) (w : World), (Instr.makeFunc fn first cap).run Tryz.prog w = .ok (.func fn first cap) w := fun _ _ _ _ => rfl
  obtain ⟨t0, t1, t2, t3, t4, t6⟩ := hp.cells
  clear hT hp hf hz hk
  generalize lfB k at_ fs = R at *
  go_enter Tryz.func192, Tryz.ntmps192
  go_wp2_with fail
  refine HD.mono ?_
  rintro e y ⟨rfl, hy1, hy2⟩
  have HE : Hid (RawB y P k at_ (.slice q fs.length c) 1 0 R ∧ w.grownBy y (some P)) := ⟨hy1, hy2⟩
  have z6 : y.cell? ⟨P, 6, none⟩ = some (.string R) := hy1.cells.2.2.2.2.2
  clear hy1 hy2 t0 t1 t2 t3 t4 t6
  go_wp2_with fail
  go_ret
  exact ⟨rfl, HE.out⟩
end Go.Proofs.YtonleickhincgaaGreatDoor
/-
  What the program's RowLeaf and fieldCode answer.
  Conditions: the cells of Fields hold the fields; the two tables of the digest lie as laid.
-/
namespace Go.Proofs.YtonleickhincgaaGreatDoor
open Go.RowKit Go.Lib
set_option linter.unusedVariables false
set_option maxRecDepth 20000

set_option maxHeartbeats 1000000 in
theorem implRowLeaf_any (k : ByteArray) (at_ : Int) (q : Option Addr) (c : Nat) (fs : List Fld) (w : World) (hT : Tabs w) (hf : FldAt w q fs) (hn : fs.length ≤ 1048576) (hc : fs.length ≤ c) (hk : k.size ≤ maxLen) (hz : FldsLe fs) :
    Calls Tryz.prog 201 #[.agg #[.string k, .int .i64 at_, .slice q fs.length c]] w fun e w' => e = .returned (.string (lfB k at_ fs)) ∧ Below w.heap.size w w' := by
  obtain ⟨W2, hW2⟩ : ∃ W2, W2 = (w.alloc (.cells #[.string k, .int .i64 at_, .slice q fs.length c] 100)).alloc (.cells #[.string k, .int .i64 at_, .slice q fs.length c, .int .u32 0, .int .i32 0, .int .u32 0, .string ⟨#[]⟩] 248) := ⟨_, rfl⟩
  have HW2 : Hid (W2 = (w.alloc (.cells #[.string k, .int .i64 at_, .slice q fs.length c] 100)).alloc (.cells #[.string k, .int .i64 at_, .slice q fs.length c, .int .u32 0, .int .i32 0, .int .u32 0, .string ⟨#[]⟩] 248)) := hW2
  have hs1 : (w.alloc (.cells #[.string k, .int .i64 at_, .slice q fs.length c] 100)).heap.size = w.heap.size + 1 := by simp
  have B2 : Hid (Below w.heap.size w W2) := by rw [hW2]; exact ((Below.refl _ _).alloc (Nat.le_refl _) _).alloc (by rw [hs1]; omega) _
  have KR : RawB W2 (w.heap.size + 1) k at_ (.slice q fs.length c) 0 0 ByteArray.empty := by rw [hW2, ← hs1]; exact Bxs.new _ _ _
  have hL := leaf_any (w.heap.size + 1) k at_ q c fs W2 (hT.to B2.out) KR (hf.below B2.out) hn hc hk hz
  clear hW2 hs1 KR hf hT hz hk
  generalize lfB k at_ fs = R at *
  go_enter Tryz.func201, Tryz.ntmps201
  go_wp2_with fail
  rw [← HW2.out]
  refine hL.mono ?_
  rintro e y ⟨rfl, -, hg⟩
  have HE : Hid (Below w.heap.size w y) := below_turned B2.out hg B2.out.size (by omega)
  clear hg
  go_wp2_with fail
  go_ret
  exact ⟨rfl, HE.out⟩
def fldE : Fld := ⟨ByteArray.empty, ByteArray.empty, ByteArray.empty, ByteArray.empty, false⟩
def fcC (k : ByteArray) (at_ : Int) (fs : List Fld) (i ig : Int) : Int := if rwB k at_ fs = true then (if 0 ≤ i ∧ i ≤ (fs.length : Int) - 1 then (if (fs.getD i.toNat fldE).g = true then ig else 0) else 6) else 1
set_option maxHeartbeats 1000000 in
theorem fieldCode_any (k : ByteArray) (at_ : Int) (q : Option Addr) (c : Nat) (fs : List Fld) (ix ig : Int) (w : World) (hT : Tabs w) (hf : FldAt w q fs) (hn : fs.length ≤ 1048576) (hc : fs.length ≤ c) (hk : k.size ≤ maxLen) (hz : FldsLe fs) :
    Calls Tryz.prog 102 #[.agg #[.string k, .int .i64 at_, .slice q fs.length c], .int .i64 ix, .int .i64 ig] w fun e w' => e = .returned (.int .i64 (fcC k at_ fs ix ig)) ∧ Below w.heap.size w w' := by
  obtain ⟨W1, hW1⟩ : ∃ W1, W1 = w.alloc (.cells #[.string k, .int .i64 at_, .slice q fs.length c] 100) := ⟨_, rfl⟩
  have HW1 : Hid (W1 = w.alloc (.cells #[.string k, .int .i64 at_, .slice q fs.length c] 100)) := hW1
  have B1 : Hid (Below w.heap.size w W1) := by rw [hW1]; exact (Below.refl _ _).alloc (Nat.le_refl _) _
  have K1 : Hid (Bxs W1 w.heap.size 100 #[.string k, .int .i64 at_, .slice q fs.length c]) := by rw [hW1]; exact Bxs.new _ _ _
  have HT : Hid (FldAt W1 q fs) := hf.below B1.out
  have hR := implRowRight_any k at_ q c fs W1 (hT.to B1.out) HT.out hn hc hk hz
  have HX : Hid (∀ x, Below W1.heap.size W1 x → x.cell? ⟨w.heap.size, 0, none⟩ = some (.string k) ∧ x.cell? ⟨w.heap.size, 1, none⟩ = some (.int .i64 at_) ∧ x.cell? ⟨w.heap.size, 2, none⟩ = some (.slice q fs.length c)) := fun x hb => ⟨(K1.out.below hb).cell 0, (K1.out.below hb).cell 1, (K1.out.below hb).cell 2⟩
  obtain ⟨t0, t1, t2⟩ := HX.out W1 (Below.refl _ _)
  rw [HW1.out] at t0 t1 t2
  clear hW1 hf hT hz
  cases hr : rwB k at_ fs with
  | false =>
    have HV : Hid (fcC k at_ fs ix ig = 1) := if_neg (by rw [hr]; exact Bool.false_ne_true)
    rw [hr] at hR
    rw [HV.out]
    clear hr
    go_enter Tryz.func102, Tryz.ntmps102
    go_wp2_with fail
    rw [← HW1.out]
    refine hR.mono ?_
    rintro e y ⟨rfl, b1⟩
    have b2 := chainB B1.out b1
    go_wp2_with fail
    go_ret
    exact ⟨rfl, b2⟩
  | true =>
  rw [hr] at hR
  by_cases h0 : ix < 0
  · have HV : Hid (fcC k at_ fs ix ig = 6) := by show _ = _; unfold fcC; rw [if_pos hr, if_neg (by omega)]
    have d0 : decide (ix < 0) = true := decide_eq_true h0
    rw [HV.out]
    clear hr h0
    go_enter Tryz.func102, Tryz.ntmps102
    go_wp2_with fail
    rw [← HW1.out]
    refine hR.mono ?_
    rintro e y ⟨rfl, b1⟩
    have b2 := chainB B1.out b1
    go_wp2_with fail
    go_ret
    exact ⟨rfl, b2⟩
  have d0 : decide (ix < 0) = false := decide_eq_false h0
  obtain ⟨I, rfl⟩ := Int.eq_ofNat_of_zero_le (show 0 ≤ ix by omega)
  by_cases h1 : fs.length ≤ I
  · have HV : Hid (fcC k at_ fs I ig = 6) := by show _ = _; unfold fcC; rw [if_pos hr, if_neg (by omega)]
    have d1 : decide ((fs.length : Int) ≤ (I : Int)) = true := decide_eq_true (by omega)
    have d2 : decide (fs.length ≤ I) = true := decide_eq_true h1
    rw [HV.out]
    clear hr h0 h1
    go_enter Tryz.func102, Tryz.ntmps102
    go_wp2_with fail
    rw [← HW1.out]
    refine hR.mono ?_
    rintro e y ⟨rfl, b1⟩
    have b2 := chainB B1.out b1
    clear t0 t1 t2
    obtain ⟨t0, t1, t2⟩ := HX.out y b1
    go_wp2_with fail
    go_ret
    exact ⟨rfl, b2⟩
  have d1 : decide ((fs.length : Int) ≤ (I : Int)) = false := decide_eq_false (by omega)
  have d2 : decide (fs.length ≤ I) = false := decide_eq_false h1
  have hIl : I < fs.length := by omega
  have i1 : (I : Int) < fs.length := by omega
  obtain ⟨b, off, rfl, hb0⟩ := HT.out.some_of (by omega)
  have HV : Hid (fcC k at_ fs I ig = if fs[I].g = true then ig else 0) := by show _ = _; unfold fcC; rw [if_pos hr, if_pos (by omega), Int.toNat_natCast, List.getD_eq_getElem?_getD, List.getElem?_eq_getElem hIl]; rfl
  have HC : Hid (∀ x, Below W1.heap.size W1 x → x.cell? ⟨b, off + I * 5 + 4, none⟩ = some (.bool fs[I].g)) := fun x hx => ((HT.out.below hx).at I hIl).2.2.2.2
  rw [HV.out]
  clear HV hr h0 h1
  cases hg : fs[I].g with
  | true =>
    rw [hg] at HC
    rw [if_pos rfl]
    clear hg
    go_enter Tryz.func102, Tryz.ntmps102
    go_wp2_with fail
    rw [← HW1.out]
    refine hR.mono ?_
    rintro e y ⟨rfl, b1⟩
    have b2 := chainB B1.out b1
    clear t0 t1 t2
    obtain ⟨t0, t1, t2⟩ := HX.out y b1
    have c4 := HC.out y b1
    go_wp2_with fail
    go_ret
    exact ⟨rfl, b2⟩
  | false =>
    rw [hg] at HC
    rw [if_neg (by exact Bool.false_ne_true)]
    clear hg
    go_enter Tryz.func102, Tryz.ntmps102
    go_wp2_with fail
    rw [← HW1.out]
    refine hR.mono ?_
    rintro e y ⟨rfl, b1⟩
    have b2 := chainB B1.out b1
    clear t0 t1 t2
    obtain ⟨t0, t1, t2⟩ := HX.out y b1
    have c4 := HC.out y b1
    go_wp2_with fail
    go_ret
    exact ⟨rfl, b2⟩
theorem fcC_zero {k : ByteArray} {at_ : Int} {fs : List Fld} {i ig : Int} (hig : ig ≠ 0) (h : fcC k at_ fs i ig = 0) : rwB k at_ fs = true ∧ (0 ≤ i ∧ i ≤ (fs.length : Int) - 1) ∧ (fs.getD i.toNat fldE).g = false := by
  unfold fcC at h
  by_cases h1 : rwB k at_ fs = true
  · rw [if_pos h1] at h
    by_cases h2 : 0 ≤ i ∧ i ≤ (fs.length : Int) - 1
    · rw [if_pos h2] at h
      cases hg : (fs.getD i.toNat fldE).g with
      | true => rw [hg, if_pos rfl] at h; exact absurd h hig
      | false => exact ⟨h1, h2, rfl⟩
    · rw [if_neg h2] at h; cases h
  · rw [if_neg h1] at h; cases h
end Go.Proofs.YtonleickhincgaaGreatDoor
