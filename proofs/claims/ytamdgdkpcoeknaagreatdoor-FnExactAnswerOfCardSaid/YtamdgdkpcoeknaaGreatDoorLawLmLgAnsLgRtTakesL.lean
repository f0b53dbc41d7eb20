/-
  Parts of one proof, laid as one text: LawLm, LgAns, LgRt, TakesL; what each says stands at its head.
-/
import Derived.Test.YtamdgdkpcoeknaaGreatDoorRows
import Derived.Test.YtamdgdkpcoeknaaGreatDoorBytesDigMath
import Derived.Test.YtamdgdkpcoeknaaGreatDoorTreeMathSlASlBBxKOwnS
import Derived.Test.YtamdgdkpcoeknaaGreatDoorLawLzLawMLawMGLawFM
import Derived.Test.YtamdgdkpcoeknaaGreatDoorTimeBPutMathPutNumJoinedPutTextFldMath
import Derived.Test.YtamdgdkpcoeknaaGreatDoorLgMathLgAtKOneKFldBlkRwBlkTakes
import Derived.Test.YtamdgdkpcoeknaaGreatDoorLawFLawFRLawSLawSG
import Derived.Test.YtamdgdkpcoeknaaGreatDoorLawLgLawLh
import Derived.Handy
import Derived.WalkSpells
import Derived.OwnWalk
import Derived.Laws.OwnMore
import Derived.Test.YtamdgdkpcoeknaaGreatDoorGetValGetTxtNumMathFldRdNumFromTmbMath
import Derived.Deep.RegionHeld3
/-
  What the laws' own helpers markRowS and markLog do with a log of its own: all blocks but the log's own stay.
-/
namespace Go.Proofs.YtamdgdkpcoeknaaGreatDoor
open Go.RowKit Go.Lib
set_option linter.unusedVariables false
set_option maxRecDepth 20000

/-- What lay is as it was, but for the blocks of S. -/
structure But (S : Nat → Prop) (w w' : World) : Prop where
  os : w'.os = w.os
  tape : w'.tape = w.tape
  output : w'.output = w.output
  size : w.heap.size ≤ w'.heap.size
  block : ∀ k, k < w.heap.size → ¬ S k → w'.heap[k]? = w.heap[k]?
theorem But.refl (S : Nat → Prop) (w : World) : But S w w := ⟨rfl, rfl, rfl, Nat.le_refl _, fun _ _ _ => rfl⟩
theorem But.more {S : Nat → Prop} {a b c : World} (h : But S a b) (k : Below b.heap.size b c) : But S a c :=
  ⟨k.os.trans h.os, k.tape.trans h.tape, k.output.trans h.output, Nat.le_trans h.size k.size, fun q hq hn => (k.block q (Nat.lt_of_lt_of_le hq h.size)).trans (h.block q hq hn)⟩
theorem But.put {S : Nat → Prop} {a b : World} (h : But S a b) {p : Addr} (hp : S p.block) (v : Value) : But S a (b.setCell p v) :=
  ⟨h.os, h.tape, h.output, by simpa [World.setCell] using h.size, fun q hq hn => (Below.heap_setCell b p v q (fun e => hn (e ▸ hp))).trans (h.block q hq hn)⟩
theorem But.grown {S : Nat → Prop} {a b c : World} (h : But S a b) {g : Nat} (k : b.grownBy c (some g)) (hg : S g) : But S a c :=
  ⟨k.os.trans h.os, k.tape.trans h.tape, k.output.trans h.output, Nat.le_trans h.size k.size, fun q hq hn => (k.block q (Nat.lt_of_lt_of_le hq h.size) (fun e => hn (by cases e; exact hg))).trans (h.block q hq hn)⟩
theorem But.below {S : Nat → Prop} {a b c : World} {B : Nat} (h : Below B a b) (hB : B ≤ b.heap.size) (k : But S b c) (hS : ∀ q, S q → B ≤ q) : Below B a c :=
  ⟨k.os.trans h.os, k.tape.trans h.tape, k.output.trans h.output, Nat.le_trans h.size k.size, fun q hq => (k.block q (Nat.lt_of_lt_of_le hq hB) (fun e => by have := hS q e; omega)).trans (h.block q hq)⟩
theorem Bxs.but {S : Nat → Prop} {w w' : World} {g : Nat} {T : TypeId} {cs : Array Value} (h : Bxs w g T cs) (k : But S w w') (hn : ¬ S g) : Bxs w' g T cs := (k.block g h.lt hn).trans h
theorem ownS_but {S : Nat → Prop} {w w' : World} {base : Nat} {e : TypeId} {s : Nat} {v : Value} {n : Nat} {xs : List Value} (h : w.ownsRow base e s v n xs) (k : But S w w') (hn : ∀ g, v.ownBlock = some g → ¬ S g) : w'.ownsRow base e s v n xs := by
  refine ⟨h.1, ?_⟩
  rcases h.2 with h0 | ⟨g, cap, cur, h1, h2, h3, h4⟩
  · exact .inl h0
  · exact .inr ⟨g, cap, cur, h1, h2, (k.block g (lt_of_block h3) (hn g (by rw [h1]; rfl))).trans h3, h4⟩
/-- How many fields the first k rows have. -/
def fX (xs : List (Rw × Nat)) (k : Nat) : Nat := fsN ((xs.map (·.1)).take k)
theorem fX_step (xs : List (Rw × Nat)) (k : Nat) (h : k < xs.length) : fX xs (k + 1) = fX xs k + xs[k].1.fs.length := by
  unfold fX
  rw [fsN_take _ k (by simpa using h), List.getElem_map]
theorem fX_le (xs : List (Rw × Nat)) (k : Nat) : fX xs k ≤ fsN (xs.map (·.1)) := by
  unfold fX fsN
  conv => rhs; rw [← List.take_append_drop k (xs.map (·.1))]
  rw [List.map_append, List.sum_append]; omega
theorem fX_all (xs : List (Rw × Nat)) : fX xs xs.length = fsN (xs.map (·.1)) := by
  have := fsN_all (xs.map (·.1)); rw [List.length_map] at this; exact this
/-- i rows are marked. -/
structure MkR (S : Nat → Prop) (w : World) (g : Nat) (xs : List (Rw × Nat)) (i : Nat) (x : World) : Prop where
  bl : ∃ row : List Value, row.length = xs.length * 3 ∧ (∀ j (h : j < xs.length), row[j * 3 + 2]? = some (.slice (some ⟨xs[j].2, 0, none⟩) xs[j].1.fs.length xs[j].1.fs.length)) ∧ Bxs x g 67 row.toArray
  fl : ∀ j (h : j < xs.length), i ≤ j → BlkF x xs[j].2 xs[j].1.fs
  but : But S w x
theorem MkR.start {S : Nat → Prop} {w : World} {g : Nat} {xs : List (Rw × Nat)} (h : RwsB w g xs) : MkR S w g xs 0 w := by
  refine ⟨⟨rcRow (xs.map rcOf), by rw [rcRow_len]; simp, fun j hj => ?_, h.blk⟩, fun j hj _ => h.fld _ (List.getElem_mem hj), But.refl _ _⟩
  have := (rcRow_at (xs.map rcOf) j (by simpa using hj)).2.2
  rw [this]; simp [rcOf]
theorem MkR.below {S : Nat → Prop} {w : World} {g : Nat} {xs : List (Rw × Nat)} {i : Nat} {x y : World} (h : MkR S w g xs i x) (hb : Below x.heap.size x y) : MkR S w g xs i y := by
  obtain ⟨row, h1, h2, h3⟩ := h.bl
  exact ⟨⟨row, h1, h2, h3.below hb⟩, fun j hj hi => (h.fl j hj hi).below hb, h.but.more hb⟩
theorem MkR.put {S : Nat → Prop} {w : World} {g : Nat} {xs : List (Rw × Nat)} {i : Nat} {x : World} (h : MkR S w g xs i x) (hS : S g) (hu : ∀ x ∈ xs, g < x.2) (a : Nat) (ha : a % 3 ≠ 2) (v : Value) : MkR S w g xs i (x.setCell ⟨g, a, none⟩ v) := by
  obtain ⟨row, h1, h2, h3⟩ := h.bl
  refine ⟨⟨row.set a v, by simpa using h1, fun j hj => ?_, bxs_set1 h3 a v⟩, fun j hj hi => ?_, h.but.put hS v⟩
  · rw [List.getElem?_set_ne (by omega)]; exact h2 j hj
  · have := hu _ (List.getElem_mem hj)
    exact Bxs.other (h.fl j hj hi) _ _ (by omega) _
theorem MkR.cells {S : Nat → Prop} {w : World} {g : Nat} {xs : List (Rw × Nat)} {i : Nat} {x : World} (h : MkR S w g xs i x) (j : Nat) (hj : j < xs.length) : (∃ v, x.cell? ⟨g, j * 3, none⟩ = some v) ∧ (∃ v, x.cell? ⟨g, j * 3 + 1, none⟩ = some v) ∧ x.cell? ⟨g, j * 3 + 2, none⟩ = some (.slice (some ⟨xs[j].2, 0, none⟩) xs[j].1.fs.length xs[j].1.fs.length) ∧ x.frozen? ⟨g, j * 3, none⟩ = false ∧ x.frozen? ⟨g, j * 3 + 1, none⟩ = false := by
  obtain ⟨row, h1, h2, h3⟩ := h.bl
  have hc : ∀ a, x.cell? ⟨g, a, none⟩ = row[a]? := fun a => by rw [h3.cell a]; simp
  refine ⟨⟨row[j * 3]'(by omega), ?_⟩, ⟨row[j * 3 + 1]'(by omega), ?_⟩, ?_, h3.fr _, h3.fr _⟩
  · rw [hc]; exact List.getElem?_eq_getElem _
  · rw [hc]; exact List.getElem?_eq_getElem _
  · rw [hc]; exact h2 j hj
theorem MkR.fields {S : Nat → Prop} {w : World} {g : Nat} {xs : List (Rw × Nat)} {i : Nat} {x y : World} (h : MkR S w g xs i x) (hi : i < xs.length) (hS : S xs[i].2) (hu : ∀ x ∈ xs, g < x.2) (ha : xs.Pairwise (fun x y => x.2 < y.2)) (hg : x.grownBy y (some xs[i].2)) : MkR S w g xs (i + 1) y := by
  obtain ⟨row, h1, h2, h3⟩ := h.bl
  have := hu _ (List.getElem_mem hi)
  refine ⟨⟨row, h1, h2, h3.grown hg (fun e => by have := Option.some.inj e; omega)⟩, fun j hj hij => ?_, h.but.grown hg hS⟩
  have hl := List.pairwise_iff_getElem.1 ha i j hi hj (by omega)
  exact Bxs.grown (h.fl j hj (by omega)) hg (fun e => by have := Option.some.inj e; omega)

set_option maxHeartbeats 4000000 in
theorem markRowS_any (S : Nat → Prop) (g : Nat) (xs : List (Rw × Nat)) (s : Nat) (w : World) (h : RwsB w g xs) (hs1 : 1 ≤ s) (hS : S g) (hSx : ∀ x ∈ xs, S x.2) (hn : xs.length ≤ 1048576) (hb : s + 2 * xs.length + 5 * fsN (xs.map (·.1)) ≤ 16777210) :
    Calls Tryz.prog 40 #[.slice (some ⟨g, 0, none⟩) xs.length xs.length, .int .i64 (s : Int)] w fun e w' => (∃ r : Nat, e = .returned (.int .i64 (r : Int)) ∧ s ≤ r ∧ r ≤ s + 2 * xs.length + 5 * fsN (xs.map (·.1))) ∧ But S w w' := by
  have HM0 : Hid (MkR S w g xs 0 w) := MkR.start h
  have HU : Hid (∀ x ∈ xs, g < x.2) := h.up
  have HA : Hid (xs.Pairwise (fun x y => x.2 < y.2)) := h.apart
  have HSX : Hid (∀ x ∈ xs, S x.2) := hSx
  have HLE : Hid (∀ k (hk : k < xs.length), fX xs (k + 1) = fX xs k + xs[k].1.fs.length ∧ fX xs (k + 1) ≤ fsN (xs.map (·.1))) := fun k hk => ⟨fX_step xs k hk, fX_le xs (k + 1)⟩
  have hAll : fX xs xs.length = fsN (xs.map (·.1)) := fX_all xs
  have F0 : fX xs 0 = 0 := rfl
  clear h hSx
  generalize fsN (xs.map (·.1)) = T at *
  generalize fX xs = F at *
  go_enter Tryz.func40, Tryz.ntmps40
  go_wp2_with fail
  go_loopw [5, 1] (fun i x wr => ∃ (k : Nat) (c : Nat), k ≤ xs.length ∧ i = .int .i64 k ∧ x = .int .i64 (c : Int) ∧ c = s + 2 * k + 5 * F k ∧ Hid (MkR S w g xs k wr)) (fun i _ _ => xs.length - (intOf i).toNat)
  case atStart => exact ⟨0, s, Nat.zero_le _, rfl, rfl, by omega, HM0⟩
  case round =>
    clear HM0
    obtain ⟨k, c, hk, rfl, rfl, hc, HM⟩ := hrel
    by_cases hlt : k < xs.length
    · have i1 : (k : Int) < xs.length := by omega
      obtain ⟨l1, l2⟩ := HLE.out k hlt
      have A1 : Hid (∀ z : Int, ∀ w, z = (c : Int) → Calls Tryz.prog 74 #[.int .i64 z] w fun e w' => e = .returned (.string (markB c)) ∧ Below w.heap.size w w') := fun z w hz => markText_int z _ hz w (by omega) (by omega)
      have A2 : Hid (∀ z : Int, ∀ x, z = (c : Int) + 1 + 1 → BlkF x xs[k].2 xs[k].1.fs → Calls Tryz.prog 75 #[.slice (some ⟨xs[k].2, 0, none⟩) xs[k].1.fs.length xs[k].1.fs.length, .int .i64 z] x fun e w' => e = .returned (.int .i64 (5 * (xs[k].1.fs.length : Int) + (c + 2 : Nat))) ∧ x.grownBy w' (some xs[k].2)) := fun z x hz hB => by
        have := markF_any (c + 2) (by omega) 0 _ _ x (hB.own 0 (Nat.zero_le _) (by unfold maxLen; omega)) (by omega)
        rw [show ((c + 2 : Nat) : Int) = z by omega] at this
        refine this.mono ?_
        rintro e y ⟨rfl, -, hg⟩
        exact ⟨by rw [show z = ((c + 2 : Nat) : Int) by omega], hg⟩
      have HMf : Hid (∀ x, MkR S w g xs k x → BlkF x xs[k].2 xs[k].1.fs) := fun x hx => hx.fl k hlt (Nat.le_refl _)
      have HMn : Hid (∀ x y, MkR S w g xs k x → x.grownBy y (some xs[k].2) → MkR S w g xs (k + 1) y) := fun x y hx hg => hx.fields hlt (HSX.out _ (List.getElem_mem hlt)) HU.out HA.out hg
      have HMc : Hid (∀ x, MkR S w g xs k x → (∃ v, x.cell? ⟨g, k * 3, none⟩ = some v) ∧ (∃ v, x.cell? ⟨g, k * 3 + 1, none⟩ = some v) ∧ x.cell? ⟨g, k * 3 + 2, none⟩ = some (.slice (some ⟨xs[k].2, 0, none⟩) xs[k].1.fs.length xs[k].1.fs.length) ∧ x.frozen? ⟨g, k * 3, none⟩ = false ∧ x.frozen? ⟨g, k * 3 + 1, none⟩ = false) := fun x hx => hx.cells k hlt
      have HN2 : Hid (5 * xs[k].1.fs.length + (c + 2) = s + 2 * (k + 1) + 5 * F (k + 1)) := by show _ = _; omega
      have c1 : c + 5 * xs[k].1.fs.length ≤ 16777210 := by omega
      clear l1 l2 hc
      generalize xs[k].2 = gk at *
      generalize xs[k].1.fs = fk at *
      generalize markB c = M1 at *
      go_wp2_with fail
      refine (A1.out _ _ (by omega)).mono ?_
      rintro e y ⟨rfl, b⟩
      have HY : Hid (MkR S w g xs k y) := HM.out.below b
      clear b HM A1
      obtain ⟨⟨x0, c0⟩, -, -, f0, -⟩ := HMc.out y HY.out
      have HY1 : Hid (MkR S w g xs k (y.setCell ⟨g, k * 3, none⟩ (.string M1))) := HY.out.put hS HU.out _ (by omega) _
      obtain ⟨-, ⟨x1, c1⟩, -, -, f1⟩ := HMc.out _ HY1.out
      have HY2 : Hid (MkR S w g xs k ((y.setCell ⟨g, k * 3, none⟩ (.string M1)).setCell ⟨g, k * 3 + 1, none⟩ (.int .i64 ((c : Int) + 1)))) := HY1.out.put hS HU.out _ (by omega) _
      obtain ⟨-, -, c2, -, -⟩ := HMc.out _ HY2.out
      have hF := A2.out _ _ rfl (HMf.out _ HY2.out)
      clear HY HY1 A2 HMc HMf
      go_wp2_with fail
      refine hF.mono ?_
      rintro e y3 ⟨rfl, hg3⟩
      have HN : Hid (MkR S w g xs (k + 1) y3) := HMn.out _ _ HY2.out hg3
      clear hF hg3 HY2 HMn c0 f0 c1 f1 c2
      go_wp2_with fail
      go_roundw
      case rel => exact ⟨k + 1, 5 * fk.length + (c + 2), by omega, by go_num, by go_num, HN2.out, HN.out⟩
      case measure => simp [intOf]; omega
    · obtain rfl : k = xs.length := by omega
      have HC : Hid (s ≤ c ∧ c ≤ s + 2 * xs.length + 5 * T) := ⟨by omega, by omega⟩
      clear hc
      go_wp2_with fail
      go_ret
      exact ⟨⟨c, rfl, HC.out.1, HC.out.2⟩, HM.out.but⟩

/-- The blocks of a log of its own. -/
def lgS (g : Nat) (xs : List (Rw × Nat)) (gl : Nat) (k : Nat) : Prop := k = g ∨ k = gl ∨ ∃ x ∈ xs, k = x.2
set_option maxHeartbeats 2000000 in
theorem markLog_any (g : Nat) (xs : List (Rw × Nat)) (gl : Nat) (lv : List ByteArray) (now : Int) (s : Nat) (w : World) (h : LgB w g xs gl lv) (hs1 : 1 ≤ s) (hn : xs.length ≤ 1048576) (hl : lv.length ≤ 1048576) (hb : s + 2 * xs.length + 5 * fsN (xs.map (·.1)) + lv.length ≤ 16777210) :
    Calls Tryz.prog 11 #[.agg #[.slice (some ⟨g, 0, none⟩) xs.length xs.length, .slice (some ⟨gl, 0, none⟩) lv.length lv.length, .int .i64 now], .int .i64 (s : Int)] w fun e w' => (∃ r : Nat, e = .returned (.int .i64 (r : Int))) ∧ But (lgS g xs gl) w w' := by
  obtain ⟨W1, hW1⟩ : ∃ W1, W1 = w.alloc (.cells #[.slice (some ⟨g, 0, none⟩) xs.length xs.length, .slice (some ⟨gl, 0, none⟩) lv.length lv.length, .int .i64 now] 36) := ⟨_, rfl⟩
  have HW1 : Hid (W1 = w.alloc (.cells #[.slice (some ⟨g, 0, none⟩) xs.length xs.length, .slice (some ⟨gl, 0, none⟩) lv.length lv.length, .int .i64 now] 36)) := hW1
  have B1 : Below w.heap.size w W1 := by rw [hW1]; exact (Below.refl _ _).alloc (Nat.le_refl _) _
  have K1 : Hid (Bxs W1 w.heap.size 36 #[.slice (some ⟨g, 0, none⟩) xs.length xs.length, .slice (some ⟨gl, 0, none⟩) lv.length lv.length, .int .i64 now]) := by rw [hW1]; exact Bxs.new _ _ _
  have hL1 := h.below B1
  have hR := markRowS_any (fun k => k = g ∨ ∃ x ∈ xs, k = x.2) g xs s W1 hL1.rw hs1 (.inl rfl) (fun x hx => .inr ⟨x, hx, rfl⟩) hn (by omega)
  have HB1 : Hid (But (lgS g xs gl) w W1) := (But.refl _ _).more B1
  have HLF : Hid (BlkS W1 gl lv) := hL1.lf
  have HG : Hid (gl ≠ g ∧ ∀ x ∈ xs, gl ≠ x.2) := ⟨by have := h.gg; omega, fun x hx => by have := h.gx x hx; omega⟩
  have HLt : Hid (g < w.heap.size ∧ ∀ x ∈ xs, x.2 < w.heap.size) := ⟨h.rw.lt, fun x hx => Bxs.lt (h.rw.fld x hx)⟩
  have x0 := K1.out.cell 0
  rw [HW1.out] at x0
  clear hW1 h hL1 B1
  go_enter Tryz.func11, Tryz.ntmps11
  go_wp2_with fail
  rw [← HW1.out]
  refine hR.mono ?_
  rintro e y ⟨⟨r, rfl, r0, r1⟩, hbut⟩
  clear hR x0 HW1
  have K2 : Bxs y w.heap.size 36 #[.slice (some ⟨g, 0, none⟩) xs.length xs.length, .slice (some ⟨gl, 0, none⟩) lv.length lv.length, .int .i64 now] := K1.out.but hbut (by
    rintro (e | ⟨x, hx, e⟩)
    · have := HLt.out.1; omega
    · have := HLt.out.2 x hx; omega)
  have x1 := K2.cell 1
  have hLF : BlkS y gl lv := Bxs.but HLF.out hbut (by
    rintro (e | ⟨x, hx, e⟩)
    · exact HG.out.1 e
    · exact HG.out.2 x hx e)
  have hM := markG_any r (by omega) 0 _ lv y (hLF.own 0 (Nat.zero_le _) (by unfold maxLen; omega)) (by omega)
  have HB2 : Hid (But (lgS g xs gl) w y) := ⟨hbut.os.trans HB1.out.os, hbut.tape.trans HB1.out.tape, hbut.output.trans HB1.out.output, Nat.le_trans HB1.out.size hbut.size, fun q hq hnq => (hbut.block q (Nat.lt_of_lt_of_le hq HB1.out.size) (fun e => hnq (by rcases e with e | e; exact .inl e; exact .inr (.inr e)))).trans (HB1.out.block q hq hnq)⟩
  clear hbut K2 hLF K1 HLF HB1
  go_wp2_with fail
  refine hM.mono ?_
  rintro e y2 ⟨rfl, -, hg⟩
  have HB3 : Hid (But (lgS g xs gl) w y2) := HB2.out.grown hg (.inr (.inl rfl))
  clear hM hg HB2
  go_wp2_with fail
  go_ret
  exact ⟨⟨lv.length + r, by simp⟩, HB3.out⟩
theorem lgS_from {w : World} {g : Nat} {xs : List (Rw × Nat)} {gl : Nat} {lv : List ByteArray} (h : LgB w g xs gl lv) {q : Nat} (hq : lgS g xs gl q) : g ≤ q ∧ q < w.heap.size := by
  rcases hq with rfl | rfl | ⟨x, hx, rfl⟩
  · exact ⟨Nat.le_refl _, h.rw.lt⟩
  · exact ⟨Nat.le_of_lt h.gg, h.lf.lt⟩
  · exact ⟨Nat.le_of_lt (h.rw.up x hx), Bxs.lt (h.rw.fld x hx)⟩
end Go.Proofs.YtamdgdkpcoeknaaGreatDoor
/-
  What is told of a log, in plain mathematics: the place of a row's leaf, the code and the status of a field.
-/
namespace Go.Proofs.YtamdgdkpcoeknaaGreatDoor
open Go.RowKit Go.Lib
set_option linter.unusedVariables false

def plFrom (row : Int) : Nat → Nat → List ByteArray → Int
  | _, _, [] => -1
  | n, i, t :: ts => if isRl t = true then (if (n : Int) = row then (i : Int) else plFrom row (n + 1) (i + 1) ts) else plFrom row n (i + 1) ts
def plB (lv : List ByteArray) (row : Int) : Int := plFrom row 0 0 lv
def plO (rs : List Rw) (lv : List ByteArray) (now r : Int) : Int := if lgB rs lv now = true then plB lv r else -1
def tbO (rs : List Rw) (lv : List ByteArray) (now r f : Int) : Int := if lgB rs lv now = true then tbAt lv r f else -1
/-- The code of a field: it is there, it is gone, there is none. -/
def fcO (rs : List Rw) (r f : Int) : Int := if 0 ≤ r ∧ r ≤ (rs.length : Int) - 1 then (if 0 ≤ f ∧ f ≤ ((rs.getD r.toNat rwZ).fs.length : Int) - 1 then (if (fldOf rs r f).g = true then 7 else 0) else 6) else 6
def gcO (rs : List Rw) (lv : List ByteArray) (now r f : Int) : Int := if lgB rs lv now = true then fcO rs r f else 1
def stC (c : Int) : Int := if c = 0 then 1 else if c = 7 then 2 else 0
def stO (rs : List Rw) (lv : List ByteArray) (now r f : Int) : Int := if lgB rs lv now = true then stC (fcO rs r f) else 0
theorem stO_gc (rs : List Rw) (lv : List ByteArray) (now r f : Int) : stO rs lv now r f = stC (gcO rs lv now r f) := by
  unfold stO gcO
  split
  · rfl
  · rfl
theorem fcO_cases (rs : List Rw) (r f : Int) : fcO rs r f = 0 ∨ fcO rs r f = 7 ∨ fcO rs r f = 6 := by
  unfold fcO
  split
  · split
    · split
      · exact .inr (.inl rfl)
      · exact .inl rfl
    · exact .inr (.inr rfl)
  · exact .inr (.inr rfl)
theorem lg_right {rs : List Rw} {lv : List ByteArray} {now : Int} (h : lgB rs lv now = true) : rs.length ≤ 6 ∧ lv.length ≤ 64 ∧ (∀ r ∈ rs, rB r = true) := by
  unfold lgB at h
  simp only [Bool.and_eq_true, decide_eq_true_iff] at h
  refine ⟨h.1, h.2.1, fun r hr => ?_⟩
  have h2 := h.2.2.2.1
  unfold rsB at h2
  rw [List.all_eq_true] at h2
  exact (Bool.and_eq_true_iff.1 (h2 r hr)).1
end Go.Proofs.YtamdgdkpcoeknaaGreatDoor
/-
  The root of a log's first leaves and its head, in plain mathematics; the leaves of a right log are small.
-/
namespace Go.Proofs.YtamdgdkpcoeknaaGreatDoor
open Go.RowKit Go.Lib
set_option linter.unusedVariables false

def roO (rs : List Rw) (lv : List ByteArray) (now n : Int) : ByteArray := if lgB rs lv now = true then (if 0 ≤ n ∧ n ≤ (lv.length : Int) then treeB (lv.take n.toNat) else ByteArray.empty) else ByteArray.empty
def hdB (lv : List ByteArray) : ByteArray := putB (lv.length : Int) ++ putTextB (treeB lv)
def hdO (rs : List Rw) (lv : List ByteArray) (now : Int) : ByteArray := if lgB rs lv now = true then hdB lv else ByteArray.empty
theorem go_small (rs : List Rw) (now : Int) : ∀ (suf pre : List ByteArray) (n n' : Nat), cGo rs now pre n suf = some n' → ∀ t ∈ suf, t.size ≤ 100
  | [], _, _, _, _ => fun t h => by cases h
  | t :: ts, pre, n, n', h => by
    rw [cGo] at h
    have each : ∀ {m : Nat} {q : List ByteArray}, t.size ≤ 100 → cGo rs now q m ts = some n' → ∀ x ∈ t :: ts, x.size ≤ 100 := fun ht hc x hx => by
      rcases List.mem_cons.1 hx with rfl | hx
      · exact ht
      · exact go_small rs now ts _ _ _ hc x hx
    split at h
    · rename_i hn
      refine each ?_ h
      rw [((nx_iff _ _ _).1 hn).2]
      unfold rlB
      rw [ByteArray.size_append, digB_size]
      show 1 + 32 ≤ 100
      omega
    · split at h
      · rename_i hn ho
        refine each ?_ h
        unfold okT at ho
        simp only [Bool.and_eq_true, decide_eq_true_iff] at ho
        obtain ⟨-, -, hR, -⟩ := tr_sound ho.1
        have := (tmRaw_size (trT t)).2
        rw [hR] at this
        omega
      · cases h
theorem lg_small {rs : List Rw} {lv : List ByteArray} {now : Int} (h : lgB rs lv now = true) : ∀ t ∈ lv, t.size ≤ 100 := by
  rw [lg_eq] at h
  unfold imB at h
  simp only [Bool.and_eq_true] at h
  cases hc : cGo rs now [] 0 lv with
  | none => rw [hc] at h; exact absurd h.2.2 (by simp)
  | some n => exact go_small rs now lv [] 0 n hc
theorem ent_take {lv : List ByteArray} (h1 : lv.length ≤ 64) (h2 : ∀ t ∈ lv, t.size ≤ 100) (k : Nat) : entB (lv.take k) = true :=
  entB_true (by simp; omega) (fun j hj => h2 _ (List.mem_of_mem_take (List.getElem_mem hj)))
theorem rtSize (wx : World) : (sizeOf (Tryz.prog.elem 23)).run Tryz.prog wx = .ok 1 wx := by kernel_rfl
theorem rtElem : Tryz.prog.underlying 23 = some (.slice (Tryz.prog.elem 23)) := by kernel_rfl
theorem sl_to (q : Option Addr) (n c k : Nat) (hk : k ≤ c) (wx : World) : (Instr.slice 23 (.slice q n c) none (some (.int .i64 (k : Int))) none).run Tryz.prog wx = .ok (.slice q k c) wx := by
  rw [run_slice_h (P := Tryz.prog) wx 23 q n c rtElem .i64 (k : Int) (by omega) (by omega), rtSize]
  cases q <;> simp [sliced, Result.andThen, Addr.add]
theorem rtSizeL (wx : World) : (sizeOf (Tryz.prog.elem 71)).run Tryz.prog wx = .ok 1 wx := by kernel_rfl
theorem rtElemL : Tryz.prog.underlying 71 = some (.slice (Tryz.prog.elem 71)) := by kernel_rfl
theorem sl_lv (q : Option Addr) (n c k : Nat) (hk : k ≤ c) (wx : World) : (Instr.slice 71 (.slice q n c) none (some (.int .i64 (k : Int))) none).run Tryz.prog wx = .ok (.slice q k c) wx := by
  rw [run_slice_h (P := Tryz.prog) wx 71 q n c rtElemL .i64 (k : Int) (by omega) (by omega), rtSizeL]
  cases q <;> simp [sliced, Result.andThen, Addr.add]
theorem putTextB_32 {t : ByteArray} (h : t.size = 32) : (putTextB t).size ≤ 42 := by
  have := putTextB_le t (by omega)
  omega
end Go.Proofs.YtamdgdkpcoeknaaGreatDoor
/-
  One operation of a drawing region taken by hand, where the region's LAST operation (a store, which waits for all others) ends what held of the world till then: the condition is asked behind every operation but that one.
-/
namespace Go.Proofs.YtamdgdkpcoeknaaGreatDoor
open Go.RowKit Go.Lib
set_option linter.unusedVariables false

/-- In whatever order, and S holds behind every operation but number l. -/
def AnyTill (P : Program) (md : Region.Mode) (ops : Array Oper) (Q : Exit → Act → World → Prop) (S : World → Prop) (l : Nat) : Nat → Array Bool → Act → World → Prop
  | 0, listed, a, w => Region.ready md ops listed = [] ∧ Q .normal a w
  | n + 1, listed, a, w => (Region.ready md ops listed = [] → Q .normal a w) ∧ ∀ i ∈ Region.ready md ops listed, wpOp P ops Q i (fun a' w' => (i ≠ l → S w') ∧ AnyTill P md ops Q S l n (listed.setIfInBounds i true) a' w') a w
/-- Number l waits for number i. -/
def waitsFor (md : Region.Mode) (ops : Array Oper) (l i : Nat) : Bool := match ops[l]? with
  | some x => x.after.any (fun e => Region.binds md e && e.on == i)
  | none => false
section
variable {P : Program} {ops : Array Oper} {Q : Exit → Act → World → Prop} {md : Region.Mode} {S : World → Prop} {l : Nat}
theorem AnyTill.any : ∀ (n : Nat) (listed : Array Bool) (a : Act) (w : World), AnyTill P md ops Q S l n listed a w → wpAny P md ops Q n listed a w
  | 0, _, _, _, h => h
  | n + 1, _, _, _, h => ⟨h.1, fun i hi => wpOp_mono (fun a' w' k => AnyTill.any n _ a' w' k.2) (h.2 i hi)⟩
theorem AnyTill.first {i : Nat} {o : Oper} {v : Value} (hi : ops[i]? = some o) (hsel : ∀ (j : Nat) (x : Oper) cs b, ops[j]? = some x → x.op ≠ .select cs b) (hQ : ∀ c a w, Q (.panic c) (a.put o.dst v) w → Q (.panic c) a w) (hl : waitsFor md ops l i = true) (n : Nat) :
    ∀ (listed : Array Bool) (a : Act) (w : World), (∀ j x, ops[j]? = some x → j ≠ i → listed.getD j true = false → (∀ e ∈ x.after, Region.binds md e = true → e.on ≠ i) → o.apart ops x = true) →
      i ∈ Region.ready md ops listed → YieldsIf P ops S o v a → S w → AnyTill P md ops Q S l n (listed.setIfInBounds i true) (a.put o.dst v) w → AnyTill P md ops Q S l (n + 1) listed a w := by
  induction n with
  | zero =>
    intro listed a w _ hr hy hS H
    refine ⟨fun h0 => absurd (h0 ▸ hr) (by simp), fun j hj => ?_⟩
    by_cases hji : j = i
    · subst hji; exact hy.wpOp hi hS ⟨fun _ => hS, H⟩
    · exact absurd (H.1 ▸ ready_mono hj hji) (by simp)
  | succ n ih =>
    intro listed a w hfree hr hy hS H
    refine ⟨fun h0 => absurd (h0 ▸ hr) (by simp), fun j hj => ?_⟩
    by_cases hji : j = i
    · subst hji; exact hy.wpOp hi hS ⟨fun _ => hS, H⟩
    obtain ⟨hun, x, hx, hall⟩ := mem_ready.1 hj
    have hnot : ∀ e ∈ x.after, Region.binds md e = true → e.on ≠ i := fun e he hb heq => by
      have h1 := hall e he hb
      have h0 := (mem_ready.1 hr).1
      rw [heq] at h1
      rcases Nat.lt_or_ge i listed.size with q | q
      · simp [q] at h0 h1; rw [h0] at h1; cases h1
      · simp [Array.getElem?_eq_none q] at h1
    have hjl : j ≠ l := by
      rintro rfl
      unfold waitsFor at hl
      rw [hx] at hl
      simp only [Array.any_eq_true] at hl
      obtain ⟨k, hk, he⟩ := hl
      rw [Bool.and_eq_true, beq_iff_eq] at he
      exact hnot _ (Array.getElem_mem hk) he.1 he.2
    have hfree' : ∀ k y, ops[k]? = some y → k ≠ i → (listed.setIfInBounds j true).getD k true = false → (∀ e ∈ y.after, Region.binds md e = true → e.on ≠ i) → o.apart ops y = true := fun k y hk hki hu hno => by
      refine hfree k y hk hki ?_ hno
      by_cases hjk : j = k
      · subst hjk; exact hun
      · rwa [getD_set_ne true hjk] at hu
    have step := wpOp_putIf hx (hfree j x hx hji hun hnot) (fun cs b => hsel i o cs b hi) (fun cs b => hsel j x cs b hx) hQ hy (H.2 j (ready_mono hj hji))
    refine wpOp_mono (fun a' w' k => ?_) step
    obtain ⟨ky, kS, kH⟩ := k
    exact ⟨kS, ih _ a' w' hfree' (ready_mono hr (Ne.symm hji)) ky (kS hjl) (by rw [Array.setIfInBounds_comm _ _ hji]; exact kH)⟩
theorem till_take (i : Nat) {oi : Oper} {v : Value} {fuel : Nat} {listed : Array Bool} {a : Act} {w : World} (hi : ops.toList[i]? = some oi)
    (hs : Region.noSelect ops = true) (hf : Region.free md ops listed i = true) (hr : (Region.ready md ops listed).contains i = true) (hl : waitsFor md ops l i = true)
    (hQ : ∀ c a w, Q (.panic c) (a.put oi.dst v) w → Q (.panic c) a w) (hS : S w) (hy : YieldsIf P ops S oi v a)
    (h : AnyTill P md ops Q S l fuel (listed.setIfInBounds i true) (a.put oi.dst v) w) : AnyTill P md ops Q S l (fuel + 1) listed a w :=
  AnyTill.first (by rw [← hi]; simp) (Region.noSelect_spec hs) hQ hl fuel listed a w (Region.free_spec (by rw [← hi]; simp) hf) (by simpa using hr) hy hS h
theorem till_ready (i : Nat) {o : Oper} {fuel : Nat} {listed : Array Bool} {a : Act} {w : World} (hi : ops.toList[i]? = some o) (hr : Region.ready md ops listed = [i])
    (h : ∀ K' : Act → World → Prop, Shut (∀ a w, S w → (S w → AnyTill P md ops Q S l fuel (listed.setIfInBounds i true) a w) → K' a w) → if Region.wanted o (yielded ops a.tmps) = true then Oper.wp P o a w K' Q else K' (a.put o.dst undef) w) : AnyTill P md ops Q S l (fuel + 1) listed a w :=
  ⟨fun h0 => absurd (hr ▸ h0) (by simp), fun j hj => by
    obtain rfl : j = i := by rw [hr] at hj; simpa using hj
    exact wpOp_step (by rw [← hi]; simp) (fun K' hK => h K' (fun a w hS hW => hK a w ⟨fun _ => hS, hW hS⟩))⟩
theorem till_last {o : Oper} {fuel : Nat} {listed : Array Bool} {a : Act} {w : World} (hi : ops.toList[l]? = some o) (hr : Region.ready md ops listed = [l]) (hd : Region.ready md ops (listed.setIfInBounds l true) = [])
    (h : ∀ K' : Act → World → Prop, Shut (∀ a w, Q .normal a w → K' a w) → if Region.wanted o (yielded ops a.tmps) = true then Oper.wp P o a w K' Q else K' (a.put o.dst undef) w) : AnyTill P md ops Q S l (fuel + 1) listed a w :=
  ⟨fun h0 => absurd (hr ▸ h0) (by simp), fun j hj => by
    obtain rfl : j = l := by rw [hr] at hj; simpa using hj
    exact wpOp_step (by rw [← hi]; simp) (fun K' hK => h K' (fun a w hQ => hK a w ⟨fun h0 => absurd rfl h0, by
      cases fuel with
      | zero => exact ⟨hd, hQ⟩
      | succ n => exact ⟨fun _ => hQ, by rw [hd]; simp⟩⟩))⟩
theorem region_till (S : World → Prop) (l : Nat) {id : Nat} {a : Act} {w : World} (hm : P.follows .mixedOrders = true) (hS : S w.drew)
    (h : S w.drew → AnyTill P .any ops Q S l ops.size (Array.replicate ops.size false) a w.drew) : (Code.region id ops true).wp P Q a w :=
  wp_region_any hm (AnyTill.any _ _ _ _ (h hS))
end
end Go.Proofs.YtamdgdkpcoeknaaGreatDoor
