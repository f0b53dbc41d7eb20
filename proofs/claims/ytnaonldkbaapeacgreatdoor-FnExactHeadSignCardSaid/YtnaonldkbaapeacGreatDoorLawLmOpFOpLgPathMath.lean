/-
  Parts of one proof, laid as one text: LawLm, OpF, OpLg, PathMath; what each says stands at its head.
-/
import Derived.Test.YtnaonldkbaapeacGreatDoorRows
import Derived.Test.YtnaonldkbaapeacGreatDoorBytesDigMath
import Derived.Test.YtnaonldkbaapeacGreatDoorSlASlBBxKOwnSTakes
import Derived.Test.YtnaonldkbaapeacGreatDoorLawSLawMFldRiseScanMath
import Derived.Test.YtnaonldkbaapeacGreatDoorLawLzLawMGLawFM
import Derived.Test.YtnaonldkbaapeacGreatDoorJoinedPutTextFldMath
import Derived.Test.YtnaonldkbaapeacGreatDoorOneKFldGFldBlkRwBlk
import Derived.Test.YtnaonldkbaapeacGreatDoorLawFLawFRLawSG
import Derived.Test.YtnaonldkbaapeacGreatDoorLgMathLgAtKShwK
import Derived.Test.YtnaonldkbaapeacGreatDoorLawLgLawLh
import Derived.Handy
import Derived.WalkSpells
import Derived.OwnWalk
import Derived.Laws.OwnMore
import Derived.WalkKit
import Derived.ProofKit
import Derived.OpenShut
import Derived.Deep.Slices
import Derived.ChangeSame
import Derived.Deep.Strs
import Derived.Test.YtnaonldkbaapeacGreatDoorTreeMath
/-
  What the laws' own helpers markRowS and markLog do with a log of its own: all blocks but the log's own stay.
-/
namespace Go.Proofs.YtnaonldkbaapeacGreatDoor
open Go.RowKit Go.Lib
set_option linter.unusedVariables false
set_option maxRecDepth 20000

/-- What lay is as it was, but for the blocks of S. -/
structure But (S : Nat → Prop) (w w' : World) : Prop where
  os : w'.os = w.os
  tape : w'.tape = w.tape
  output : w'.output = w.output
  size : w.heap.size ≤ w'.heap.size
  block : ∀ k, k < w.heap.size → ¬ S k → w'.heap[k]? = w.heap[k]?
theorem But.refl (S : Nat → Prop) (w : World) : But S w w := ⟨rfl, rfl, rfl, Nat.le_refl _, fun _ _ _ => rfl⟩
theorem But.more {S : Nat → Prop} {a b c : World} (h : But S a b) (k : Below b.heap.size b c) : But S a c :=
  ⟨k.os.trans h.os, k.tape.trans h.tape, k.output.trans h.output, Nat.le_trans h.size k.size, fun q hq hn => (k.block q (Nat.lt_of_lt_of_le hq h.size)).trans (h.block q hq hn)⟩
theorem But.put {S : Nat → Prop} {a b : World} (h : But S a b) {p : Addr} (hp : S p.block) (v : Value) : But S a (b.setCell p v) :=
  ⟨h.os, h.tape, h.output, by simpa [World.setCell] using h.size, fun q hq hn => (Below.heap_setCell b p v q (fun e => hn (e ▸ hp))).trans (h.block q hq hn)⟩
theorem But.grown {S : Nat → Prop} {a b c : World} (h : But S a b) {g : Nat} (k : b.grownBy c (some g)) (hg : S g) : But S a c :=
  ⟨k.os.trans h.os, k.tape.trans h.tape, k.output.trans h.output, Nat.le_trans h.size k.size, fun q hq hn => (k.block q (Nat.lt_of_lt_of_le hq h.size) (fun e => hn (by cases e; exact hg))).trans (h.block q hq hn)⟩
theorem But.below {S : Nat → Prop} {a b c : World} {B : Nat} (h : Below B a b) (hB : B ≤ b.heap.size) (k : But S b c) (hS : ∀ q, S q → B ≤ q) : Below B a c :=
  ⟨k.os.trans h.os, k.tape.trans h.tape, k.output.trans h.output, Nat.le_trans h.size k.size, fun q hq => (k.block q (Nat.lt_of_lt_of_le hq hB) (fun e => by have := hS q e; omega)).trans (h.block q hq)⟩
theorem Bxs.but {S : Nat → Prop} {w w' : World} {g : Nat} {T : TypeId} {cs : Array Value} (h : Bxs w g T cs) (k : But S w w') (hn : ¬ S g) : Bxs w' g T cs := (k.block g h.lt hn).trans h
theorem ownS_but {S : Nat → Prop} {w w' : World} {base : Nat} {e : TypeId} {s : Nat} {v : Value} {n : Nat} {xs : List Value} (h : w.ownsRow base e s v n xs) (k : But S w w') (hn : ∀ g, v.ownBlock = some g → ¬ S g) : w'.ownsRow base e s v n xs := by
  refine ⟨h.1, ?_⟩
  rcases h.2 with h0 | ⟨g, cap, cur, h1, h2, h3, h4⟩
  · exact .inl h0
  · exact .inr ⟨g, cap, cur, h1, h2, (k.block g (lt_of_block h3) (hn g (by rw [h1]; rfl))).trans h3, h4⟩
/-- How many fields the first k rows have. -/
def fX (xs : List (Rw × Nat)) (k : Nat) : Nat := fsN ((xs.map (·.1)).take k)
theorem fX_step (xs : List (Rw × Nat)) (k : Nat) (h : k < xs.length) : fX xs (k + 1) = fX xs k + xs[k].1.fs.length := by
  unfold fX
  rw [fsN_take _ k (by simpa using h), List.getElem_map]
theorem fX_le (xs : List (Rw × Nat)) (k : Nat) : fX xs k ≤ fsN (xs.map (·.1)) := by
  unfold fX fsN
  conv => rhs; rw [← List.take_append_drop k (xs.map (·.1))]
  rw [List.map_append, List.sum_append]; omega
theorem fX_all (xs : List (Rw × Nat)) : fX xs xs.length = fsN (xs.map (·.1)) := by
  have := fsN_all (xs.map (·.1)); rw [List.length_map] at this; exact this
/-- i rows are marked. -/
structure MkR (S : Nat → Prop) (w : World) (g : Nat) (xs : List (Rw × Nat)) (i : Nat) (x : World) : Prop where
  bl : ∃ row : List Value, row.length = xs.length * 3 ∧ (∀ j (h : j < xs.length), row[j * 3 + 2]? = some (.slice (some ⟨xs[j].2, 0, none⟩) xs[j].1.fs.length xs[j].1.fs.length)) ∧ Bxs x g 73 row.toArray
  fl : ∀ j (h : j < xs.length), i ≤ j → BlkF x xs[j].2 xs[j].1.fs
  but : But S w x
theorem MkR.start {S : Nat → Prop} {w : World} {g : Nat} {xs : List (Rw × Nat)} (h : RwsB w g xs) : MkR S w g xs 0 w := by
  refine ⟨⟨rcRow (xs.map rcOf), by rw [rcRow_len]; simp, fun j hj => ?_, h.blk⟩, fun j hj _ => h.fld _ (List.getElem_mem hj), But.refl _ _⟩
  have := (rcRow_at (xs.map rcOf) j (by simpa using hj)).2.2
  rw [this]; simp [rcOf]
theorem MkR.below {S : Nat → Prop} {w : World} {g : Nat} {xs : List (Rw × Nat)} {i : Nat} {x y : World} (h : MkR S w g xs i x) (hb : Below x.heap.size x y) : MkR S w g xs i y := by
  obtain ⟨row, h1, h2, h3⟩ := h.bl
  exact ⟨⟨row, h1, h2, h3.below hb⟩, fun j hj hi => (h.fl j hj hi).below hb, h.but.more hb⟩
theorem MkR.put {S : Nat → Prop} {w : World} {g : Nat} {xs : List (Rw × Nat)} {i : Nat} {x : World} (h : MkR S w g xs i x) (hS : S g) (hu : ∀ x ∈ xs, g < x.2) (a : Nat) (ha : a % 3 ≠ 2) (v : Value) : MkR S w g xs i (x.setCell ⟨g, a, none⟩ v) := by
  obtain ⟨row, h1, h2, h3⟩ := h.bl
  refine ⟨⟨row.set a v, by simpa using h1, fun j hj => ?_, bxs_set1 h3 a v⟩, fun j hj hi => ?_, h.but.put hS v⟩
  · rw [List.getElem?_set_ne (by omega)]; exact h2 j hj
  · have := hu _ (List.getElem_mem hj)
    exact Bxs.other (h.fl j hj hi) _ _ (by omega) _
theorem MkR.cells {S : Nat → Prop} {w : World} {g : Nat} {xs : List (Rw × Nat)} {i : Nat} {x : World} (h : MkR S w g xs i x) (j : Nat) (hj : j < xs.length) : (∃ v, x.cell? ⟨g, j * 3, none⟩ = some v) ∧ (∃ v, x.cell? ⟨g, j * 3 + 1, none⟩ = some v) ∧ x.cell? ⟨g, j * 3 + 2, none⟩ = some (.slice (some ⟨xs[j].2, 0, none⟩) xs[j].1.fs.length xs[j].1.fs.length) ∧ x.frozen? ⟨g, j * 3, none⟩ = false ∧ x.frozen? ⟨g, j * 3 + 1, none⟩ = false := by
  obtain ⟨row, h1, h2, h3⟩ := h.bl
  have hc : ∀ a, x.cell? ⟨g, a, none⟩ = row[a]? := fun a => by rw [h3.cell a]; simp
  refine ⟨⟨row[j * 3]'(by omega), ?_⟩, ⟨row[j * 3 + 1]'(by omega), ?_⟩, ?_, h3.fr _, h3.fr _⟩
  · rw [hc]; exact List.getElem?_eq_getElem _
  · rw [hc]; exact List.getElem?_eq_getElem _
  · rw [hc]; exact h2 j hj
theorem MkR.fields {S : Nat → Prop} {w : World} {g : Nat} {xs : List (Rw × Nat)} {i : Nat} {x y : World} (h : MkR S w g xs i x) (hi : i < xs.length) (hS : S xs[i].2) (hu : ∀ x ∈ xs, g < x.2) (ha : xs.Pairwise (fun x y => x.2 < y.2)) (hg : x.grownBy y (some xs[i].2)) : MkR S w g xs (i + 1) y := by
  obtain ⟨row, h1, h2, h3⟩ := h.bl
  have := hu _ (List.getElem_mem hi)
  refine ⟨⟨row, h1, h2, h3.grown hg (fun e => by have := Option.some.inj e; omega)⟩, fun j hj hij => ?_, h.but.grown hg hS⟩
  have hl := List.pairwise_iff_getElem.1 ha i j hi hj (by omega)
  exact Bxs.grown (h.fl j hj (by omega)) hg (fun e => by have := Option.some.inj e; omega)

set_option maxHeartbeats 4000000 in
theorem markRowS_any (S : Nat → Prop) (g : Nat) (xs : List (Rw × Nat)) (s : Nat) (w : World) (h : RwsB w g xs) (hs1 : 1 ≤ s) (hS : S g) (hSx : ∀ x ∈ xs, S x.2) (hn : xs.length ≤ 1048576) (hb : s + 2 * xs.length + 5 * fsN (xs.map (·.1)) ≤ 16777210) :
    Calls Tryz.prog 35 #[.slice (some ⟨g, 0, none⟩) xs.length xs.length, .int .i64 (s : Int)] w fun e w' => (∃ r : Nat, e = .returned (.int .i64 (r : Int)) ∧ s ≤ r ∧ r ≤ s + 2 * xs.length + 5 * fsN (xs.map (·.1))) ∧ But S w w' := by
  have HM0 : Hid (MkR S w g xs 0 w) := MkR.start h
  have HU : Hid (∀ x ∈ xs, g < x.2) := h.up
  have HA : Hid (xs.Pairwise (fun x y => x.2 < y.2)) := h.apart
  have HSX : Hid (∀ x ∈ xs, S x.2) := hSx
  have HLE : Hid (∀ k (hk : k < xs.length), fX xs (k + 1) = fX xs k + xs[k].1.fs.length ∧ fX xs (k + 1) ≤ fsN (xs.map (·.1))) := fun k hk => ⟨fX_step xs k hk, fX_le xs (k + 1)⟩
  have hAll : fX xs xs.length = fsN (xs.map (·.1)) := fX_all xs
  have F0 : fX xs 0 = 0 := rfl
  clear h hSx
  generalize fsN (xs.map (·.1)) = T at *
  generalize fX xs = F at *
  go_enter Tryz.func35, Tryz.ntmps35
  go_wp2_with fail
  go_loopw [5, 1] (fun i x wr => ∃ (k : Nat) (c : Nat), k ≤ xs.length ∧ i = .int .i64 k ∧ x = .int .i64 (c : Int) ∧ c = s + 2 * k + 5 * F k ∧ Hid (MkR S w g xs k wr)) (fun i _ _ => xs.length - (intOf i).toNat)
  case atStart => exact ⟨0, s, Nat.zero_le _, rfl, rfl, by omega, HM0⟩
  case round =>
    clear HM0
    obtain ⟨k, c, hk, rfl, rfl, hc, HM⟩ := hrel
    by_cases hlt : k < xs.length
    · have i1 : (k : Int) < xs.length := by omega
      obtain ⟨l1, l2⟩ := HLE.out k hlt
      have A1 : Hid (∀ z : Int, ∀ w, z = (c : Int) → Calls Tryz.prog 44 #[.int .i64 z] w fun e w' => e = .returned (.string (markB c)) ∧ Below w.heap.size w w') := fun z w hz => markText_int z _ hz w (by omega) (by omega)
      have A2 : Hid (∀ z : Int, ∀ x, z = (c : Int) + 1 + 1 → BlkF x xs[k].2 xs[k].1.fs → Calls Tryz.prog 70 #[.slice (some ⟨xs[k].2, 0, none⟩) xs[k].1.fs.length xs[k].1.fs.length, .int .i64 z] x fun e w' => e = .returned (.int .i64 (5 * (xs[k].1.fs.length : Int) + (c + 2 : Nat))) ∧ x.grownBy w' (some xs[k].2)) := fun z x hz hB => by
        have := markF_any (c + 2) (by omega) 0 _ _ x (hB.own 0 (Nat.zero_le _) (by unfold maxLen; omega)) (by omega)
        rw [show ((c + 2 : Nat) : Int) = z by omega] at this
        refine this.mono ?_
        rintro e y ⟨rfl, -, hg⟩
        exact ⟨by rw [show z = ((c + 2 : Nat) : Int) by omega], hg⟩
      have HMf : Hid (∀ x, MkR S w g xs k x → BlkF x xs[k].2 xs[k].1.fs) := fun x hx => hx.fl k hlt (Nat.le_refl _)
      have HMn : Hid (∀ x y, MkR S w g xs k x → x.grownBy y (some xs[k].2) → MkR S w g xs (k + 1) y) := fun x y hx hg => hx.fields hlt (HSX.out _ (List.getElem_mem hlt)) HU.out HA.out hg
      have HMc : Hid (∀ x, MkR S w g xs k x → (∃ v, x.cell? ⟨g, k * 3, none⟩ = some v) ∧ (∃ v, x.cell? ⟨g, k * 3 + 1, none⟩ = some v) ∧ x.cell? ⟨g, k * 3 + 2, none⟩ = some (.slice (some ⟨xs[k].2, 0, none⟩) xs[k].1.fs.length xs[k].1.fs.length) ∧ x.frozen? ⟨g, k * 3, none⟩ = false ∧ x.frozen? ⟨g, k * 3 + 1, none⟩ = false) := fun x hx => hx.cells k hlt
      have HN2 : Hid (5 * xs[k].1.fs.length + (c + 2) = s + 2 * (k + 1) + 5 * F (k + 1)) := by show _ = _; omega
      have c1 : c + 5 * xs[k].1.fs.length ≤ 16777210 := by omega
      clear l1 l2 hc
      generalize xs[k].2 = gk at *
      generalize xs[k].1.fs = fk at *
      generalize markB c = M1 at *
      go_wp2_with fail
      refine (A1.out _ _ (by omega)).mono ?_
      rintro e y ⟨rfl, b⟩
      have HY : Hid (MkR S w g xs k y) := HM.out.below b
      clear b HM A1
      obtain ⟨⟨x0, c0⟩, -, -, f0, -⟩ := HMc.out y HY.out
      have HY1 : Hid (MkR S w g xs k (y.setCell ⟨g, k * 3, none⟩ (.string M1))) := HY.out.put hS HU.out _ (by omega) _
      obtain ⟨-, ⟨x1, c1⟩, -, -, f1⟩ := HMc.out _ HY1.out
      have HY2 : Hid (MkR S w g xs k ((y.setCell ⟨g, k * 3, none⟩ (.string M1)).setCell ⟨g, k * 3 + 1, none⟩ (.int .i64 ((c : Int) + 1)))) := HY1.out.put hS HU.out _ (by omega) _
      obtain ⟨-, -, c2, -, -⟩ := HMc.out _ HY2.out
      have hF := A2.out _ _ rfl (HMf.out _ HY2.out)
      clear HY HY1 A2 HMc HMf
      go_wp2_with fail
      refine hF.mono ?_
      rintro e y3 ⟨rfl, hg3⟩
      have HN : Hid (MkR S w g xs (k + 1) y3) := HMn.out _ _ HY2.out hg3
      clear hF hg3 HY2 HMn c0 f0 c1 f1 c2
      go_wp2_with fail
      go_roundw
      case rel => exact ⟨k + 1, 5 * fk.length + (c + 2), by omega, by go_num, by go_num, HN2.out, HN.out⟩
      case measure => simp [intOf]; omega
    · obtain rfl : k = xs.length := by omega
      have HC : Hid (s ≤ c ∧ c ≤ s + 2 * xs.length + 5 * T) := ⟨by omega, by omega⟩
      clear hc
      go_wp2_with fail
      go_ret
      exact ⟨⟨c, rfl, HC.out.1, HC.out.2⟩, HM.out.but⟩

/-- The blocks of a log of its own. -/
def lgS (g : Nat) (xs : List (Rw × Nat)) (gl : Nat) (k : Nat) : Prop := k = g ∨ k = gl ∨ ∃ x ∈ xs, k = x.2
set_option maxHeartbeats 2000000 in
theorem markLog_any (g : Nat) (xs : List (Rw × Nat)) (gl : Nat) (lv : List ByteArray) (now : Int) (s : Nat) (w : World) (h : LgB w g xs gl lv) (hs1 : 1 ≤ s) (hn : xs.length ≤ 1048576) (hl : lv.length ≤ 1048576) (hb : s + 2 * xs.length + 5 * fsN (xs.map (·.1)) + lv.length ≤ 16777210) :
    Calls Tryz.prog 12 #[.agg #[.slice (some ⟨g, 0, none⟩) xs.length xs.length, .slice (some ⟨gl, 0, none⟩) lv.length lv.length, .int .i64 now], .int .i64 (s : Int)] w fun e w' => (∃ r : Nat, e = .returned (.int .i64 (r : Int))) ∧ But (lgS g xs gl) w w' := by
  obtain ⟨W1, hW1⟩ : ∃ W1, W1 = w.alloc (.cells #[.slice (some ⟨g, 0, none⟩) xs.length xs.length, .slice (some ⟨gl, 0, none⟩) lv.length lv.length, .int .i64 now] 32) := ⟨_, rfl⟩
  have HW1 : Hid (W1 = w.alloc (.cells #[.slice (some ⟨g, 0, none⟩) xs.length xs.length, .slice (some ⟨gl, 0, none⟩) lv.length lv.length, .int .i64 now] 32)) := hW1
  have B1 : Below w.heap.size w W1 := by rw [hW1]; exact (Below.refl _ _).alloc (Nat.le_refl _) _
  have K1 : Hid (Bxs W1 w.heap.size 32 #[.slice (some ⟨g, 0, none⟩) xs.length xs.length, .slice (some ⟨gl, 0, none⟩) lv.length lv.length, .int .i64 now]) := by rw [hW1]; exact Bxs.new _ _ _
  have hL1 := h.below B1
  have hR := markRowS_any (fun k => k = g ∨ ∃ x ∈ xs, k = x.2) g xs s W1 hL1.rw hs1 (.inl rfl) (fun x hx => .inr ⟨x, hx, rfl⟩) hn (by omega)
  have HB1 : Hid (But (lgS g xs gl) w W1) := (But.refl _ _).more B1
  have HLF : Hid (BlkS W1 gl lv) := hL1.lf
  have HG : Hid (gl ≠ g ∧ ∀ x ∈ xs, gl ≠ x.2) := ⟨by have := h.gg; omega, fun x hx => by have := h.gx x hx; omega⟩
  have HLt : Hid (g < w.heap.size ∧ ∀ x ∈ xs, x.2 < w.heap.size) := ⟨h.rw.lt, fun x hx => Bxs.lt (h.rw.fld x hx)⟩
  have x0 := K1.out.cell 0
  rw [HW1.out] at x0
  clear hW1 h hL1 B1
  go_enter Tryz.func12, Tryz.ntmps12
  go_wp2_with fail
  rw [← HW1.out]
  refine hR.mono ?_
  rintro e y ⟨⟨r, rfl, r0, r1⟩, hbut⟩
  clear hR x0 HW1
  have K2 : Bxs y w.heap.size 32 #[.slice (some ⟨g, 0, none⟩) xs.length xs.length, .slice (some ⟨gl, 0, none⟩) lv.length lv.length, .int .i64 now] := K1.out.but hbut (by
    rintro (e | ⟨x, hx, e⟩)
    · have := HLt.out.1; omega
    · have := HLt.out.2 x hx; omega)
  have x1 := K2.cell 1
  have hLF : BlkS y gl lv := Bxs.but HLF.out hbut (by
    rintro (e | ⟨x, hx, e⟩)
    · exact HG.out.1 e
    · exact HG.out.2 x hx e)
  have hM := markG_any r (by omega) 0 _ lv y (hLF.own 0 (Nat.zero_le _) (by unfold maxLen; omega)) (by omega)
  have HB2 : Hid (But (lgS g xs gl) w y) := ⟨hbut.os.trans HB1.out.os, hbut.tape.trans HB1.out.tape, hbut.output.trans HB1.out.output, Nat.le_trans HB1.out.size hbut.size, fun q hq hnq => (hbut.block q (Nat.lt_of_lt_of_le hq HB1.out.size) (fun e => hnq (by rcases e with e | e; exact .inl e; exact .inr (.inr e)))).trans (HB1.out.block q hq hnq)⟩
  clear hbut K2 hLF K1 HLF HB1
  go_wp2_with fail
  refine hM.mono ?_
  rintro e y2 ⟨rfl, -, hg⟩
  have HB3 : Hid (But (lgS g xs gl) w y2) := HB2.out.grown hg (.inr (.inl rfl))
  clear hM hg HB2
  go_wp2_with fail
  go_ret
  exact ⟨⟨lv.length + r, by simp⟩, HB3.out⟩
theorem lgS_from {w : World} {g : Nat} {xs : List (Rw × Nat)} {gl : Nat} {lv : List ByteArray} (h : LgB w g xs gl lv) {q : Nat} (hq : lgS g xs gl q) : g ≤ q ∧ q < w.heap.size := by
  rcases hq with rfl | rfl | ⟨x, hx, rfl⟩
  · exact ⟨Nat.le_refl _, h.rw.lt⟩
  · exact ⟨Nat.le_of_lt h.gg, h.lf.lt⟩
  · exact ⟨Nat.le_of_lt (h.rw.up x hx), Bxs.lt (h.rw.fld x hx)⟩
end Go.Proofs.YtnaonldkbaapeacGreatDoor
/-
  Fields and rows that came in: what the opened data of a law's parameter says of the cells.
-/
namespace Go.Proofs.YtnaonldkbaapeacGreatDoor
open Go.ChangeShapes Go.WideShapes Go.ChangeAt Go.RowKit Go.Deep
set_option linter.unusedVariables false
set_option maxRecDepth 100000

instance : Inhabited Fld := ⟨⟨ByteArray.empty, ByteArray.empty, ByteArray.empty, ByteArray.empty, false⟩⟩
def FldLe (f : Fld) : Prop := f.n.size ≤ maxLen ∧ f.c.size ≤ maxLen ∧ f.s.size ≤ maxLen ∧ f.v.size ≤ maxLen
theorem fld_of {H : Type} {enc : TypeId × Value → H} {W : World} {base fuel : Nat} {cs : List Value} {x : DataW H × List MemPlace}
    (h : DataW.trod enc Tryz.prog W base (fun _ => true) true fuel 137 cs = some x) : ∃ f : Fld, cs = [.string f.n, .string f.c, .string f.s, .string f.v, .bool f.g] ∧ FldLe f := by
  obtain ⟨xs, n, hk, hxy, hl, hxl, hf⟩ := DataW.trod_struct Tryz.underlying137 h
  have hl : cs.length = 5 := hl.trans (by kernel_rfl)
  have e0 : Tryz.prog.cellsOf 9 = 1 := by kernel_rfl
  have e1 : Tryz.prog.cellsOf 4 = 1 := by kernel_rfl
  have g0 : DataW.trod enc Tryz.prog W base (fun _ => true) true n 9 ((cs.drop 0).take (Tryz.prog.cellsOf 9)) = xs[0]? := hf 0 _ rfl
  have g1 : DataW.trod enc Tryz.prog W base (fun _ => true) true n 9 ((cs.drop 1).take (Tryz.prog.cellsOf 9)) = xs[1]? := hf 1 _ rfl
  have g2 : DataW.trod enc Tryz.prog W base (fun _ => true) true n 9 ((cs.drop 2).take (Tryz.prog.cellsOf 9)) = xs[2]? := hf 2 _ rfl
  have g3 : DataW.trod enc Tryz.prog W base (fun _ => true) true n 9 ((cs.drop 3).take (Tryz.prog.cellsOf 9)) = xs[3]? := hf 3 _ rfl
  have g4 : DataW.trod enc Tryz.prog W base (fun _ => true) true n 4 ((cs.drop 4).take (Tryz.prog.cellsOf 4)) = xs[4]? := hf 4 _ rfl
  clear hf
  match xs, hxl, cs, hl with
  | [y0, y1, y2, y3, y4], _, [c0, c1, c2, c3, c4], _ =>
    simp only [e0, e1, List.drop_zero, List.take_succ_cons, List.take_zero, List.drop_succ_cons, List.getElem?_cons_zero, List.getElem?_cons_succ] at g0 g1 g2 g3 g4
    obtain ⟨s0, h0, _, z0⟩ := DataW.trod_string Tryz.underlying9 g0
    obtain ⟨s1, h1, _, z1⟩ := DataW.trod_string Tryz.underlying9 g1
    obtain ⟨s2, h2, _, z2⟩ := DataW.trod_string Tryz.underlying9 g2
    obtain ⟨s3, h3, _, z3⟩ := DataW.trod_string Tryz.underlying9 g3
    obtain ⟨b4, h4, _⟩ := DataW.trod_bool Tryz.underlying4 g4
    simp only [List.cons.injEq, and_true] at h0 h1 h2 h3 h4
    subst h0 h1 h2 h3 h4
    exact ⟨⟨s0, s1, s2, s3, b4⟩, rfl, z0, z1, z2, z3⟩
theorem add_none (b off j : Nat) : (⟨b, off, none⟩ : Addr).add j = ⟨b, off + j, none⟩ := by unfold Addr.add; split <;> simp_all
/-- What a walk is told of a slice of fields that came in. -/
def IsFlds (w : World) (a : Option Addr) (len cap : Nat) (fs : List Fld) : Prop :=
  fs.length = len ∧ FldAt w a fs ∧ len ≤ cap ∧ cap ≤ maxLen ∧ FldsLe fs
theorem flds_of {H : Type} {enc : TypeId × Value → H} {W : World} {base fuel : Nat} {x : DataW H × List MemPlace} {cs : List Value}
    (h : DataW.trod enc Tryz.prog W base (fun _ => true) true fuel 66 cs = some x) : ∃ a len cap fs, cs = [.slice a len cap] ∧ IsFlds W a len cap fs := by
  have ce : Tryz.prog.cellsOf 137 = 5 := by kernel_rfl
  rcases open_slice Tryz.underlying66 h with ⟨hcs, _⟩ | ⟨ad, len, cap, m, n, D, Pl, hcs, _, hl, hm, hmm, _, hx⟩
  · exact ⟨none, 0, 0, [], hcs, rfl, FldAt.nil _ _, Nat.le_refl _, by unfold maxLen; omega, fun x hx => by cases hx⟩
  · have hmm : m = cap := hmm
    subst hmm
    have each : ∀ i, i < m → ∃ f : Fld, (W.cell? (ad.add (i * 5)) = some (.string f.n) ∧ W.cell? (ad.add (i * 5 + 1)) = some (.string f.c) ∧ W.cell? (ad.add (i * 5 + 2)) = some (.string f.s) ∧ W.cell? (ad.add (i * 5 + 3)) = some (.string f.v) ∧ W.cell? (ad.add (i * 5 + 4)) = some (.bool f.g)) ∧ FldLe f := by
      intro i hi
      obtain ⟨cs', h1, h2⟩ := hx i hi
      rw [ce] at h1
      obtain ⟨_, hlen, hcell⟩ := World.cells?_some h1
      obtain ⟨f, rfl, hz⟩ := fld_of h2
      have e0 := hcell 0 (by omega)
      have e1 := hcell 1 (by omega)
      have e2 := hcell 2 (by omega)
      have e3 := hcell 3 (by omega)
      have e4 := hcell 4 (by omega)
      rw [add_add] at e0 e1 e2 e3 e4
      exact ⟨f, ⟨by simpa using e0, by simpa using e1, by simpa using e2, by simpa using e3, by simpa using e4⟩, hz⟩
    obtain ⟨F, hF⟩ := choose_lt each
    refine ⟨some ad, len, m, (List.range len).map F, hcs, by simp, ?_, hl, hm, ?_⟩
    · intro i hi
      have hi2 : i < len := by simpa using hi
      obtain ⟨b, off, spot⟩ := ad
      obtain ⟨⟨q0, q1, q2, q3, q4⟩, -⟩ := hF i (by omega)
      have q00 := (hF 0 (by omega)).1.1
      rw [Nat.zero_mul] at q00
      have hspot : spot = none := by simpa [Addr.add] using World.cell?_spot q00
      subst hspot
      rw [add_none] at q0 q1 q2 q3 q4
      have he : ((List.range len).map F)[i] = F i := by simp
      rw [he]
      refine ⟨b, off, rfl, World.block_lt_of_cell? W _ q0, q0, ?_, ?_, ?_, ?_⟩
      · rw [Nat.add_assoc]; exact q1
      · rw [Nat.add_assoc]; exact q2
      · rw [Nat.add_assoc]; exact q3
      · rw [Nat.add_assoc]; exact q4
    · intro f hf
      obtain ⟨i, hi, rfl⟩ := List.mem_map.1 hf
      exact (hF i (by have := List.mem_range.1 hi; omega)).2
theorem open_field {H : Type} {enc : TypeId × Value → H} {W : World} {base : Nat} {v : Value} {d : DataW H} {ps : List MemPlace} (hval : Value.okWide Tryz.prog W .any base 137 v)
    (h : DataW.Trod enc Tryz.prog W 0 (fun _ => true) true 137 v d ps) : ∃ f : Fld, v = .agg #[.string f.n, .string f.c, .string f.s, .string f.v, .bool f.g] ∧ FldLe f := by
  obtain ⟨cs, rfl, hsz⟩ := okWide_struct Tryz.underlying137 hval
  obtain ⟨fuel, hf⟩ := h
  obtain ⟨f, hc, hz⟩ := fld_of hf
  refine ⟨f, ?_, hz⟩
  simp only [Value.cells] at hc
  rw [show cs = #[.string f.n, .string f.c, .string f.s, .string f.v, .bool f.g] from by cases cs; simp_all]
theorem open_row {H : Type} {enc : TypeId × Value → H} {W : World} {base : Nat} {v : Value} {d : DataW H} {ps : List MemPlace} (hval : Value.okWide Tryz.prog W .any base 68 v)
    (h : DataW.Trod enc Tryz.prog W 0 (fun _ => true) true 68 v d ps) : ∃ kd at_ a len cap fs, v = .agg #[.string kd, .int .i64 at_, .slice a len cap] ∧ kd.size ≤ maxLen ∧ (Lit.int .i64 at_).wf = true ∧ IsFlds W a len cap fs := by
  obtain ⟨cs, rfl, hsz⟩ := okWide_struct Tryz.underlying68 hval
  have h2 : cs.size = 3 := hsz.trans (by kernel_rfl)
  obtain ⟨fuel, hf⟩ := h
  obtain ⟨xs, n, hk, hxy, hl, hxl, hf⟩ := DataW.trod_struct Tryz.underlying68 hf
  have e0 : Tryz.prog.cellsOf 9 = 1 := by kernel_rfl
  have e1 : Tryz.prog.cellsOf 2 = 1 := by kernel_rfl
  have e2 : Tryz.prog.cellsOf 66 = 1 := by kernel_rfl
  have g0 : DataW.trod enc Tryz.prog W 0 (fun _ => true) true n 9 ((cs.toList.drop 0).take (Tryz.prog.cellsOf 9)) = xs[0]? := hf 0 _ rfl
  have g1 : DataW.trod enc Tryz.prog W 0 (fun _ => true) true n 2 ((cs.toList.drop 1).take (Tryz.prog.cellsOf 2)) = xs[1]? := hf 1 _ rfl
  have g2 : DataW.trod enc Tryz.prog W 0 (fun _ => true) true n 66 ((cs.toList.drop 2).take (Tryz.prog.cellsOf 66)) = xs[2]? := hf 2 _ rfl
  clear hf
  match xs, hxl, cs, h2 with
  | [y0, y1, y2], _, ⟨[c0, c1, c2]⟩, _ =>
    simp only [e0, e1, e2, List.drop_zero, List.take_succ_cons, List.take_zero, List.drop_succ_cons, List.getElem?_cons_zero, List.getElem?_cons_succ] at g0 g1 g2
    obtain ⟨s0, h0, _, z0⟩ := DataW.trod_string Tryz.underlying9 g0
    obtain ⟨i1, h1, _, z1⟩ := DataW.trod_int Tryz.underlying2 g1
    obtain ⟨a, len, cap, fs, h2, z2⟩ := flds_of g2
    simp only [List.cons.injEq, and_true] at h0 h1 h2
    subst h0 h1 h2
    exact ⟨s0, i1, a, len, cap, fs, rfl, z0, z1, z2⟩
end Go.Proofs.YtnaonldkbaapeacGreatDoor
/-
  A log that came in: what the opened data of a law's parameter says of the cells.
-/
namespace Go.Proofs.YtnaonldkbaapeacGreatDoor
open Go.ChangeShapes Go.WideShapes Go.ChangeAt Go.RowKit Go.Deep
set_option linter.unusedVariables false
set_option maxRecDepth 100000

/-- What a walk is told of a slice of texts that came in. -/
def IsTxts (w : World) (a : Option Addr) (len cap : Nat) (ss : List ByteArray) : Prop :=
  ss.length = len ∧ TxtAt w a ss ∧ len ≤ cap ∧ cap ≤ maxLen ∧ ∀ x ∈ ss, x.size ≤ maxLen
theorem txts_of {H : Type} {enc : TypeId × Value → H} {W : World} {base : Nat} {fuel : Nat} {x : DataW H × List MemPlace} {cs : List Value}
    (h : DataW.trod enc Tryz.prog W base (fun _ => true) true fuel 23 cs = some x) : ∃ a len cap ss, cs = [.slice a len cap] ∧ IsTxts W a len cap ss := by
  rcases Go.Deep.open_strs Tryz.underlying23 Tryz.underlying9 (by kernel_rfl) h with ⟨hcs, _⟩ | ⟨ad, l, c, m, Sx, hcs, _, hl, hm, hmm, _, hx⟩
  · exact ⟨none, 0, 0, [], hcs, rfl, TxtAt.nil _ _, Nat.le_refl _, by unfold maxLen; omega, fun x hx => by cases hx⟩
  · rw [if_pos rfl] at hmm
    subst hmm
    refine ⟨some ad, l, m, (List.range l).map Sx, hcs, by simp, ?_, hl, hm, ?_⟩
    · intro i hi
      have hi2 : i < l := by simpa using hi
      obtain ⟨b, off, spot⟩ := ad
      have hc := (hx i (by omega)).1
      have hspot : spot = none := by simpa [Addr.add] using World.cell?_spot (hx 0 (by omega)).1
      subst hspot
      rw [add_none] at hc
      exact ⟨b, off, rfl, World.block_lt_of_cell? W _ hc, by rw [hc]; simp⟩
    · intro x hxm
      obtain ⟨i, hi, rfl⟩ := List.mem_map.1 hxm
      exact (hx i (by have := List.mem_range.1 hi; omega)).2
instance : Inhabited Rw := ⟨⟨ByteArray.empty, 0, []⟩⟩
theorem rw_of {H : Type} {enc : TypeId × Value → H} {W : World} {base fuel : Nat} {cs : List Value} {x : DataW H × List MemPlace}
    (h : DataW.trod enc Tryz.prog W base (fun _ => true) true fuel 68 cs = some x) : ∃ r : Rw, ∃ q c, cs = [.string r.k, .int .i64 r.a, .slice q r.fs.length c] ∧ r.fs.length ≤ c ∧ c ≤ maxLen ∧ FldAt W q r.fs ∧ r.k.size ≤ maxLen ∧ FldsLe r.fs := by
  obtain ⟨xs, n, hk, hxy, hl, hxl, hf⟩ := DataW.trod_struct Tryz.underlying68 h
  have hl : cs.length = 3 := hl.trans (by kernel_rfl)
  have e0 : Tryz.prog.cellsOf 9 = 1 := by kernel_rfl
  have e1 : Tryz.prog.cellsOf 2 = 1 := by kernel_rfl
  have e2 : Tryz.prog.cellsOf 66 = 1 := by kernel_rfl
  have g0 : DataW.trod enc Tryz.prog W base (fun _ => true) true n 9 ((cs.drop 0).take (Tryz.prog.cellsOf 9)) = xs[0]? := hf 0 _ rfl
  have g1 : DataW.trod enc Tryz.prog W base (fun _ => true) true n 2 ((cs.drop 1).take (Tryz.prog.cellsOf 2)) = xs[1]? := hf 1 _ rfl
  have g2 : DataW.trod enc Tryz.prog W base (fun _ => true) true n 66 ((cs.drop 2).take (Tryz.prog.cellsOf 66)) = xs[2]? := hf 2 _ rfl
  clear hf
  match xs, hxl, cs, hl with
  | [y0, y1, y2], _, [c0, c1, c2], _ =>
    simp only [e0, e1, e2, List.drop_zero, List.take_succ_cons, List.take_zero, List.drop_succ_cons, List.getElem?_cons_zero, List.getElem?_cons_succ] at g0 g1 g2
    obtain ⟨s0, h0, _, z0⟩ := DataW.trod_string Tryz.underlying9 g0
    obtain ⟨i1, h1, _, z1⟩ := DataW.trod_int Tryz.underlying2 g1
    obtain ⟨a, len, cap, fs, h2, z2⟩ := flds_of g2
    simp only [List.cons.injEq, and_true] at h0 h1 h2
    subst h0 h1 h2
    obtain ⟨rfl, zf, zc, zm, zz⟩ := z2
    exact ⟨⟨s0, i1, fs⟩, a, cap, rfl, zc, zm, zf, z0, zz⟩
/-- What a walk is told of a slice of rows that came in. -/
def IsRws (w : World) (a : Option Addr) (len cap : Nat) (rs : List Rw) : Prop :=
  rs.length = len ∧ RwAt w a rs ∧ len ≤ cap ∧ cap ≤ maxLen ∧ ∀ r ∈ rs, r.fs.length ≤ maxLen ∧ r.k.size ≤ maxLen ∧ FldsLe r.fs
theorem rws_of {H : Type} {enc : TypeId × Value → H} {W : World} {base fuel : Nat} {x : DataW H × List MemPlace} {cs : List Value}
    (h : DataW.trod enc Tryz.prog W base (fun _ => true) true fuel 22 cs = some x) : ∃ a len cap rs, cs = [.slice a len cap] ∧ IsRws W a len cap rs := by
  have ce : Tryz.prog.cellsOf 68 = 3 := by kernel_rfl
  rcases open_slice Tryz.underlying22 h with ⟨hcs, _⟩ | ⟨ad, len, cap, m, n, D, Pl, hcs, _, hl, hm, hmm, _, hx⟩
  · exact ⟨none, 0, 0, [], hcs, rfl, RwAt.nil _ _, Nat.le_refl _, by unfold maxLen; omega, fun x hx => by cases hx⟩
  · have hmm : m = cap := hmm
    subst hmm
    have each : ∀ i, i < m → ∃ r : Rw, ∃ q c, (W.cell? (ad.add (i * 3)) = some (.string r.k) ∧ W.cell? (ad.add (i * 3 + 1)) = some (.int .i64 r.a) ∧ W.cell? (ad.add (i * 3 + 2)) = some (.slice q r.fs.length c)) ∧ r.fs.length ≤ c ∧ c ≤ maxLen ∧ FldAt W q r.fs ∧ r.k.size ≤ maxLen ∧ FldsLe r.fs := by
      intro i hi
      obtain ⟨cs', h1, h2⟩ := hx i hi
      rw [ce] at h1
      obtain ⟨_, hlen, hcell⟩ := World.cells?_some h1
      obtain ⟨r, q, c, rfl, hz⟩ := rw_of h2
      have e0 := hcell 0 (by omega)
      have e1 := hcell 1 (by omega)
      have e2 := hcell 2 (by omega)
      rw [add_add] at e0 e1 e2
      exact ⟨r, q, c, ⟨by simpa using e0, by simpa using e1, by simpa using e2⟩, hz⟩
    obtain ⟨F, hF⟩ := choose_lt each
    refine ⟨some ad, len, m, (List.range len).map F, hcs, by simp, ?_, hl, hm, ?_⟩
    · intro i hi
      have hi2 : i < len := by simpa using hi
      obtain ⟨b, off, spot⟩ := ad
      obtain ⟨q, c, ⟨q0, q1, q2⟩, z0, z1, z2, -⟩ := hF i (by omega)
      obtain ⟨-, -, ⟨q00, -⟩, -⟩ := hF 0 (by omega)
      rw [Nat.zero_mul] at q00
      have hspot : spot = none := by simpa [Addr.add] using World.cell?_spot q00
      subst hspot
      rw [add_none] at q0 q1 q2
      have he : ((List.range len).map F)[i] = F i := by simp
      rw [he]
      refine ⟨b, off, q, c, rfl, World.block_lt_of_cell? W _ q0, q0, ?_, ?_, z0, z2⟩
      · rw [Nat.add_assoc]; exact q1
      · rw [Nat.add_assoc]; exact q2
    · intro f hf
      obtain ⟨i, hi, rfl⟩ := List.mem_map.1 hf
      obtain ⟨q, c, -, z0, z1, -, z3, z4⟩ := hF i (by have := List.mem_range.1 hi; omega)
      exact ⟨Nat.le_trans z0 z1, z3, z4⟩
/-- What a walk is told of a log that came in. -/
def IsLog (w : World) (q : Option Addr) (cq : Nat) (rs : List Rw) (p : Option Addr) (cp : Nat) (lv : List ByteArray) (now : Int) : Prop :=
  IsRws w q rs.length cq rs ∧ IsTxts w p lv.length cp lv ∧ (Lit.int .i64 now).wf = true
theorem open_log {H : Type} {enc : TypeId × Value → H} {W : World} {base : Nat} {v : Value} {d : DataW H} {ps : List MemPlace} (hval : Value.okWide Tryz.prog W .any base 25 v)
    (h : DataW.Trod enc Tryz.prog W 0 (fun _ => true) true 25 v d ps) : ∃ q cq rs p cp lv now, v = .agg #[.slice q rs.length cq, .slice p lv.length cp, .int .i64 now] ∧ IsLog W q cq rs p cp lv now := by
  obtain ⟨cs, rfl, hsz⟩ := okWide_struct Tryz.underlying25 hval
  have h2 : cs.size = 3 := hsz.trans (by kernel_rfl)
  obtain ⟨fuel, hf⟩ := h
  obtain ⟨xs, n, hk, hxy, hl, hxl, hf⟩ := DataW.trod_struct Tryz.underlying25 hf
  have e0 : Tryz.prog.cellsOf 22 = 1 := by kernel_rfl
  have e1 : Tryz.prog.cellsOf 23 = 1 := by kernel_rfl
  have e2 : Tryz.prog.cellsOf 2 = 1 := by kernel_rfl
  have g0 : DataW.trod enc Tryz.prog W 0 (fun _ => true) true n 22 ((cs.toList.drop 0).take (Tryz.prog.cellsOf 22)) = xs[0]? := hf 0 _ rfl
  have g1 : DataW.trod enc Tryz.prog W 0 (fun _ => true) true n 23 ((cs.toList.drop 1).take (Tryz.prog.cellsOf 23)) = xs[1]? := hf 1 _ rfl
  have g2 : DataW.trod enc Tryz.prog W 0 (fun _ => true) true n 2 ((cs.toList.drop 2).take (Tryz.prog.cellsOf 2)) = xs[2]? := hf 2 _ rfl
  clear hf
  match xs, hxl, cs, h2 with
  | [y0, y1, y2], _, ⟨[c0, c1, c2]⟩, _ =>
    simp only [e0, e1, e2, List.drop_zero, List.take_succ_cons, List.take_zero, List.drop_succ_cons, List.getElem?_cons_zero, List.getElem?_cons_succ] at g0 g1 g2
    obtain ⟨q, lq, cq, rs, h0, z0⟩ := rws_of g0
    obtain ⟨p, lp, cp, lv, h1, z1⟩ := txts_of g1
    obtain ⟨now, h2, _, z2⟩ := DataW.trod_int Tryz.underlying2 g2
    simp only [List.cons.injEq, and_true] at h0 h1 h2
    subst h0 h1 h2
    have r0 := z0.1
    have r1 := z1.1
    subst r0 r1
    exact ⟨q, cq, rs, p, cp, lv, now, rfl, z0, z1, z2⟩
end Go.Proofs.YtnaonldkbaapeacGreatDoor
/-
  PathOf and ProofOf as plain functions: 'pathA', 'proofA'; how long they are.
-/
namespace Go.Proofs.YtnaonldkbaapeacGreatDoor
open Go.RowKit Go.Lib
set_option linter.unusedVariables false

theorem pathB_len (l : List ByteArray) (i : Nat) (h : i < l.length) : (pathB l i).length < l.length := by
  induction hn : l.length using Nat.strongRecOn generalizing l i with
  | _ n ih =>
    subst hn
    by_cases h2 : 2 ≤ l.length
    · have hlt := halfN_lt h2
      have hp := halfN_pos l.length
      by_cases hi : i < halfN l.length
      · have I := ih (halfN l.length) hlt (l.take (halfN l.length)) i (by simp; omega) (by simp; omega)
        rw [pathB_left h2 hi, List.length_append]; simp; omega
      · have I := ih (l.length - halfN l.length) (by omega) (l.drop (halfN l.length)) (i - halfN l.length) (by simp; omega) (by simp)
        rw [pathB_right h2 hi, List.length_append]; simp; omega
    · rw [pathB_one h2]; simp; omega
theorem proofB_len (l : List ByteArray) (m : Nat) (h1 : 1 ≤ m) (h : m ≤ l.length) (whole : Bool) : (proofB m l whole).length ≤ l.length := by
  induction hn : l.length using Nat.strongRecOn generalizing l m whole with
  | _ n ih =>
    subst hn
    by_cases he : m = l.length
    · rw [proofB_all he]; split <;> simp; omega
    · have h2 : 2 ≤ l.length := by omega
      have hlt := halfN_lt h2
      have hp := halfN_pos l.length
      by_cases hi : m ≤ halfN l.length
      · have I := ih (halfN l.length) hlt (l.take (halfN l.length)) m h1 (by simp; omega) whole (by simp; omega)
        rw [proofB_left h2 he hi, List.length_append]; simp; omega
      · have I := ih (l.length - halfN l.length) (by omega) (l.drop (halfN l.length)) (m - halfN l.length) (by omega) (by simp; omega) false (by simp)
        rw [proofB_right h2 he hi, List.length_append]; simp; omega
def pathA (ss : List ByteArray) (i : Int) : List ByteArray := if entB ss = true ∧ 0 ≤ i ∧ i < ss.length then pathB ss i.toNat else []
def proofA (ss : List ByteArray) (m : Int) : List ByteArray := if entB ss = true ∧ 1 ≤ m ∧ m ≤ ss.length then proofB m.toNat ss true else []
theorem pathA_len (ss : List ByteArray) (i : Int) : (pathA ss i).length ≤ 1024 := by
  unfold pathA; split
  · rename_i h
    have h1 := entB_len h.1
    have h2 := pathB_len ss i.toNat (by omega)
    omega
  · simp
theorem proofA_len (ss : List ByteArray) (m : Int) : (proofA ss m).length ≤ 1024 := by
  unfold proofA; split
  · rename_i h
    have h1 := entB_len h.1
    have h2 := proofB_len ss m.toNat (by omega) (by omega) true
    omega
  · simp
end Go.Proofs.YtnaonldkbaapeacGreatDoor
