/-
  What the specification's l09Proof and ProofAt and the program's proofAt and ProofAt answer: of a right log and a leaf that is there the proof of it, else nothing; the answer owns its memory.
-/
import Derived.Test.YtamdgdkpcoeknaaGreatDoorRows
import Derived.Test.YtamdgdkpcoeknaaGreatDoorBytesDigMath
import Derived.Test.YtamdgdkpcoeknaaGreatDoorTreeMathSlASlBBxKOwnS
import Derived.Test.YtamdgdkpcoeknaaGreatDoorTimeBPutMathPutNumJoinedPutTextFldMath
import Derived.Test.YtamdgdkpcoeknaaGreatDoorLgMathLgAtKOneKFldBlkRwBlkTakes
import Derived.Test.YtamdgdkpcoeknaaGreatDoorLawLmLgAnsLgRtTakesL
import Derived.Test.YtamdgdkpcoeknaaGreatDoorFldGShwKFldHPathMathFldRiseScanMath
import Derived.Test.YtamdgdkpcoeknaaGreatDoorAll2LeafNodeTree2Path2
import Derived.Test.YtamdgdkpcoeknaaGreatDoorHalvesTreePutterPathI
import Derived.Test.YtamdgdkpcoeknaaGreatDoorFldIsTimeIGrKSpecGNSpecGTTillTwoFldN
import Derived.Test.YtamdgdkpcoeknaaGreatDoorImplLg
import Derived.Test.YtamdgdkpcoeknaaGreatDoorSpecLr
import Derived.Test.YtamdgdkpcoeknaaGreatDoorLogRITreeHImplRt
import Derived.Handy
import Derived.WalkSpells
import Derived.OwnWalk
import Derived.Deep.RegionHeld3
import Derived.Deep.Cut
namespace Go.Proofs.YtamdgdkpcoeknaaGreatDoor
open Go.RowKit Go.Lib
set_option linter.unusedVariables false
set_option maxRecDepth 20000

def pfOk (rs : List Rw) (lv : List ByteArray) (now i : Int) : Prop := lgB rs lv now = true ∧ 0 ≤ i ∧ i < (lv.length : Int)
instance (rs : List Rw) (lv : List ByteArray) (now i : Int) : Decidable (pfOk rs lv now i) := by unfold pfOk; exact inferInstance
def pfL (rs : List Rw) (lv : List ByteArray) (now i : Int) : ByteArray := if pfOk rs lv now i then lv.getD i.toNat ⟨#[]⟩ else ⟨#[]⟩
def pfI (rs : List Rw) (lv : List ByteArray) (now i : Int) : Int := if pfOk rs lv now i then i else 0
def pfS (rs : List Rw) (lv : List ByteArray) (now i : Int) : Int := if pfOk rs lv now i then (lv.length : Int) else 0
def pfP (rs : List Rw) (lv : List ByteArray) (now i : Int) : List ByteArray := if pfOk rs lv now i then pathB lv i.toNat else []
theorem pf_no {rs : List Rw} {lv : List ByteArray} {now i : Int} (h : ¬ pfOk rs lv now i) : pfL rs lv now i = ⟨#[]⟩ ∧ pfI rs lv now i = 0 ∧ pfS rs lv now i = 0 ∧ pfP rs lv now i = [] := ⟨if_neg h, if_neg h, if_neg h, if_neg h⟩
theorem pf_yes {rs : List Rw} {lv : List ByteArray} {now : Int} {I : Nat} (h : pfOk rs lv now (I : Int)) (hI : I < lv.length) : pfL rs lv now (I : Int) = lv[I] ∧ pfI rs lv now (I : Int) = (I : Int) ∧ pfS rs lv now (I : Int) = (lv.length : Int) ∧ pfP rs lv now (I : Int) = pathB lv I := by
  unfold pfL pfI pfS pfP
  rw [if_pos h, if_pos h, if_pos h, if_pos h, Int.toNat_natCast]
  refine ⟨?_, rfl, rfl, rfl⟩
  rw [List.getD_eq_getElem?_getD, List.getElem?_eq_getElem hI]; rfl
theorem below_set4' {w y : World} (hb : Below w.heap.size w y) {g : Nat} (hg : w.heap.size ≤ g) (a b c d : Value) : Below w.heap.size w ((((y.setCell ⟨g, 0, none⟩ a).setCell ⟨g, 1, none⟩ b).setCell ⟨g, 2, none⟩ c).setCell ⟨g, 3, none⟩ d) := below_set4 hb hg _ _ _ _
theorem prf_out {w y : World} (hb : Below w.heap.size w y) {g base : Nat} (hg : w.heap.size ≤ g) (hgb : g < base) {v : Value} {P : List ByteArray} (o : y.ownsRow base 9 1 v P.length (strRow P)) (a b c d : Value) :
    ((((y.setCell ⟨g, 0, none⟩ a).setCell ⟨g, 1, none⟩ b).setCell ⟨g, 2, none⟩ c).setCell ⟨g, 3, none⟩ d).ownsRow w.heap.size 9 1 v P.length (strRow P) ∧ Below w.heap.size w ((((y.setCell ⟨g, 0, none⟩ a).setCell ⟨g, 1, none⟩ b).setCell ⟨g, 2, none⟩ c).setCell ⟨g, 3, none⟩ d) := by
  have hB : But (fun k => k = g) y ((((y.setCell ⟨g, 0, none⟩ a).setCell ⟨g, 1, none⟩ b).setCell ⟨g, 2, none⟩ c).setCell ⟨g, 3, none⟩ d) := ((((But.refl (fun k => k = g) y).put (p := ⟨g, 0, none⟩) rfl a).put (p := ⟨g, 1, none⟩) rfl b).put (p := ⟨g, 2, none⟩) rfl c).put (p := ⟨g, 3, none⟩) rfl d
  exact ⟨ownS_mono (ownS_but o hB (fun j hj e => by have := (o.lt j hj).1; omega)) (by omega), below_set4 hb hg _ _ _ _⟩
theorem prf_none (w y : World) : y.ownsRow w.heap.size 9 1 (.slice none 0 0) ([] : List ByteArray).length (strRow []) := World.ownsRow_nil _ _ _ _
set_option maxHeartbeats 1000000 in
theorem l09Proof_any (p : Option Addr) (lv : List ByteArray) (cp : Nat) (q : Option Addr) (rs : List Rw) (cq : Nat) (now : Int) (I : Nat) (w : World) (hA : LgAt p lv cp q rs cq w) (hI : I < lv.length) (h64 : lv.length ≤ 64) (h100 : ∀ t ∈ lv, t.size ≤ 100) :
    Calls Tryz.prog 24 #[.agg #[.slice q rs.length cq, .slice p lv.length cp, .int .i64 now], .int .i64 (I : Int)] w fun e w' => ∃ v, e = .returned (.agg #[.string lv[I], .int .i64 (I : Int), .int .i64 (lv.length : Int), v]) ∧ w'.ownsRow w.heap.size 9 1 v (pathB lv I).length (strRow (pathB lv I)) ∧ Below w.heap.size w w' := by
  obtain ⟨b, off, rfl, hb0, hc0⟩ := hA.tx I hI
  obtain ⟨W2, hW2⟩ : ∃ W2, W2 = (w.alloc (.cells #[.slice q rs.length cq, .slice (some ⟨b, off, none⟩) lv.length cp, .int .i64 now] 36)).alloc (.cells #[.string ⟨#[]⟩, .int .i64 0, .int .i64 0, .slice none 0 0] 28) := ⟨_, rfl⟩
  have HW2 : Hid (W2 = (w.alloc (.cells #[.slice q rs.length cq, .slice (some ⟨b, off, none⟩) lv.length cp, .int .i64 now] 36)).alloc (.cells #[.string ⟨#[]⟩, .int .i64 0, .int .i64 0, .slice none 0 0] 28)) := hW2
  have B2 : Hid (Below w.heap.size w W2) := by rw [hW2]; exact ((Below.refl _ _).alloc (Nat.le_refl _) _).alloc (by simp) _
  have K1 : Hid (Bxs W2 w.heap.size 36 #[.slice q rs.length cq, .slice (some ⟨b, off, none⟩) lv.length cp, .int .i64 now]) := by rw [hW2]; exact (Bxs.new _ _ _).alloc _
  have K2 : Hid (Bxs W2 (w.heap.size + 1) 28 #[.string ⟨#[]⟩, .int .i64 0, .int .i64 0, .slice none 0 0]) := by
    rw [hW2]
    have := Bxs.new (w.alloc (.cells #[.slice q rs.length cq, .slice (some ⟨b, off, none⟩) lv.length cp, .int .i64 now] 36)) 28 #[.string ⟨#[]⟩, .int .i64 0, .int .i64 0, .slice none 0 0]
    rwa [szA] at this
  have HP : Hid (∀ x, Below w.heap.size w x → Calls Tryz.prog 62 #[.slice (some ⟨b, off, none⟩) lv.length cp, .int .i64 (I : Int)] x fun e w' => ∃ v, e = .returned v ∧ w'.ownsRow x.heap.size 9 1 v (pathB lv I).length (strRow (pathB lv I)) ∧ Below x.heap.size x w') := fun x hb => path2_any lv.length (some ⟨b, off, none⟩) cp lv I x rfl (hA.tx.below hb) (by omega) hA.lc h100 hI
  have HK : Hid (∀ y, Below W2.heap.size W2 y → (y.cell? ⟨w.heap.size + 1, 0, none⟩ = some (.string ⟨#[]⟩) ∧ y.cell? ⟨w.heap.size + 1, 1, none⟩ = some (.int .i64 0) ∧ y.cell? ⟨w.heap.size + 1, 2, none⟩ = some (.int .i64 0) ∧ y.cell? ⟨w.heap.size + 1, 3, none⟩ = some (.slice none 0 0)) ∧ y.frozen? ⟨w.heap.size + 1, 0, none⟩ = false ∧ y.frozen? ⟨w.heap.size + 1, 1, none⟩ = false ∧ y.frozen? ⟨w.heap.size + 1, 2, none⟩ = false ∧ y.frozen? ⟨w.heap.size + 1, 3, none⟩ = false) := fun y hb => ⟨⟨(K2.out.below hb).cell 0, (K2.out.below hb).cell 1, (K2.out.below hb).cell 2, (K2.out.below hb).cell 3⟩, (K2.out.below hb).fr 0, (K2.out.below hb).fr 1, (K2.out.below hb).fr 2, (K2.out.below hb).fr 3⟩
  have HZ : Hid (w.heap.size + 1 < W2.heap.size) := K2.out.lt
  have i1 : (I : Int) < lv.length := by omega
  have hcp := hA.lc
  have HX : Hid (∀ x, Below W2.heap.size W2 x → x.cell? ⟨w.heap.size, 1, none⟩ = some (.slice (some ⟨b, off, none⟩) lv.length cp) ∧ x.cell? ⟨b, off + I, none⟩ = some (.string lv[I])) := fun x hb => ⟨(K1.out.below hb).cell 1, ((chainB B2.out hb).cell (p := ⟨b, off + I, none⟩) hb0).trans hc0⟩
  generalize lv[I] = t at *
  generalize pathB lv I = PB at *
  clear hW2 hA K1 K2 hc0 hb0 h100 hI
  go_enter Tryz.func24, Tryz.ntmps24
  go_upto_region 4 with fail
  rw [← HW2.out]
  refine region_till ((fun w' => w'.cell? ⟨w.heap.size, 1, none⟩ = some (.slice (some ⟨b, off, none⟩) lv.length cp) ∧ w'.cell? ⟨b, off + I, none⟩ = some (.string t))) 14 (by kernel_rfl) (HX.out _ (Below.refl _ _).drew) (fun hHeld => ?_)
  refine till_take 0 (v := ?_) rfl (by kernel_rfl) (by kernel_rfl) (by kernel_rfl) (by kernel_rfl) (fun _ _ _ h => h) hHeld (Or.inl ⟨by rfl, ?_⟩) ?_
  rotate_left
  · (intro w hSw; (try dsimp only at hSw); go_simp; try with_reducible rfl)
  simp only [Act.put, List.setIfInBounds_toArray, List.set_cons_zero, List.set_cons_succ]
  refine till_take 1 (v := ?_) rfl (by kernel_rfl) (by kernel_rfl) (by kernel_rfl) (by kernel_rfl) (fun _ _ _ h => h) hHeld (Or.inl ⟨by rfl, ?_⟩) ?_
  rotate_left
  · (intro w hSw; (try dsimp only at hSw); go_simp; try with_reducible rfl)
  simp only [Act.put, List.setIfInBounds_toArray, List.set_cons_zero, List.set_cons_succ]
  refine till_take 2 (v := ?_) rfl (by kernel_rfl) (by kernel_rfl) (by kernel_rfl) (by kernel_rfl) (fun _ _ _ h => h) hHeld (Or.inl ⟨by rfl, ?_⟩) ?_
  rotate_left
  · (intro w hSw; (try dsimp only at hSw); go_simp; try with_reducible rfl)
  simp only [Act.put, List.setIfInBounds_toArray, List.set_cons_zero, List.set_cons_succ]
  refine till_take 3 (v := ?_) rfl (by kernel_rfl) (by kernel_rfl) (by kernel_rfl) (by kernel_rfl) (fun _ _ _ h => h) hHeld (Or.inl ⟨by rfl, ?_⟩) ?_
  rotate_left
  · (intro w hSw; (try dsimp only at hSw); go_simp; try with_reducible rfl)
  simp only [Act.put, List.setIfInBounds_toArray, List.set_cons_zero, List.set_cons_succ]
  refine till_take 4 (v := ?_) rfl (by kernel_rfl) (by kernel_rfl) (by kernel_rfl) (by kernel_rfl) (fun _ _ _ h => h) hHeld (Or.inl ⟨by rfl, ?_⟩) ?_
  rotate_left
  · (intro w hSw; (try dsimp only at hSw); go_simp; try with_reducible rfl)
  simp only [Act.put, List.setIfInBounds_toArray, List.set_cons_zero, List.set_cons_succ]
  refine till_take 5 (v := ?_) rfl (by kernel_rfl) (by kernel_rfl) (by kernel_rfl) (by kernel_rfl) (fun _ _ _ h => h) hHeld (Or.inl ⟨by rfl, ?_⟩) ?_
  rotate_left
  · (intro w hSw; (try dsimp only at hSw); go_simp; try with_reducible rfl)
  simp only [Act.put, List.setIfInBounds_toArray, List.set_cons_zero, List.set_cons_succ]
  refine till_take 6 (v := ?_) rfl (by kernel_rfl) (by kernel_rfl) (by kernel_rfl) (by kernel_rfl) (fun _ _ _ h => h) hHeld (Or.inl ⟨by rfl, ?_⟩) ?_
  rotate_left
  · (intro w hSw; (try dsimp only at hSw); go_simp; try with_reducible rfl)
  simp only [Act.put, List.setIfInBounds_toArray, List.set_cons_zero, List.set_cons_succ]
  refine till_take 7 (v := ?_) rfl (by kernel_rfl) (by kernel_rfl) (by kernel_rfl) (by kernel_rfl) (fun _ _ _ h => h) hHeld (Or.inl ⟨by rfl, ?_⟩) ?_
  rotate_left
  · (intro w hSw; (try dsimp only at hSw); go_simp; try with_reducible rfl)
  simp only [Act.put, List.setIfInBounds_toArray, List.set_cons_zero, List.set_cons_succ]
  refine till_take 8 (v := ?_) rfl (by kernel_rfl) (by kernel_rfl) (by kernel_rfl) (by kernel_rfl) (fun _ _ _ h => h) hHeld (Or.inl ⟨by rfl, ?_⟩) ?_
  rotate_left
  · (intro w hSw; (try dsimp only at hSw); go_simp; try with_reducible rfl)
  simp only [Act.put, List.setIfInBounds_toArray, List.set_cons_zero, List.set_cons_succ]
  refine till_take 9 (v := ?_) rfl (by kernel_rfl) (by kernel_rfl) (by kernel_rfl) (by kernel_rfl) (fun _ _ _ h => h) hHeld (Or.inl ⟨by rfl, ?_⟩) ?_
  rotate_left
  · (intro w hSw; (try dsimp only at hSw); go_simp; try with_reducible rfl)
  simp only [Act.put, List.setIfInBounds_toArray, List.set_cons_zero, List.set_cons_succ]
  refine till_take 10 (v := ?_) rfl (by kernel_rfl) (by kernel_rfl) (by kernel_rfl) (by kernel_rfl) (fun _ _ _ h => h) hHeld (Or.inl ⟨by rfl, ?_⟩) ?_
  rotate_left
  · (intro w hSw; (try dsimp only at hSw); go_simp; try with_reducible rfl)
  simp only [Act.put, List.setIfInBounds_toArray, List.set_cons_zero, List.set_cons_succ]
  refine till_take 11 (v := ?_) rfl (by kernel_rfl) (by kernel_rfl) (by kernel_rfl) (by kernel_rfl) (fun _ _ _ h => h) hHeld (Or.inl ⟨by rfl, ?_⟩) ?_
  rotate_left
  · (intro w hSw; (try dsimp only at hSw); go_simp; try with_reducible rfl)
  simp only [Act.put, List.setIfInBounds_toArray, List.set_cons_zero, List.set_cons_succ]
  refine till_ready 12 rfl (by kernel_rfl) (fun K hK => ?_)
  go_simp
  (go_at_call 62; with_reducible refine (HP.out _ (chainB B2.out (Below.refl _ _).drew)).mono ?_; rintro e y1 ⟨v, rfl, o1, zb⟩)
  obtain ⟨pv, cv, rfl, mv, -⟩ := ownS_form o1
  have by1 : Below W2.heap.size W2 y1 := chainB (Below.refl _ _).drew zb
  obtain ⟨⟨r0, r1, r2, r3⟩, f0, f1, f2, f3⟩ := HK.out y1 by1
  refine hK.out _ _ (HX.out _ by1) (fun hHeld => ?_)
  clear hK K
  try simp only [Act.put, List.setIfInBounds_toArray, List.set_cons_zero, List.set_cons_succ]
  refine till_take 13 (v := ?_) rfl (by kernel_rfl) (by kernel_rfl) (by kernel_rfl) (by kernel_rfl) (fun _ _ _ h => h) hHeld (Or.inl ⟨by rfl, ?_⟩) ?_
  rotate_left
  · (intro w hSw; (try dsimp only at hSw); go_simp; try with_reducible rfl)
  simp only [Act.put, List.setIfInBounds_toArray, List.set_cons_zero, List.set_cons_succ]
  refine till_last rfl (by kernel_rfl) (by kernel_rfl) (fun K hK => ?_)
  go_simp
  refine hK.out _ _ ?_
  clear hK K
  have hz := HZ.out
  have HO : Hid (∀ a b c d : Value, _) := fun a b c d => prf_out (chainB B2.out by1) (g := w.heap.size + 1) (by omega) (by simp only [szD]; omega) o1 a b c d
  go_wp2_with fail
  refine bodyPost_ret (v := .agg #[.string t, .int .i64 (I : Int), .int .i64 (lv.length : Int), .slice pv PB.length cv]) (by simp [results, Tryz.results24, go_sem, r0, r1, r2, r3]) rfl ?_
  obtain ⟨h1, h3⟩ := HO.out (.string t) (.int .i64 (I : Int)) (.int .i64 (lv.length : Int)) (.slice pv PB.length cv)
  exact ⟨_, rfl, h1, h3⟩
end Go.Proofs.YtamdgdkpcoeknaaGreatDoor
