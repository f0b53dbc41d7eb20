/-
  Parts of one proof, laid as one text: SignD, StepApp, Path2, Digest, DrawTree; what each says stands at its head.
-/
import Derived.Test.YtfdihkgkiiekcaaDoorRows
import Derived.Test.YtfdihkgkiiekcaaDoorBytesDigMath
import Derived.Test.YtfdihkgkiiekcaaDoorOwnBPadI
import Derived.Test.YtfdihkgkiiekcaaDoorAll2LeafNode
import Derived.Test.YtfdihkgkiiekcaaDoorSlASlBBxK
import Derived.Test.YtfdihkgkiiekcaaDoorLawSLawSGOwnSBox3
import Derived.Test.YtfdihkgkiiekcaaDoorPowerHalvesTreeTree2TreeHPathMathIncMath
import Derived.Test.YtfdihkgkiiekcaaDoorSignMath
import Derived.Test.YtfdihkgkiiekcaaDoorDrawsDrawKitSomeIsInSignS
import Derived.Handy
import Derived.WalkSpells
import Derived.OwnWalk
import Derived.Deep.AppendLies
import Derived.Deep.QuietTactic
import Derived.BigQuiet
import Derived.Deep.RegionLaw
import Derived.Test.YtfdihkgkiiekcaaDoorTreeMath
import Derived.Test.YtfdihkgkiiekcaaDoorDigITurn2
import Derived.Test.YtfdihkgkiiekcaaDoorMac2PutNumAppSSrc
/-
  What the specification's KeyRoot and l04Digits answer.
-/
namespace Go.Proofs.YtfdihkgkiiekcaaDoor
open Go.RowKit Go.Lib
set_option linter.unusedVariables false
set_option maxRecDepth 20000

theorem infoI64s : (Tryd.prog.info? 2).map (fun i => (i.zero, i.size, i.bytes)) = some (some (.int .i64 0), 1, 8) := by kernel_rfl
theorem own4 (w : World) (a b c d : Int) : (w.alloc (.cells #[.int .i64 a, .int .i64 b, .int .i64 c, .int .i64 d] 2)).ownsRow w.heap.size 2 1 (.slice (some ⟨w.heap.size, 0, none⟩) 4 4) 4 [.int .i64 a, .int .i64 b, .int .i64 c, .int .i64 d] :=
  ⟨rfl, .inr ⟨w.heap.size, 4, #[.int .i64 a, .int .i64 b, .int .i64 c, .int .i64 d], rfl, Nat.le_refl _, (MapKept.heap_alloc w _).1, Nat.le_refl _, by unfold maxLen; omega, rfl, rfl⟩⟩
set_option maxHeartbeats 2000000 in
theorem specDigits_any (t : ByteArray) (w : World) (ht : t.size ≤ 1048576) :
    Calls Tryd.prog 33 #[.string t] w fun e w' => ∃ v, e = .returned v ∧ w'.ownsRow w.heap.size 2 1 v 6 ((digsI t).map (Value.int .i64)) ∧ Below w.heap.size w w' := by
  obtain ⟨i0, hi, hz0, hz1, hz2⟩ := info_parts infoI64s
  obtain ⟨D, hD⟩ : ∃ D, D = digB t := ⟨_, rfl⟩
  have hA := specAll_any t w (by omega)
  rw [← hD] at hA
  have hs : D.size = 32 := by rw [hD]; exact digB_size t
  have h0 : 0 < D.size := by omega
  have h1 : 1 < D.size := by omega
  have e0 : byteAt D 0 = ((D[0]'h0).toNat : Int) := by
    unfold byteAt; simp [List.getD_eq_getElem?_getD]; rw [Array.getElem?_eq_getElem h0]; rfl
  have e1 : byteAt D 1 = ((D[1]'h1).toNat : Int) := by
    unfold byteAt; simp [List.getD_eq_getElem?_getD]; rw [Array.getElem?_eq_getElem h1]; rfl
  have c0 : ((D[0]'h0).toNat : Int) ≤ 255 := by have := (D[0]'h0).toNat_lt; omega
  have c1 : ((D[1]'h1).toNat : Int) ≤ 255 := by have := (D[1]'h1).toNat_lt; omega
  have H : Hid (digsI t = [((D[0]'h0).toNat : Int) / 16, ((D[0]'h0).toNat : Int) % 16, ((D[1]'h1).toNat : Int) / 16, ((D[1]'h1).toNat : Int) % 16, (60 - ((D[0]'h0).toNat : Int) / 16 - ((D[0]'h0).toNat : Int) % 16 - ((D[1]'h1).toNat : Int) / 16 - ((D[1]'h1).toNat : Int) % 16) / 16, (60 - ((D[0]'h0).toNat : Int) / 16 - ((D[0]'h0).toNat : Int) % 16 - ((D[1]'h1).toNat : Int) / 16 - ((D[1]'h1).toNat : Int) % 16) % 16]) := by
    show _ = _
    rw [← e0, ← e1, hD]; rfl
  clear hD e0 e1
  go_enter Tryd.func33, Tryd.ntmps33
  go_wp2_with fail
  refine hA.mono ?_
  rintro e w1 ⟨rfl, b1⟩
  go_wp2_with fail
  go_region
  have n0 : 0 ≤ ((D[0]'h0).toNat : Int) := by omega
  have n1 : 0 ≤ ((D[1]'h1).toNat : Int) := by omega
  generalize ((D[0]'h0).toNat : Int) = A at *
  generalize ((D[1]'h1).toNat : Int) = B at *
  have HA : 0 ≤ A / 16 ∧ A / 16 ≤ 15 ∧ 0 ≤ A % 16 ∧ A % 16 ≤ 15 := by omega
  have HB : 0 ≤ B / 16 ∧ B / 16 ≤ 15 ∧ 0 ≤ B % 16 ∧ B % 16 ≤ 15 := by omega
  generalize A / 16 = d0 at *
  generalize A % 16 = d1 at *
  generalize B / 16 = d2 at *
  generalize B % 16 = d3 at *
  obtain ⟨a0, a1, a2, a3⟩ := HA
  obtain ⟨a4, a5, a6, a7⟩ := HB
  have O1 := own4 w1 d0 d1 d2 d3
  have B1 : Below w.heap.size w (w1.alloc (.cells #[.int .i64 d0, .int .i64 d1, .int .i64 d2, .int .i64 d3] 2)) := b1.alloc b1.size _
  go_wp2_with fail
  go_quiet (fail)
  obtain ⟨W, hW⟩ : ∃ W, W = (((w1.alloc (.cells #[.int .i64 d0, .int .i64 d1, .int .i64 d2, .int .i64 d3] 2)).drew.drewN nq) : World) := ⟨_, rfl⟩
  rw [← hW]
  have O2 : Hid (W.ownsRow w1.heap.size 2 1 (.slice (some ⟨w1.heap.size, 0, none⟩) 4 4) 4 [.int .i64 d0, .int .i64 d1, .int .i64 d2, .int .i64 d3]) := by rw [hW]; exact ownS_below O1 ⟨rfl, rfl, rfl, Nat.le_refl _, fun _ _ => rfl⟩
  have B2 : Hid (Below w.heap.size w W) := by rw [hW]; exact ⟨B1.os, B1.tape, B1.output, B1.size, B1.block⟩
  have hsz : w1.heap.size ≤ W.heap.size := by rw [hW]; show w1.heap.size ≤ (w1.alloc _).heap.size; simp
  have hR : 0 ≤ 60 - d0 - d1 - d2 - d3 ∧ 60 - d0 - d1 - d2 - d3 ≤ 60 := by omega
  clear hW O1 B1
  generalize 60 - d0 - d1 - d2 - d3 = R at *
  obtain ⟨R0, R1⟩ := hR
  have B3 := B2.out.alloc B2.out.size (.cells #[.int .i64 (R / 16), .int .i64 (R % 16)] 2)
  have hb1 := b1.size
  clear a0 a1 a2 a3 a4 a5 a6 a7 c0 c1 n0 n1
  go_wp2_with (at_builtin; refine wpList_append_lies _ rfl _ _ 58 rfl w1.heap.size 2 i0 (.int .i64 0) 1 8 Tryd.underlying58 hi hz0 hz1 hz2 rfl (by omega) _ 4 [.int .i64 d0, .int .i64 d1, .int .i64 d2, .int .i64 d3] rfl (O2.out.alloc _) ⟨W.heap.size, 0, none⟩ 2 2 [.int .i64 (R / 16), .int .i64 (R % 16)] rfl rfl (World.news_of_block (cs := #[.int .i64 (R / 16), .int .i64 (R % 16)]) (t := 2) (fr := (0, 0)) (MapKept.heap_alloc W _).1) (by simp [Value.oneCell']) (by omega) (by unfold maxLen; omega) (by omega) (by simp; omega) (W.heap.size + 1) (by simp) ?_; intro g2 cap2 w5 hown2 hgrow hat hltg)
  have HO5 : Hid (w5.ownsRow w.heap.size 2 1 (.slice (some ⟨g2, 0, none⟩) 6 cap2) 6 ((digsI t).map (Value.int .i64))) := by rw [H.out]; exact ownS_mono hown2 hb1
  have HB5 : Hid (Below w.heap.size w w5) := B3.grown hgrow (by have := B2.out.size; simp; omega) (fun j hj => by have := (O2.out.lt j hj).1; omega)
  clear hown2 hgrow B3 H O2 B2
  go_wp2_with fail
  go_ret
  exact ⟨_, rfl, HO5.out, HB5.out⟩
end Go.Proofs.YtfdihkgkiiekcaaDoor
/-
  An append in a region that draws its order, by its run.
-/
namespace Go.Proofs.YtfdihkgkiiekcaaDoor
open Go.RowKit
set_option linter.unusedVariables false

theorem step_append_run {P : Program} {w : World} {ops : Array Oper} {o : Oper} {a : Act} {K : Act → World → Prop} {Q : Exit → Act → World → Prop} {E : Prop} (hgd : o.guard = none) (s x : Operand) (t : TypeId)
    (ho : o.op = .call { callee := .builtin .append, args := #[s, x], argTypes := #[t, t] }) (v1 v2 v' : Value) (w' : World) (hs : a.eval s = v1) (hx : a.eval x = v2)
    (hr : (Builtin.append_ #[t, t] o.type #[v1, v2]).run P w = .ok v' w') (h : K (a.put o.dst v') w') :
    if Region.wanted o (yielded ops a.tmps) = true then Oper.wp P o a w K Q else E := by
  have hw : Region.wanted o (yielded ops a.tmps) = true := by simp [Region.wanted, hgd]
  rw [if_pos hw]
  unfold Oper.wp execOp
  simp only [ho, resolve, invoke, builtin, Sem.run_bind, Sem.run_pure, Result.andThen_ok, List.map_toArray, List.map_cons, List.map_nil, hs, hx, hr]
  exact h
end Go.Proofs.YtfdihkgkiiekcaaDoor
/-
  The specification's l03Path and PathOf: the path of an entry, 'pathA', in new memory of its own.
  Conditions: the slice's cells hold the entries; index is an int64.
-/
namespace Go.Proofs.YtfdihkgkiiekcaaDoor
open Go.RowKit Go.Lib
set_option linter.unusedVariables false
set_option maxRecDepth 20000

end Go.Proofs.YtfdihkgkiiekcaaDoor
/-
  What Digest answers, in the program and in the specification: 'digestB': the digest of a text of at most 8000 bytes, else nothing.
-/
namespace Go.Proofs.YtfdihkgkiiekcaaDoor
open Go.RowKit Go.Lib
set_option linter.unusedVariables false
set_option maxRecDepth 20000

def digestB (t : ByteArray) : ByteArray := if t.size ≤ 8000 then digB t else ByteArray.empty

set_option maxHeartbeats 400000 in
theorem implDigest_any (t : ByteArray) (w : World) (ht : t.size ≤ maxLen) (hT : Tabs w) :
    Calls Tryd.prog 67 #[.string t] w fun e w' => e = .returned (.string (digestB t)) ∧ Below w.heap.size w w' := by
  have HT : Hid (Tabs w) := hT
  clear hT
  by_cases h : t.size ≤ 8000
  · have H : Hid (digestB t = digB t) := if_pos h
    go_enter Tryd.func67, Tryd.ntmps67
    go_wp2_with (go_at_call 65; refine (digI_any t _ (by omega) HT.out).mono ?_; rintro e w1 ⟨rfl, hb⟩)
    go_ret
    exact ⟨ret_str H.out.symm, hb⟩
  · have H : Hid (digestB t = ByteArray.empty) := if_neg h
    unfold maxLen at ht
    go_enter Tryd.func67, Tryd.ntmps67
    go_wp2
    go_ret
    exact ⟨ret_str H.out.symm, Below.refl _ _⟩
end Go.Proofs.YtfdihkgkiiekcaaDoor
/-
  What lwTexts answers of two slices of texts; what DrawPathOf and DrawProofOf draw: at most 30 texts of at most 101 bytes, and a number from -1 to 31.
-/
namespace Go.Proofs.YtfdihkgkiiekcaaDoor
open Go.RowKit Go.Lib
set_option linter.unusedVariables false
set_option maxRecDepth 20000

/-- What is drawn: few and small texts. -/
def Drawn (w : World) (v : Value) (L : List ByteArray) : Prop := ∃ q cq, v = .slice q L.length cq ∧ L.length ≤ cq ∧ TxtAt w q L ∧ L.length ≤ 31 ∧ ∀ x ∈ L, x.size ≤ 101
theorem own_drawn {w : World} {base : Nat} {v : Value} {L : List ByteArray} (h : w.ownsRow base 9 1 v L.length (strRow L)) (hl : L.length ≤ 31) (hs : ∀ x ∈ L, x.size ≤ 101) : Drawn w v L := by
  obtain ⟨q, cq, rfl, h1, h2⟩ := ownS_form h
  exact ⟨q, cq, rfl, h1, h2, hl, hs⟩

end Go.Proofs.YtfdihkgkiiekcaaDoor
