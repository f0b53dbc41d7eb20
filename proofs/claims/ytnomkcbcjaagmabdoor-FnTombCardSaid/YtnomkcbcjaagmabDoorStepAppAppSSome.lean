/-
  Parts of one proof, laid as one text: StepApp, AppS, Some; what each says stands at its head.
-/
import Derived.Test.YtnomkcbcjaagmabDoorRows
import Derived.Handy
import Derived.OwnWalk
import Derived.Deep.AppendLies
import Derived.Deep.RegionLaw
import Derived.Test.YtnomkcbcjaagmabDoorBytes
import Derived.Test.YtnomkcbcjaagmabDoorSlASlBOwnS
import Derived.Test.YtnomkcbcjaagmabDoorSrc
import Derived.Test.YtnomkcbcjaagmabDoorDraws
import Derived.Test.YtnomkcbcjaagmabDoorDrawKit
import Derived.WalkSpells
/-
  An append in a region that draws its order, by its run.
-/
namespace Go.Proofs.YtnomkcbcjaagmabDoor
open Go.RowKit
set_option linter.unusedVariables false

theorem step_append_run {P : Program} {w : World} {ops : Array Oper} {o : Oper} {a : Act} {K : Act → World → Prop} {Q : Exit → Act → World → Prop} {E : Prop} (hgd : o.guard = none) (s x : Operand) (t : TypeId)
    (ho : o.op = .call { callee := .builtin .append, args := #[s, x], argTypes := #[t, t] }) (v1 v2 v' : Value) (w' : World) (hs : a.eval s = v1) (hx : a.eval x = v2)
    (hr : (Builtin.append_ #[t, t] o.type #[v1, v2]).run P w = .ok v' w') (h : K (a.put o.dst v') w') :
    if Region.wanted o (yielded ops a.tmps) = true then Oper.wp P o a w K Q else E := by
  have hw : Region.wanted o (yielded ops a.tmps) = true := by simp [Region.wanted, hgd]
  rw [if_pos hw]
  unfold Oper.wp execOp
  simp only [ho, resolve, invoke, builtin, Sem.run_bind, Sem.run_pure, Result.andThen_ok, List.map_toArray, List.map_cons, List.map_nil, hs, hx, hr]
  exact h
end Go.Proofs.YtnomkcbcjaagmabDoor
/-
  append of a slice of texts onto one that the call owns: what it owns then.
-/
namespace Go.Proofs.YtnomkcbcjaagmabDoor
open Go.RowKit Go.Lib
set_option linter.unusedVariables false

theorem run_append_len0 {P : Program} (w : World) (base : Nat) (t ty e : TypeId) (i : TypeInfo) (size : Nat) (ht : P.underlying t = some (.slice e)) (hi : P.info? e = some i)
    (v : Value) (n : Nat) (xs : List Value) (hown : w.ownsRow base e size v n xs) (p : Option Addr) (cap : Nat) :
    (Builtin.append_ #[t, t] ty #[v, .slice p 0 cap]).run P w = .ok v w := by
  rcases hown.2 with ⟨rfl, rfl⟩ | ⟨g, cap', cur, rfl, _, _, hnc, _⟩
  · cases p <;> simp [Builtin.append_, run_underlying ht, sizeOf, typeInfo, hi, Builtin.lenOf, Builtin.firstCells, loadCells, loadCellsFrom]
  · cases p <;> simp [Builtin.append_, run_underlying ht, sizeOf, typeInfo, hi, Builtin.lenOf, Builtin.firstCells, hnc, storeCells, loadCells, loadCellsFrom]
theorem app_texts (w : World) (base : Nat) (v : Value) (l : List ByteArray) (own : w.ownsRow base 9 1 v l.length (strRow l)) (p : Option Addr) (cap : Nat) (ss : List ByteArray) (hp : TxtAt w p ss) (hl : l.length + ss.length ≤ 1048576) (hbase : base ≤ w.heap.size) :
    ∃ v' w', (Builtin.append_ #[28, 28] 28 #[v, .slice p ss.length cap]).run Tryd.prog w = .ok v' w' ∧ w'.ownsRow base 9 1 v' (l ++ ss).length (strRow (l ++ ss)) ∧ w.grownBy w' v.ownBlock := by
  obtain ⟨i0, hi, hz0, hz1, hz2⟩ := info_parts infoStr
  by_cases h0 : ss.length = 0
  · obtain rfl : ss = [] := List.length_eq_zero_iff.1 h0
    refine ⟨v, w, run_append_len0 w base _ _ _ i0 1 Tryd.underlying28 hi v l.length (strRow l) own p cap, by simpa using own, World.grownBy.refl _ _⟩
  · obtain ⟨b, off, rfl, hb, _⟩ := hp 0 (by omega)
    obtain ⟨g, cap', w', h1, h2, h3, _⟩ := run_append_lies (P := Tryd.prog) w 28 28 base 9 i0 (.string ByteArray.empty) 1 16 Tryd.underlying28 hi hz0 hz1 hz2 rfl (by omega) v l.length (strRow l) own ⟨b, off, none⟩ ss.length cap (strRow ss) (by simp [strRow]) (fun j u hu => by
      have hj : j < ss.length := by
        rcases Nat.lt_or_ge j ss.length with q | q
        · exact q
        · rw [List.getElem?_eq_none (by simpa [strRow] using q)] at hu; cases hu
      have hadd : (⟨b, off, none⟩ : Addr).add j = ⟨b, off + j, none⟩ := by unfold Addr.add; split <;> simp_all
      rw [hadd, hp.at j hj]
      simp [strRow, hj] at hu
      rw [hu]) (fun u hu => by
      obtain ⟨x, _, rfl⟩ := List.mem_map.1 hu
      rfl) (by omega) (by unfold maxLen; omega) (by omega) hbase _ rfl
    refine ⟨_, w', h1, ?_, h3⟩
    have e1 : (l ++ ss).length = l.length + ss.length := by simp
    have e2 : strRow (l ++ ss) = strRow l ++ strRow ss := by simp [strRow]
    rw [e1, e2]; exact h2
end Go.Proofs.YtnomkcbcjaagmabDoor
/-
  What l03Some draws: at most 30 texts of at most 101 bytes each, in a row that the call owns. The source's block alone is written.
  Conditions: the source is one ('Src').
-/
namespace Go.Proofs.YtnomkcbcjaagmabDoor
open Go.RowKit Go.Lib
set_option linter.unusedVariables false
set_option maxRecDepth 20000

theorem BlkS.touch {w w' : World} {g p : Nat} {l : List ByteArray} (h : BlkS w g l) (hg : w.grownBy w' (some p)) (hne : g ≠ p) : BlkS w' g l := by
  unfold BlkS at *; rw [hg.block g (lt_of_block h) (fun e => hne (by cases e; rfl))]; exact h
theorem append_size (s t : ByteArray) : (s ++ t).size = s.size + t.size := by simp

set_option maxHeartbeats 1000000 in
theorem pick_any (B p : Nat) (a : Option Addr) (len cap : Nat) (g : Nat) (ss : List ByteArray) (w : World) (hs : Src 100 B p a len cap w) (hb : BlkS w g ss) (hne : g ≠ p) (h0 : 0 < ss.length) (hn : ss.length ≤ 1048576) :
    Calls Tryd.prog 67 #[.pointer (some ⟨p, 0, none⟩), .slice (some ⟨g, 0, none⟩) ss.length ss.length] w fun e w' =>
      (∃ t ∈ ss, e = .returned (.string t)) ∧ Src 100 B p a len cap w' ∧ w.grownBy w' (some p) := by
  have HS : Hid (Src 100 B p a len cap w) := hs
  have HB : Hid (BlkS w g ss) := hb
  clear hs hb
  go_enter Tryd.func67, Tryd.ntmps67
  go_wp2_with fail
  refine (n_any B p a len cap _ _ HS.out (by omega)).mono ?_
  rintro e w1 ⟨⟨r, rfl, hr0, hr1, hr2⟩, hs1, hg1⟩
  obtain ⟨k, rfl⟩ := Int.eq_ofNat_of_zero_le hr0
  have hk : k < ss.length := by
    by_cases h1 : (1 : Int) < ss.length
    · have := hr1 h1; omega
    · have := hr2 (by omega); omega
  have hc := ((HB.out.touch hg1 hne).cell k hk).1
  have HM : Hid (ss[k] ∈ ss) := List.getElem_mem hk
  have H1 : Hid (Src 100 B p a len cap w1) := hs1
  clear hs1 hr1 hr2
  generalize ss[k] = t at *
  have i1 : (k : Int) < ss.length := by omega
  go_wp2
  go_ret
  exact ⟨⟨t, HM.out, rfl⟩, H1.out, hg1⟩

theorem app_one (w : World) (base : Nat) (v : Value) (l : List ByteArray) (own : w.ownsRow base 9 1 v l.length (strRow l)) (T : ByteArray) (hl : l.length + 1 ≤ 1048576) (hbase : base ≤ w.heap.size) :
    ∃ v' w', (Builtin.append_ #[28, 28] 28 #[v, .slice (some ⟨w.heap.size, 0, none⟩) 1 1]).run Tryd.prog (w.alloc (.cells #[.string T] 9)) = .ok v' w' ∧ w'.ownsRow base 9 1 v' (l ++ [T]).length (strRow (l ++ [T])) ∧ (w.alloc (.cells #[.string T] 9)).grownBy w' v.ownBlock :=
  app_texts (w.alloc (.cells #[.string T] 9)) base v l (own.alloc _) (some ⟨w.heap.size, 0, none⟩) 1 [T] (alloc_str w [T]).txt hl (by simp; omega)
/-- What an append to an own row leaves of a source and of what was there. -/
theorem app_leaves {T : TypeId} {B p : Nat} {a : Option Addr} {len cap : Nat} {w0 w w' : World} {e : TypeId} {v : Value} {n : Nat} {xs : List Value} {x : Obj} (own : w.ownsRow w0.heap.size e 1 v n xs) (hs : Src T B p a len cap w) (hp : p < w0.heap.size) (hg : w0.grownBy w (some p)) (h : (w.alloc x).grownBy w' v.ownBlock) :
    Src T B p a len cap w' ∧ w0.grownBy w' (some p) := by
  have hrow : ∀ j, v.ownBlock = some j → w0.heap.size ≤ j := fun j hj => (own.lt j hj).1
  exact ⟨(hs.below ((Below.refl _ _).alloc (Nat.le_refl _) _)).other h (fun j hj => by have := hrow j hj; omega), touch_own (touch_below hg ((Below.refl _ _).alloc (Nat.le_refl _) _)) h hrow⟩

def fourS : List ByteArray := [⟨#[97]⟩, ⟨#[98]⟩, ⟨#[]⟩, ⟨#[101, 110, 116, 114, 121]⟩]
theorem fourS_small : ∀ t ∈ fourS, t.size ≤ 5 := by decide

end Go.Proofs.YtnomkcbcjaagmabDoor
