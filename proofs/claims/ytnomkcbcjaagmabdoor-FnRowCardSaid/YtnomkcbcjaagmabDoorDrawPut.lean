/-
  What l07Put answers: the text among the others, in its place, once; a row of texts of its own.
  Conditions: the texts lie in a row of one's own.
-/
import Derived.Test.YtnomkcbcjaagmabDoorRows
import Derived.Test.YtnomkcbcjaagmabDoorBytesDigMath
import Derived.Test.YtnomkcbcjaagmabDoorSlASlBOwnS
import Derived.Test.YtnomkcbcjaagmabDoorFldRiseOwnBTurn2
import Derived.Test.YtnomkcbcjaagmabDoorAppS
import Derived.Test.YtnomkcbcjaagmabDoorBxKGrKTakesSrc
import Derived.Test.YtnomkcbcjaagmabDoorShwK
import Derived.Handy
import Derived.WalkSpells
import Derived.OwnWalk
import Derived.Deep.Cut
namespace Go.Proofs.YtnomkcbcjaagmabDoor
open Go.RowKit Go.Lib
set_option linter.unusedVariables false
set_option maxRecDepth 20000

theorem ownS_one {w : World} {base : Nat} {v : Value} {l : List ByteArray} (h : w.ownsRow base 9 1 v l.length (strRow l)) (h0 : 1 ≤ l.length) : ∃ b cap, v = .slice (some ⟨b, 0, none⟩) l.length cap ∧ l.length ≤ cap := by
  rcases h.2 with ⟨rfl, h1⟩ | ⟨g, cap, cur, rfl, h2, h3, h4, -⟩
  · omega
  · exact ⟨g, cap, rfl, h4⟩
theorem size1S (wx : World) : (sizeOf (Tryd.prog.elem 28)).run Tryd.prog wx = .ok 1 wx := by kernel_rfl
theorem elemS : Tryd.prog.underlying 28 = some (.slice (Tryd.prog.elem 28)) := by kernel_rfl
theorem sl_high (q : Option Addr) (n c k : Nat) (hk : k ≤ c) (wx : World) : (Instr.slice 28 (.slice q n c) none (some (.int .i64 (k : Int))) none).run Tryd.prog wx = .ok (.slice q k c) wx := by
  rw [run_slice_h (P := Tryd.prog) wx 28 q n c elemS .i64 (k : Int) (by omega) (by omega), size1S]
  cases q <;> simp [sliced, Result.andThen, Addr.add]
/-- The cells from the k-th on. -/
theorem sl_low (b off n c k : Nat) (hk : k ≤ n) (hn : n ≤ c) : ∃ q : Option Addr, (∀ wx, (Instr.slice 28 (.slice (some ⟨b, off, none⟩) n c) (some (.int .i64 (k : Int))) none none).run Tryd.prog wx = .ok (.slice q (n - k) (c - k)) wx) ∧ (∃ o, q = some ⟨b, o, none⟩) ∧ (k < c → q = some ⟨b, off + k, none⟩) := by
  by_cases h : c = k
  · refine ⟨some ⟨b, off, none⟩, fun wx => ?_, ⟨_, rfl⟩, fun h2 => by omega⟩
    rw [run_slice_l (P := Tryd.prog) wx 28 (some ⟨b, off, none⟩) n c elemS .i64 (k : Int) (by omega) (by omega), size1S]
    simp [sliced, Result.andThen, h]
  · refine ⟨some ⟨b, off + k, none⟩, fun wx => ?_, ⟨_, rfl⟩, fun _ => rfl⟩
    rw [run_slice_l (P := Tryd.prog) wx 28 (some ⟨b, off, none⟩) n c elemS .i64 (k : Int) (by omega) (by omega), size1S]
    simp [sliced, Result.andThen, Addr.add, h]
theorem txt_drop {w : World} {b off : Nat} {l : List ByteArray} (h : TxtAt w (some ⟨b, off, none⟩) l) (k : Nat) {q : Option Addr} (hq : k < l.length → q = some ⟨b, off + k, none⟩) : TxtAt w q (l.drop k) := by
  intro i hi
  have hi' : k + i < l.length := by rw [List.length_drop] at hi; omega
  obtain ⟨b', o', e, h1, h2⟩ := h (k + i) hi'
  cases e
  refine ⟨b, off + k, hq (by omega), h1, ?_⟩
  rw [List.getElem_drop, Nat.add_assoc]; exact h2
theorem txt_take {w : World} {q : Option Addr} {l : List ByteArray} (h : TxtAt w q l) (k : Nat) : TxtAt w q (l.take k) := by
  intro i hi
  have hi' : i < l.length := by rw [List.length_take] at hi; omega
  obtain ⟨b', o', e, h1, h2⟩ := h i hi'
  refine ⟨b', o', e, h1, ?_⟩
  rw [List.getElem_take]; exact h2
/-- The three appends that put a text among others. -/
theorem put_rest (b c k : Nat) (l : List ByteArray) (t : ByteArray) (x : World) (HT : TxtAt x (some ⟨b, 0, none⟩) l) (hk : k ≤ l.length) (hl : l.length ≤ 100) (hc : l.length ≤ c) :
    ∃ (p1 : Option Addr) (d1 : Nat) (y1 : World) (g2 d2 : Nat) (y2 : World) (q : Option Addr) (g3 d3 : Nat) (y3 : World) (l' : List ByteArray),
      (Builtin.append_ #[28, 28] 28 #[.slice (some ⟨x.heap.size, 0, none⟩) 0 0, .slice (some ⟨b, 0, none⟩) k c]).run Tryd.prog (x.alloc (.cells #[] 9)) = .ok (.slice p1 k d1) y1 ∧
      (Builtin.append_ #[28, 28] 28 #[.slice p1 k d1, .slice (some ⟨y1.heap.size, 0, none⟩) 1 1]).run Tryd.prog (y1.alloc (.cells #[.string t] 9)) = .ok (.slice (some ⟨g2, 0, none⟩) (k + 1) d2) y2 ∧
      (∀ wx, (Instr.slice 28 (.slice (some ⟨b, 0, none⟩) l.length c) (some (.int .i64 (k : Int))) none none).run Tryd.prog wx = .ok (.slice q (l.length - k) (c - k)) wx) ∧
      (Builtin.append_ #[28, 28] 28 #[.slice (some ⟨g2, 0, none⟩) (k + 1) d2, .slice q (l.length - k) (c - k)]).run Tryd.prog y2 = .ok (.slice (some ⟨g3, 0, none⟩) l'.length d3) y3 ∧
      y3.ownsRow x.heap.size 9 1 (.slice (some ⟨g3, 0, none⟩) l'.length d3) l'.length (strRow l') ∧ l' = l.take k ++ [t] ++ l.drop k ∧ x.heap.size ≤ g3 ∧ Below x.heap.size x y3 := by
  have a1 : Below x.heap.size x (x.alloc (.cells #[] 9)) := (Below.refl _ _).alloc (Nat.le_refl _) _
  have hk2 : (l.take k).length = k := by rw [List.length_take]; omega
  obtain ⟨v1, y1, r1, o1, g1⟩ := app_texts (x.alloc (.cells #[] 9)) x.heap.size _ [] (ownS_none x) (some ⟨b, 0, none⟩) c (l.take k) (txt_take (HT.below a1) k) (by simp; omega) a1.size
  have b1 : Below x.heap.size x y1 := a1.grown g1 a1.size (fun j hj => by simp [Value.ownBlock] at hj; omega)
  rw [List.nil_append] at o1
  obtain ⟨p1, d1, rfl, hd1, -⟩ := ownS_form o1
  have hb1 := b1.size
  obtain ⟨g2, d2, y2, r2, o2, g2', -⟩ := app_str y1 x.heap.size _ (l.take k) o1 t (by omega) hb1
  have b2 : Below x.heap.size x y2 := (b1.alloc hb1 _).grown g2' (by rw [szA]; omega) (fun j hj => (o1.lt j hj).1)
  obtain ⟨q, rq, -, eq⟩ := sl_low b 0 l.length c k hk hc
  have hq : TxtAt y2 q (l.drop k) := txt_drop (HT.below b2) k (fun h => by rw [eq (by omega)])
  obtain ⟨v3, y3, r3, o3, g3'⟩ := app_texts y2 x.heap.size _ (l.take k ++ [t]) o2 q (c - k) (l.drop k) hq (by simp; omega) b2.size
  have b3 : Below x.heap.size x y3 := b2.grown g3' b2.size (fun j hj => (o2.lt j hj).1)
  obtain ⟨g3, d3, rfl, -⟩ := ownS_one o3 (by simp; omega)
  have hg3 := (o3.lt g3 rfl).1
  rw [hk2] at r1 r2
  rw [hk2, List.length_drop] at r3
  exact ⟨p1, d1, y1, g2, d2, y2, q, g3, d3, y3, _, r1, r2, rq, r3, o3, rfl, hg3, b3⟩
def PutP (base : Nat) (v : Value) (l : List ByteArray) (t : ByteArray) (w : World) (e : Ending) (w' : World) : Prop :=
  ∃ (g c : Nat) (l' : List ByteArray), e = .returned (.slice (some ⟨g, 0, none⟩) l'.length c) ∧ w'.ownsRow base 9 1 (.slice (some ⟨g, 0, none⟩) l'.length c) l'.length (strRow l') ∧ l'.length ≤ l.length + 1 ∧ (∀ x ∈ l', x ∈ l ∨ x = t) ∧ (v.ownBlock = some g ∨ w.heap.size ≤ g) ∧ Below w.heap.size w w'
set_option maxHeartbeats 4000000 in
theorem l07Put_any (base b c : Nat) (l : List ByteArray) (t : ByteArray) (w : World) (own : w.ownsRow base 9 1 (.slice (some ⟨b, 0, none⟩) l.length c) l.length (strRow l)) (hl : l.length ≤ 100) (hbase : base ≤ w.heap.size) :
    Calls Tryd.prog 41 #[.slice (some ⟨b, 0, none⟩) l.length c, .string t] w (PutP base (.slice (some ⟨b, 0, none⟩) l.length c) l t w) := by
  have HO : Hid (w.ownsRow base 9 1 (.slice (some ⟨b, 0, none⟩) l.length c) l.length (strRow l)) := own
  obtain ⟨q0, c0, e0, hc, htx⟩ := ownS_form own
  cases e0
  have HT : Hid (TxtAt w (some ⟨b, 0, none⟩) l) := htx
  clear own htx
  go_enter Tryd.func41, Tryd.ntmps41
  go_wp2_with fail
  go_loopw [5] (fun i wr => ∃ k : Nat, k ≤ l.length ∧ i = .int .i64 k ∧ wr = w) (fun i _ => l.length - (intOf i).toNat)
  case atStart => exact ⟨0, Nat.zero_le _, rfl, rfl⟩
  case round =>
    obtain ⟨k, hk, rfl, rfl⟩ := hrel
    have REST : Hid (∀ (y : World) (l' : List ByteArray) (g c' : Nat), y.ownsRow base 9 1 (.slice (some ⟨g, 0, none⟩) l'.length c') l'.length (strRow l') → l' = l.take k ++ [t] ++ l.drop k → wr.heap.size ≤ g → Below wr.heap.size wr y → PutP base (.slice (some ⟨b, 0, none⟩) l.length c) l t wr (.returned (.slice (some ⟨g, 0, none⟩) l'.length c')) y) := fun y l' g c' ho hl' hg hb => ⟨g, c', l', rfl, ho, by rw [hl']; simp; omega, fun x hx => by
        rw [hl'] at hx
        rcases List.mem_append.1 hx with hx | hx
        · rcases List.mem_append.1 hx with hx | hx
          · exact .inl (List.mem_of_mem_take hx)
          · exact .inr (List.mem_singleton.1 hx)
        · exact .inl (List.mem_of_mem_drop hx), .inr hg, hb⟩
    by_cases hlt : k < l.length
    · have i1 : (k : Int) < l.length := by omega
      have hcl : wr.cell? ⟨b, k, none⟩ = some (.string l[k]) := by have := HT.out.at k hlt; rwa [Nat.zero_add] at this
      have HL : Hid (PutP base (.slice (some ⟨b, 0, none⟩) l.length c) l t wr (.returned (.slice (some ⟨b, 0, none⟩) l.length c)) wr) := ⟨b, c, l, rfl, HO.out, by omega, fun x hx => .inl hx, .inl rfl, Below.refl _ _⟩
      generalize l[k] = X at *
      cases hb : Op.bytesLess X.toList t.toList with
      | true =>
        go_wp2_with fail
        go_roundw
        case rel => exact ⟨k + 1, by omega, by go_num, trivial⟩
        case measure => simp [intOf]; omega
      | false =>
        cases he : (X.toList == t.toList) with
        | true =>
          go_wp2_with fail
          go_ret
          exact HL.out
        | false =>
          obtain ⟨p1, d1, y1, g2, d2, y2, q, g3, d3, y3, l', r1, r2, rq, r3, o3, el, hg3, b3⟩ := put_rest b c k l t wr HT.out hk hl hc
          have HE : Hid _ := REST.out y3 l' g3 d3 (ownS_mono o3 hbase) el hg3 b3
          have hh := sl_high (some ⟨b, 0, none⟩) l.length c k (by omega)
          have k1 : (k : Int) ≤ l.length := by omega
          clear REST o3 el hg3 b3
          go_wp2_with (at_builtin; first | refine wpList_append_run rfl _ _ _ rfl (.slice (some ⟨wr.heap.size, 0, none⟩) 0 0) (.slice (some ⟨b, 0, none⟩) k c) _ _ rfl rfl r1 ?_ | refine wpList_append_run rfl _ _ _ rfl (.slice p1 k d1) (.slice (some ⟨y1.heap.size, 0, none⟩) 1 1) _ _ rfl rfl r2 ?_ | refine wpList_append_run rfl _ _ _ rfl (.slice (some ⟨g2, 0, none⟩) (k + 1) d2) (.slice q (l.length - k) (c - k)) _ _ rfl rfl r3 ?_)
          go_ret
          exact HE.out
    · have i1 : ¬ (k : Int) < l.length := by omega
      obtain ⟨p1, d1, y1, g2, d2, y2, q, g3, d3, y3, l', r1, r2, rq, r3, o3, el, hg3, b3⟩ := put_rest b c k l t wr HT.out hk hl hc
      have HE : Hid _ := REST.out y3 l' g3 d3 (ownS_mono o3 hbase) el hg3 b3
      have hh := sl_high (some ⟨b, 0, none⟩) l.length c k (by omega)
      have k1 : (k : Int) ≤ l.length := by omega
      clear REST o3 el hg3 b3
      go_wp2_with (at_builtin; first | refine wpList_append_run rfl _ _ _ rfl (.slice (some ⟨wr.heap.size, 0, none⟩) 0 0) (.slice (some ⟨b, 0, none⟩) k c) _ _ rfl rfl r1 ?_ | refine wpList_append_run rfl _ _ _ rfl (.slice p1 k d1) (.slice (some ⟨y1.heap.size, 0, none⟩) 1 1) _ _ rfl rfl r2 ?_ | refine wpList_append_run rfl _ _ _ rfl (.slice (some ⟨g2, 0, none⟩) (k + 1) d2) (.slice q (l.length - k) (c - k)) _ _ rfl rfl r3 ?_)
      go_ret
      exact HE.out
end Go.Proofs.YtnomkcbcjaagmabDoor
