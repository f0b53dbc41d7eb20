/-
  Parts of one proof, laid as one text: LawS, LawSG, OwnS, Box3; what each says stands at its head.
-/
import Derived.Test.YtfdihkgkiiekcaaDoorRows
import Derived.Test.YtfdihkgkiiekcaaDoorBytesDigMath
import Derived.Test.YtfdihkgkiiekcaaDoorTreeMath
import Derived.Test.YtfdihkgkiiekcaaDoorSlASlBBxK
import Derived.Handy
import Derived.Deep.QuietTactic
import Derived.BigQuiet
import Derived.OwnWalk
import Derived.Deep.AppendLies
/-
  What the laws' own helpers answer for slices of texts: szStringS (of few and small ones, a number that is not below 0, else -1), toStringS (a copy in new memory), eqStringS (are they alike).
  Conditions: the slices' cells hold those texts.
-/
namespace Go.Proofs.YtfdihkgkiiekcaaDoor
open Go.RowKit Go.Lib
set_option linter.unusedVariables false

def cutS (ss : List ByteArray) (k : Nat) : List ByteArray := ss.take k ++ List.replicate (ss.length - k) ByteArray.empty
theorem cutS_len (ss : List ByteArray) (k : Nat) (h : k ≤ ss.length) : (cutS ss k).length = ss.length := by simp [cutS]; omega
theorem cutS_set (ss : List ByteArray) (k : Nat) (h : k < ss.length) : (cutS ss k).set k ss[k] = cutS ss (k + 1) := by
  unfold cutS
  rw [show ss.length - k = (ss.length - (k + 1)) + 1 by omega, List.replicate_succ]
  have hl : (ss.take k).length = k := by simp; omega
  rw [List.set_append_right _ _ (by omega), hl, Nat.sub_self, List.set_cons_zero, List.take_succ_eq_append_getElem h, List.append_assoc]; rfl

def SzEnd (r : Int) (ss : List ByteArray) : Prop := r = -1 ∨ (0 ≤ r ∧ ss.length ≤ 1048576 ∧ ∀ x ∈ ss, x.size ≤ 1048576)
set_option maxHeartbeats 400000 in
theorem sz_any (p : Option Addr) (cap : Nat) (ss : List ByteArray) (w : World) (hp : TxtAt w p ss) (hn : ss.length ≤ 9223372036854775807) (hcap : ss.length ≤ cap) (hs : ∀ x ∈ ss, x.size ≤ 9223372036854775807) :
    Calls Tryd.prog 7 #[.slice p ss.length cap, .int .i64 1048576] w fun e w' => (∃ r : Int, e = .returned (.int .i64 r) ∧ SzEnd r ss) ∧ w' = w := by
  have HP : Hid (TxtAt w p ss) := hp
  have HS : Hid (∀ x ∈ ss, x.size ≤ 9223372036854775807) := hs
  clear hp hs
  by_cases hl : ss.length ≤ 1048576
  · go_enter Tryd.func7, Tryd.ntmps7
    go_wp2
    go_loop [5, 1] (fun i x => ∃ (k : Nat) (l : Int), k ≤ ss.length ∧ i = .int .i64 k ∧ x = .int .i64 l ∧ 0 ≤ l ∧ l ≤ 1048576 ∧ Hid (∀ j (h : j < ss.length), j < k → ss[j].size ≤ 1048576)) (fun i _ => ss.length - (intOf i).toNat)
    case atStart => exact ⟨0, _, Nat.zero_le _, rfl, rfl, by omega, by omega, fun j h hk => by omega⟩
    case round =>
      obtain ⟨k, l, hk, rfl, rfl, hl0, hl1, HK⟩ := hrel
      by_cases hlt : k < ss.length
      · obtain ⟨b, off, rfl, hb, hck⟩ := HP.out k hlt
        have hsz := HS.out ss[k] (List.getElem_mem hlt)
        by_cases h32 : (ss[k].size : Int) ≤ l
        · have HK2 : Hid (∀ j (h : j < ss.length), j < k + 1 → ss[j].size ≤ 1048576) := fun j h hj => if he : j = k then by subst he; omega else HK.out j h (by omega)
          generalize ss[k] = q at *
          go_wp2
          go_round
          case rel => exact ⟨k + 1, l - q.size, by omega, by go_num, by go_num, by omega, by omega, HK2⟩
          case measure => simp [intOf]; omega
        · generalize ss[k] = q at *
          go_wp2
          go_ret
          exact ⟨⟨_, rfl, .inl rfl⟩, rfl⟩
      · have HF : Hid (∀ x ∈ ss, x.size ≤ 1048576) := fun x hx => by
          obtain ⟨j, hj, rfl⟩ := List.getElem_of_mem hx
          exact HK.out j hj (by omega)
        go_wp2
        go_ret
        exact ⟨⟨_, rfl, .inr ⟨hl0, hl, HF.out⟩⟩, rfl⟩
  · go_enter Tryd.func7, Tryd.ntmps7
    go_wp2
    go_ret
    exact ⟨⟨_, rfl, .inl rfl⟩, rfl⟩

set_option maxHeartbeats 400000 in
theorem to_any (p : Option Addr) (cap : Nat) (ss : List ByteArray) (w : World) (hp : TxtAt w p ss) (hn : ss.length ≤ 1048576) (hcap : ss.length ≤ cap) :
    Calls Tryd.prog 11 #[.slice p ss.length cap] w fun e w' => e = .returned (.slice (some ⟨w.heap.size, 0, none⟩) ss.length ss.length) ∧ BlkS w' w.heap.size ss ∧ Below w.heap.size w w' := by
  have HP : Hid (TxtAt w p ss) := hp
  clear hp
  have hmk := run_make_str ss.length hn
  have H0 : Hid (BlkS (w.alloc (.cells (strRow (List.replicate ss.length ByteArray.empty)).toArray 9)) w.heap.size (cutS ss 0)) := by
    have := alloc_str w (List.replicate ss.length ByteArray.empty)
    show BlkS _ _ _
    unfold cutS; simpa using this
  go_enter Tryd.func11, Tryd.ntmps11
  go_wp2
  go_loopw [4] (fun i wr => ∃ k : Nat, k ≤ ss.length ∧ i = .int .i64 k ∧ Hid (BlkS wr w.heap.size (cutS ss k)) ∧ Hid (Below w.heap.size w wr)) (fun i _ => ss.length - (intOf i).toNat)
  case atStart => exact ⟨0, Nat.zero_le _, rfl, H0, (Below.refl _ _).alloc (Nat.le_refl _) _⟩
  case round =>
    clear H0 hmk
    obtain ⟨k, hk, rfl, hrow, hnx⟩ := hrel
    have hsz := hrow.out.lt
    by_cases hlt : k < ss.length
    · obtain ⟨b, off, rfl, hb, hck⟩ := HP.out k hlt
      have hc1 : wr.cell? ⟨b, off + k, none⟩ = some (.string ss[k]) := (hnx.out.cell (p := ⟨b, off + k, none⟩) hb).trans hck
      obtain ⟨hc2, hf2⟩ := hrow.out.cell k (by rw [cutS_len _ _ (by omega)]; exact hlt)
      have HR : Hid (BlkS (wr.setCell ⟨w.heap.size, k, none⟩ (.string ss[k])) w.heap.size (cutS ss (k + 1))) := by
        show BlkS _ _ _
        rw [← cutS_set ss k hlt]; exact hrow.out.set k _
      have HB : Hid (Below w.heap.size w (wr.setCell ⟨w.heap.size, k, none⟩ (.string ss[k]))) := hnx.out.setCell (Nat.le_refl _) _
      clear hck
      generalize ss[k] = q at *
      generalize (cutS ss k)[k]'_ = q2 at *
      go_wp2
      go_roundw
      case rel => exact ⟨k + 1, by omega, by go_num, HR, HB⟩
      case measure => simp [intOf]; omega
    · have hkk : k = ss.length := by omega
      subst hkk
      have HR : Hid (BlkS wr w.heap.size ss) := by
        have := hrow.out; unfold cutS at this; show BlkS _ _ _; simpa using this
      go_wp2
      go_ret
      exact ⟨rfl, HR.out, hnx.out⟩

set_option maxHeartbeats 400000 in
theorem eq_any (p q : Option Addr) (cap cap2 : Nat) (ss ts : List ByteArray) (w : World) (hp : TxtAt w p ss) (hq : TxtAt w q ts) (hn : ss.length ≤ 140737488355328) (hn2 : ts.length ≤ 140737488355328) (hcap : ss.length ≤ cap) (hcap2 : ts.length ≤ cap2) :
    Calls Tryd.prog 15 #[.slice p ss.length cap, .slice q ts.length cap2] w fun e w' => e = .returned (.bool (decide (ss = ts))) ∧ Below w.heap.size w w' := by
  have HP : Hid (TxtAt w p ss) := hp
  have HQ : Hid (TxtAt w q ts) := hq
  clear hp hq
  by_cases hl : ss.length = ts.length
  · rw [← hl]
    have hl2 : Hid (ss.length = ts.length) := hl
    clear hl
    rw [← hl2.out] at hcap2
    go_enter Tryd.func15, Tryd.ntmps15
    go_wp2
    go_loopw [5] (fun i wr => ∃ k m : Nat, k ≤ ss.length ∧ i = .int .i64 k ∧ wr = w.drewN m ∧ Hid (∀ j (h : j < ss.length) (h2 : j < ts.length), j < k → ss[j] = ts[j])) (fun i _ => ss.length - (intOf i).toNat)
    case atStart => exact ⟨0, 0, Nat.zero_le _, rfl, rfl, fun j h h2 hk => by omega⟩
    case round =>
      obtain ⟨k, m, hk, rfl, rfl, HK⟩ := hrel
      by_cases hlt : k < ss.length
      · have hlt2 : k < ts.length := by have := hl2.out; omega
        obtain ⟨b, off, rfl, hb, hck⟩ := HP.out k hlt
        obtain ⟨b2, off2, rfl, hb2, hck2⟩ := HQ.out k hlt2
        have j5 : (k : Int) < ss.length := by omega
        by_cases he : ss[k] = ts[k]
        · have HK2 : Hid (∀ j (h : j < ss.length) (h2 : j < ts.length), j < k + 1 → ss[j] = ts[j]) := fun j h h2 hj => if hjk : j = k then by subst hjk; exact he else HK.out j h h2 (by omega)
          rw [← he] at hck2
          clear he
          generalize ss[k] = x at *
          go_wp2
          go_quiet (fail)
          go_wp2
          go_roundw
          case rel => exact ⟨k + 1, _, by omega, by go_num, rfl, HK2⟩
          case measure => simp [intOf]; omega
        · have HF : Hid (decide (ss = ts) = false) := decide_eq_false (fun h => he (by subst h; rfl))
          generalize ss[k] = x at *
          generalize ts[k] = y at *
          have hne : (x.toList == y.toList) = false := by
            rw [beq_eq_false_iff_ne]
            exact fun h => he (toList_inj h)
          clear he
          go_wp2
          go_quiet (fail)
          go_wp2
          go_ret
          exact ⟨ret_bool HF.out.symm, ⟨rfl, rfl, rfl, Nat.le_refl _, fun _ _ => rfl⟩⟩
      · have HF : Hid (decide (ss = ts) = true) := decide_eq_true (List.ext_getElem hl2.out fun j h h2 => HK.out j h h2 (by omega))
        go_wp2
        go_ret
        exact ⟨ret_bool HF.out.symm, ⟨rfl, rfl, rfl, Nat.le_refl _, fun _ _ => rfl⟩⟩
  · have HF : Hid (decide (ss = ts) = false) := decide_eq_false (fun h => hl (by rw [h]))
    have hl2 : ¬ (ss.length : Int) = ts.length := by omega
    go_enter Tryd.func15, Tryd.ntmps15
    go_wp2
    go_ret
    exact ⟨ret_bool HF.out.symm, Below.refl _ _⟩
end Go.Proofs.YtfdihkgkiiekcaaDoor
/-
  szStringS from any number on.
-/
namespace Go.Proofs.YtfdihkgkiiekcaaDoor
open Go.RowKit Go.Lib
set_option linter.unusedVariables false

def SzTo (r l0 : Int) (ss : List ByteArray) : Prop := r = -1 ∨ (0 ≤ r ∧ r ≤ l0 ∧ ss.length ≤ 1048576 ∧ ∀ x ∈ ss, x.size ≤ 1048576)
set_option maxHeartbeats 400000 in
theorem szG_any (l0 : Int) (l00 : 0 ≤ l0) (l01 : l0 ≤ 1048576) (p : Option Addr) (cap : Nat) (ss : List ByteArray) (w : World) (hp : TxtAt w p ss) (hn : ss.length ≤ 9223372036854775807) (hcap : ss.length ≤ cap) (hs : ∀ x ∈ ss, x.size ≤ 9223372036854775807) :
    Calls Tryd.prog 7 #[.slice p ss.length cap, .int .i64 l0] w fun e w' => (∃ r : Int, e = .returned (.int .i64 r) ∧ SzTo r l0 ss) ∧ w' = w := by
  have HP : Hid (TxtAt w p ss) := hp
  have HS : Hid (∀ x ∈ ss, x.size ≤ 9223372036854775807) := hs
  clear hp hs
  by_cases hl : (ss.length : Int) ≤ l0
  · go_enter Tryd.func7, Tryd.ntmps7
    go_wp2
    go_loop [5, 1] (fun i x => ∃ (k : Nat) (l : Int), k ≤ ss.length ∧ i = .int .i64 k ∧ x = .int .i64 l ∧ 0 ≤ l ∧ l ≤ l0 ∧ Hid (∀ j (h : j < ss.length), j < k → ss[j].size ≤ 1048576)) (fun i _ => ss.length - (intOf i).toNat)
    case atStart => exact ⟨0, _, Nat.zero_le _, rfl, rfl, by omega, by omega, fun j h hk => by omega⟩
    case round =>
      obtain ⟨k, l, hk, rfl, rfl, hl0, hl1, HK⟩ := hrel
      by_cases hlt : k < ss.length
      · obtain ⟨b, off, rfl, hb, hck⟩ := HP.out k hlt
        have hsz := HS.out ss[k] (List.getElem_mem hlt)
        by_cases h32 : (ss[k].size : Int) ≤ l
        · have HK2 : Hid (∀ j (h : j < ss.length), j < k + 1 → ss[j].size ≤ 1048576) := fun j h hj => if he : j = k then by subst he; omega else HK.out j h (by omega)
          generalize ss[k] = q at *
          go_wp2
          go_round
          case rel => exact ⟨k + 1, l - q.size, by omega, by go_num, by go_num, by omega, by omega, HK2⟩
          case measure => simp [intOf]; omega
        · generalize ss[k] = q at *
          go_wp2
          go_ret
          exact ⟨⟨_, rfl, .inl rfl⟩, rfl⟩
      · have HF : Hid (∀ x ∈ ss, x.size ≤ 1048576) := fun x hx => by
          obtain ⟨j, hj, rfl⟩ := List.getElem_of_mem hx
          exact HK.out j hj (by omega)
        go_wp2
        go_ret
        exact ⟨⟨_, rfl, .inr ⟨hl0, by omega, by omega, HF.out⟩⟩, rfl⟩
  · go_enter Tryd.func7, Tryd.ntmps7
    go_wp2
    go_ret
    exact ⟨⟨_, rfl, .inl rfl⟩, rfl⟩

end Go.Proofs.YtfdihkgkiiekcaaDoor
/-
  Rows of texts that a call owns: carried over what turns nothing that was there.
-/
namespace Go.Proofs.YtfdihkgkiiekcaaDoor
open Go.RowKit Go.Lib
set_option linter.unusedVariables false

theorem ownS_below {w w' : World} {base : Nat} {e : TypeId} {s : Nat} {v : Value} {n : Nat} {xs : List Value} (h : w.ownsRow base e s v n xs) (hb : Below w.heap.size w w') : w'.ownsRow base e s v n xs := by
  refine ⟨h.1, ?_⟩
  rcases h.2 with h0 | ⟨g, cap, cur, h1, h2, h3, h4⟩
  · exact .inl h0
  · exact .inr ⟨g, cap, cur, h1, h2, (hb.block g (lt_of_block h3)).trans h3, h4⟩
theorem ownS_mono {w : World} {base base' : Nat} {e : TypeId} {s : Nat} {v : Value} {n : Nat} {xs : List Value} (h : w.ownsRow base e s v n xs) (hb : base' ≤ base) : w.ownsRow base' e s v n xs := by
  refine ⟨h.1, ?_⟩
  rcases h.2 with h0 | ⟨g, cap, cur, h1, h2, h3⟩
  · exact .inl h0
  · exact .inr ⟨g, cap, cur, h1, Nat.le_trans hb h2, h3⟩
theorem ownS_none (w : World) : (w.alloc (.cells #[] 9)).ownsRow w.heap.size 9 1 (.slice (some ⟨w.heap.size, 0, none⟩) 0 0) ([] : List ByteArray).length (strRow []) :=
  World.ownsRow_made w #[] 0 (Nat.le_refl _) (by unfold maxLen; omega) rfl
theorem alloc_own (w : World) (T : ByteArray) : (w.alloc (.cells #[.string T] 9)).ownsRow w.heap.size 9 1 (.slice (some ⟨w.heap.size, 0, none⟩) 1 1) [T].length (strRow [T]) :=
  (alloc_str w [T]).own w.heap.size (Nat.le_refl _) (by unfold maxLen; simp)
/-- What a value that owns a row of texts is, for a walk that reads it. -/
theorem ownS_form {w : World} {base : Nat} {v : Value} {l : List ByteArray} (h : w.ownsRow base 9 1 v l.length (strRow l)) : ∃ p cap, v = .slice p l.length cap ∧ l.length ≤ cap ∧ TxtAt w p l := by
  rcases h.2 with ⟨rfl, h0⟩ | ⟨g, cap, cur, rfl, h2, h3, h4, h5, h6, h7⟩
  · have hl : l = [] := List.length_eq_zero_iff.1 h0
    subst hl
    exact ⟨none, 0, rfl, Nat.le_refl _, TxtAt.nil _ _⟩
  · refine ⟨some ⟨g, 0, none⟩, cap, rfl, h4, fun i hi => ⟨g, 0, rfl, lt_of_block h3, ?_⟩⟩
    have h8 : (cur.toList.take (l.length * 1))[i]? = some (.string l[i]) := by rw [h7]; simp [strRow, hi]
    rw [List.getElem?_take_of_lt (by omega)] at h8
    rw [Nat.zero_add]
    simpa [World.cell?, h3] using h8
theorem ownS_block {w : World} {base : Nat} {e : TypeId} {s : Nat} {v : Value} {n : Nat} {xs : List Value} (h : w.ownsRow base e s v n xs) {g : Nat} (hg : v.ownBlock = some g) : g < w.heap.size := (h.lt g hg).2
end Go.Proofs.YtfdihkgkiiekcaaDoor
/-
  A box of three cells: what is read off it, and what each step leaves of it.
-/
namespace Go.Proofs.YtfdihkgkiiekcaaDoor
open Go.RowKit Go.Lib
set_option linter.unusedVariables false

def B3 (w : World) (b : Nat) (T : TypeId) (x y z : Value) : Prop := w.heap[b]? = some (.cells #[x, y, z] T (0, 0))
section
variable {w w' : World} {b : Nat} {T : TypeId} {x y z : Value}
theorem B3.lt (h : B3 w b T x y z) : b < w.heap.size := lt_of_block h
theorem B3.new (w : World) (T : TypeId) (x y z : Value) : B3 (w.alloc (.cells #[x, y, z] T)) w.heap.size T x y z := (MapKept.heap_alloc w _).1
theorem B3.below (h : B3 w b T x y z) (hb : Below w.heap.size w w') : B3 w' b T x y z := (hb.block _ h.lt).trans h
theorem B3.alloc (h : B3 w b T x y z) (o : Obj) : B3 (w.alloc o) b T x y z := h.below ((Below.refl _ _).alloc (Nat.le_refl _) _)
theorem B3.grown {row : Option Nat} (h : B3 w b T x y z) (hg : w.grownBy w' row) (hne : row ≠ some b) : B3 w' b T x y z := (hg.block b h.lt (fun e => hne e.symm)).trans h
theorem B3.c0 (h : B3 w b T x y z) : w.cell? ⟨b, 0, none⟩ = some x := by unfold B3 at h; simp [World.cell?, h]
theorem B3.c1 (h : B3 w b T x y z) : w.cell? ⟨b, 1, none⟩ = some y := by unfold B3 at h; simp [World.cell?, h]
theorem B3.c2 (h : B3 w b T x y z) : w.cell? ⟨b, 2, none⟩ = some z := by unfold B3 at h; simp [World.cell?, h]
theorem B3.fr (h : B3 w b T x y z) (i : Nat) : w.frozen? ⟨b, i, none⟩ = false := by unfold B3 at h; simp [World.frozen?, h]
theorem B3.set0 (h : B3 w b T x y z) (v : Value) : B3 (w.setCell ⟨b, 0, none⟩ v) b T v y z := by unfold B3 at *; rw [blk_set h]; rfl
theorem B3.set1 (h : B3 w b T x y z) (v : Value) : B3 (w.setCell ⟨b, 1, none⟩ v) b T x v z := by unfold B3 at *; rw [blk_set h]; rfl
theorem B3.set2 (h : B3 w b T x y z) (v : Value) : B3 (w.setCell ⟨b, 2, none⟩ v) b T x y v := by unfold B3 at *; rw [blk_set h]; rfl
theorem B3.other (h : B3 w b T x y z) (g i : Nat) (hne : g ≠ b) (v : Value) : B3 (w.setCell ⟨g, i, none⟩ v) b T x y z := by
  unfold B3 at *
  rw [show (w.setCell ⟨g, i, none⟩ v).heap[b]? = w.heap[b]? by simp [World.setCell, Array.getElem?_modify, hne]]; exact h
/-- It is no row of texts. -/
theorem B3.ne (h : B3 w b T x y z) (hT : T ≠ 9) {base : Nat} {v : Value} {m : Nat} {xs : List Value} (ho : w.ownsRow base 9 1 v m xs) : v.ownBlock ≠ some b := by
  intro he
  rcases ho.2 with ⟨rfl, _⟩ | ⟨g, cap, cur, rfl, _, hg, _⟩
  · cases he
  · have : g = b := by simpa [Value.ownBlock] using he
    subst this
    unfold B3 at h
    rw [h] at hg
    simp only [Option.some.injEq, Obj.cells.injEq] at hg
    exact hT hg.2.1
end
end Go.Proofs.YtfdihkgkiiekcaaDoor
