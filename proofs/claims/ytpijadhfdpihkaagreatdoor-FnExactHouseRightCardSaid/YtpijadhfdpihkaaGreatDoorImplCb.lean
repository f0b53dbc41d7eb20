/-
  What the program's cutBehindLow answers: the text cut behind each byte below 128.
  Conditions: the text has at most 8000 bytes.
-/
import Derived.Test.YtpijadhfdpihkaaGreatDoorRows
import Derived.Test.YtpijadhfdpihkaaGreatDoorBytesDigMath
import Derived.Test.YtpijadhfdpihkaaGreatDoorSlASlBBxKOwnS
import Derived.Test.YtpijadhfdpihkaaGreatDoorFldTrOwnBTurnIWholeR
import Derived.Test.YtpijadhfdpihkaaGreatDoorAsDAs2CodeOfTimeIGrK
import Derived.Test.YtpijadhfdpihkaaGreatDoorLgAtKShwKOneKFldGFldBlk
import Derived.Test.YtpijadhfdpihkaaGreatDoorGetValGetTxtNumMathFldRdNumFromTmbMath
import Derived.Handy
import Derived.WalkSpells
import Derived.OwnWalk
import Derived.Deep.Cut
import Derived.Lib.DecodeN
import Derived.Lib.OthersKept
import Derived.Laws.RangeAny
namespace Go.Proofs.YtpijadhfdpihkaaGreatDoor
open Go.RowKit Go.Lib
set_option linter.unusedVariables false
set_option maxRecDepth 20000

theorem drop_at (t : ByteArray) (pos : Nat) (h : pos < t.size) : t.data.toList.drop pos = (t[pos]'h) :: t.data.toList.drop (pos + 1) := by
  have h' : pos < t.data.toList.length := by rw [sz_list]; exact h
  rw [List.drop_eq_getElem_cons h']
  rfl
theorem getB (t : ByteArray) (i : Nat) (h : i < t.size) : t.get! i = t[i]'h := by
  show t.data[i]! = t.data[i]
  exact getElem!_pos t.data i h
/-- So many bytes from a place on, all of them 128 or above. -/
def Highs (t : ByteArray) (pos k : Nat) : Prop := pos + k ≤ t.size ∧ ∀ j, j < k → 128 ≤ (t.get! (pos + j)).toNat
theorem highs_split (t : ByteArray) : ∀ (k pos : Nat), Highs t pos k → ∃ xs, xs.length = k ∧ (∀ x ∈ xs, 128 ≤ x.toNat) ∧ t.data.toList.drop pos = xs ++ t.data.toList.drop (pos + k)
  | 0, pos, h => ⟨[], rfl, by simp, by simp⟩
  | k + 1, pos, h => by
    have h0 : pos < t.size := by have := h.1; omega
    obtain ⟨xs, e1, e2, e3⟩ := highs_split t k (pos + 1) ⟨by have := h.1; omega, fun j hj => by have := h.2 (j + 1) (by omega); rwa [show pos + 1 + j = pos + (j + 1) by omega]⟩
    refine ⟨(t[pos]'h0) :: xs, by simp [e1], ?_, ?_⟩
    · intro x hx
      rcases List.mem_cons.1 hx with rfl | hx
      · have := h.2 0 (by omega)
        rwa [Nat.add_zero, getB t pos h0] at this
      · exact e2 x hx
    · rw [drop_at t pos h0, e3, show pos + 1 + k = pos + (k + 1) by omega]; rfl
theorem dec_high (t : ByteArray) (pos : Nat) (h : pos < t.size) (ha : 128 ≤ (t.get! pos).toNat) : 128 ≤ (Utf8.decode t pos).1 ∧ 1 ≤ (Utf8.decode t pos).2 ∧ Highs t pos (Utf8.decode t pos).2 := by
  rw [decode_at]
  generalize e0 : (t.get! pos).toNat = b0 at *
  generalize e1 : (t.get! (pos + 1)).toNat = b1
  generalize e2 : (t.get! (pos + 2)).toNat = b2
  generalize e3 : (t.get! (pos + 3)).toNat = b3
  have H : ∀ k, pos + k ≤ t.size → (k ≤ 4) → (2 ≤ k → 128 ≤ b1) → (3 ≤ k → 128 ≤ b2) → (4 ≤ k → 128 ≤ b3) → Highs t pos k := by
    intro k hk h4 g1 g2 g3
    refine ⟨hk, fun j hj => ?_⟩
    match j, hj with
    | 0, _ => rw [Nat.add_zero, e0]; exact ha
    | 1, _ => rw [e1]; exact g1 (by omega)
    | 2, _ => rw [e2]; exact g2 (by omega)
    | 3, _ => rw [e3]; exact g3 (by omega)
    | j + 4, hj => omega
  unfold decodeN
  rw [if_neg (by omega)]
  split
  · split
    · rename_i g _; refine ⟨by dsimp only; omega, by dsimp only; omega, H 2 (by omega) (by omega) (fun _ => by omega) (fun _ => by omega) (fun _ => by omega)⟩
    · exact ⟨by decide, by decide, H 1 (by omega) (by omega) (fun _ => by omega) (fun _ => by omega) (fun _ => by omega)⟩
  · split
    · split
      · rename_i g _; refine ⟨by dsimp only; omega, by dsimp only; omega, H 3 (by omega) (by omega) (fun _ => by omega) (fun _ => by omega) (fun _ => by omega)⟩
      · exact ⟨by decide, by decide, H 1 (by omega) (by omega) (fun _ => by omega) (fun _ => by omega) (fun _ => by omega)⟩
    · split
      · split
        · rename_i g _; refine ⟨by dsimp only; omega, by dsimp only; omega, H 4 (by omega) (by omega) (fun _ => by omega) (fun _ => by omega) (fun _ => by omega)⟩
        · exact ⟨by decide, by decide, H 1 (by omega) (by omega) (fun _ => by omega) (fun _ => by omega) (fun _ => by omega)⟩
      · exact ⟨by decide, by decide, H 1 (by omega) (by omega) (fun _ => by omega) (fun _ => by omega) (fun _ => by omega)⟩
/-- What the loop knows at a place: so much is cut, so much is held. -/
def CutTo (t : ByteArray) (fr pos : Nat) (A : List ByteArray) : Prop := fr ≤ pos ∧ pos ≤ t.size ∧ A.length ≤ pos ∧ A ++ cutL ((t.data.toList.drop fr).take (pos - fr)) (t.data.toList.drop pos) = cutB t
theorem cutTo_start (t : ByteArray) : CutTo t 0 0 [] := ⟨Nat.le_refl _, Nat.zero_le _, Nat.le_refl _, by simp [cutB]⟩
theorem cutTo_end {t : ByteArray} {fr pos : Nat} {A : List ByteArray} (h : CutTo t fr pos A) (hp : ¬ pos < t.size) : A = cutB t := by
  have := h.2.2.2
  have e : t.data.toList.drop pos = [] := List.drop_eq_nil_of_le (by rw [sz_list]; omega)
  rw [e] at this
  simpa [cutL] using this
theorem cutTo_high {t : ByteArray} {fr pos k : Nat} {A : List ByteArray} (h : CutTo t fr pos A) (hk : Highs t pos k) : CutTo t fr (pos + k) A := by
  obtain ⟨h1, h2, h3, h4⟩ := h
  obtain ⟨xs, e1, e2, e3⟩ := highs_split t k pos hk
  refine ⟨by omega, hk.1, by omega, ?_⟩
  rw [← h4, e3, cutL_high xs _ _ e2]
  congr 2
  have e4 : t.data.toList.drop fr = (t.data.toList.drop fr).take (pos - fr) ++ t.data.toList.drop pos := by
    conv => lhs; rw [← List.take_append_drop (pos - fr) (t.data.toList.drop fr)]
    rw [List.drop_drop, show fr + (pos - fr) = pos by omega]
  have e5 : ((t.data.toList.drop fr).take (pos - fr)).length = pos - fr := by rw [List.length_take, List.length_drop, sz_list]; omega
  generalize hX : (t.data.toList.drop fr).take (pos - fr) = X at e4 e5 ⊢
  rw [show pos + k - fr = (pos - fr) + k by omega, e4, List.take_append, e5, show pos - fr + k - (pos - fr) = k by omega, e3, List.take_of_length_le (l := X) (by omega), List.take_append_of_le_length (by omega), List.take_of_length_le (l := xs) (by omega)]
theorem cutTo_low {t : ByteArray} {fr pos : Nat} {A : List ByteArray} (h : CutTo t fr pos A) (hp : pos < t.size) (hb : (t[pos]'hp).toNat < 128) : CutTo t (pos + 1) (pos + 1) (A ++ [t.extract fr (pos + 1)]) := by
  obtain ⟨h1, h2, h3, h4⟩ := h
  refine ⟨Nat.le_refl _, by omega, by simp; omega, ?_⟩
  rw [← h4, drop_at t pos hp, cutL_low _ _ _ hb, Nat.sub_self, List.take_zero, List.append_assoc]
  congr 1
  show t.extract fr (pos + 1) :: cutL [] _ = _
  congr 1
  apply ByteArray.ext; apply Array.ext'
  rw [ByteArray.data_extract, Array.toList_extract, List.extract_eq_take_drop]
  show _ = (t.data.toList.drop fr).take (pos - fr) ++ [t[pos]'hp]
  have e4 : t.data.toList.drop fr = (t.data.toList.drop fr).take (pos - fr) ++ t.data.toList.drop pos := by
    conv => lhs; rw [← List.take_append_drop (pos - fr) (t.data.toList.drop fr)]
    rw [List.drop_drop, show fr + (pos - fr) = pos by omega]
  have e5 : ((t.data.toList.drop fr).take (pos - fr)).length = pos - fr := by rw [List.length_take, List.length_drop, sz_list]; omega
  generalize hX : (t.data.toList.drop fr).take (pos - fr) = X at e4 e5 ⊢
  rw [e4, drop_at t pos hp, List.take_append, e5, show pos + 1 - fr - (pos - fr) = 1 by omega, List.take_of_length_le (l := X) (by omega)]
  rfl
/-- An iterator's block, and a row of texts of its own beside it. -/
structure CbS (w : World) (I : Nat) (t : ByteArray) (pos : Nat) (v : Value) (A : List ByteArray) (x : World) : Prop where
  bel : Below w.heap.size w x
  it : x.heap[I]? = some (.stringIter t pos)
  own : x.ownsRow (I + 1) 9 1 v A.length (strRow A)
  hI : w.heap.size ≤ I
theorem CbS.lt {w : World} {I : Nat} {t : ByteArray} {pos : Nat} {v : Value} {A : List ByteArray} {x : World} (h : CbS w I t pos v A x) : I < x.heap.size := (Array.getElem?_eq_some_iff.1 h.it).1
theorem grown_iter (x : World) (I : Nat) (t : ByteArray) (pos : Nat) : x.grownBy (x.iterAt I t pos) (some I) :=
  ⟨rfl, rfl, rfl, by rw [iterAt_size]; exact Nat.le_refl _, fun g hg hne => iterAt_other x I g t pos (fun e => hne (by rw [e]))⟩
theorem CbS.next {w : World} {I : Nat} {t : ByteArray} {pos : Nat} {v : Value} {A : List ByteArray} {x : World} (h : CbS w I t pos v A x) (pos' : Nat) : CbS w I t pos' v A (x.iterAt I t pos') :=
  ⟨below_iterAt h.bel h.hI t pos', iterAt_heap x I t pos pos' h.it, ownR_grown h.own (grown_iter x I t pos') (fun g hg e => by have := (h.own.lt g hg).1; cases e; omega), h.hI⟩
theorem CbS.app {w : World} {I : Nat} {t : ByteArray} {pos : Nat} {v : Value} {A : List ByteArray} {x : World} (h : CbS w I t pos v A x) (s : ByteArray) (hl : A.length + 1 ≤ 1048576) :
    ∃ g c y, (Builtin.append_ #[23, 23] 23 #[v, .slice (some ⟨x.heap.size, 0, none⟩) 1 1]).run Tryz.prog (x.alloc (.cells #[.string s] 9)) = .ok (.slice (some ⟨g, 0, none⟩) (A.length + 1) c) y ∧ CbS w I t pos (.slice (some ⟨g, 0, none⟩) (A.length + 1) c) (A ++ [s]) y := by
  have hlt := h.lt
  obtain ⟨g, c, y, h1, h2, h3, h4⟩ := app_str x (I + 1) v A h.own s hl hlt
  have hnI : some I ≠ v.ownBlock := fun e => by have := (h.own.lt I e.symm).1; omega
  refine ⟨g, c, y, h1, ⟨?_, ?_, h2, h.hI⟩⟩
  · exact (h.bel.alloc h.bel.size _).grown h3 (by have := h.bel.size; rw [szA]; omega) (fun j hj => by have := (h.own.lt j hj).1; have := h.hI; omega)
  · rw [h3.block I (by rw [szA]; omega) hnI]
    have : (x.alloc (.cells #[.string s] 9)).heap[I]? = x.heap[I]? := ((Below.refl x.heap.size x).alloc (Nat.le_refl _) _).block I hlt
    rw [this]; exact h.it
set_option maxHeartbeats 4000000 in
theorem cutBehindLow_any (t : ByteArray) (w : World) (ht : t.size ≤ 8000) :
    Calls Tryz.prog 106 #[.string t] w fun e w' => ∃ p cap, e = .returned (.slice p (cutB t).length cap) ∧ (cutB t).length ≤ cap ∧ TxtAt w' p (cutB t) ∧ Below w.heap.size w w' := by
  obtain ⟨W1, hW1⟩ : ∃ W1, W1 = w.iter t 0 := ⟨_, rfl⟩
  have HW1 : Hid (W1 = w.iter t 0) := hW1
  have S0 : Hid (CbS w w.heap.size t 0 (.slice none 0 0) [] W1) := by
    refine ⟨?_, ?_, ?_, Nat.le_refl _⟩
    · rw [hW1]; exact (Below.refl _ _).alloc (Nat.le_refl _) _
    · rw [hW1]; exact World.iter_heap w t 0
    · exact ⟨rfl, .inl ⟨rfl, rfl⟩⟩
  clear hW1
  go_enter Tryz.func106, Tryz.ntmps106
  go_wp2_with fail
  rw [← HW1.out]
  clear HW1
  go_loopw [3, 4] (fun p f wr => ∃ (pos fr : Nat) (A : List ByteArray) (v : Value), p = v ∧ f = .int .i64 fr ∧ Hid (CutTo t fr pos A) ∧ Hid (CbS w w.heap.size t pos v A wr)) (fun _ _ wr => t.size - wr.iterPos w.heap.size)
  case atStart => exact ⟨0, 0, [], _, rfl, rfl, cutTo_start t, S0.out⟩
  case round =>
    obtain ⟨pos, fr, A, v, rfl, rfl, HC, HS⟩ := hrel
    have hit := HS.out.it
    obtain ⟨pp, cp, rfl, hcp, -⟩ := ownS_form HS.out.own
    by_cases hp : pos < t.size
    · have hnx : ∀ ty, (Instr.next (.pointer (some ⟨w.heap.size, 0, none⟩)) true ty).run Tryz.prog wr = _ := fun ty => run_next_any_at wr w.heap.size t pos ty hit hp
      by_cases ha : (t[pos]'hp).toNat < 128
      · have hd := decode_ascii t pos hp ha
        rw [hd] at hnx
        have h8 : (((t[pos]'hp).toNat : Nat) : Int) < 128 := by omega
        have HC2 : Hid (CutTo t (pos + 1) (pos + 1) (A ++ [t.extract fr (pos + 1)])) := cutTo_low HC.out hp ha
        have hfr := HC.out.1
        have hAl := HC.out.2.2.1
        obtain ⟨x, hx⟩ : ∃ x, x = wr.iterAt w.heap.size t (pos + 1) := ⟨_, rfl⟩
        have S1 : CbS w w.heap.size t (pos + 1) (.slice pp A.length cp) A x := by rw [hx]; exact HS.out.next (pos + 1)
        obtain ⟨g, c, y, hrun, S2⟩ := S1.app (t.extract fr (pos + 1)) (by omega)
        have HS2 : Hid (CbS w w.heap.size t (pos + 1) (.slice (some ⟨g, 0, none⟩) (A.length + 1) c) (A ++ [t.extract fr (pos + 1)]) y) := S2
        have hiy : wr.iterPos w.heap.size = pos := by unfold World.iterPos; rw [hit]
        have HM : Hid (t.size - y.iterPos w.heap.size < t.size - wr.iterPos w.heap.size) := by
          have : y.iterPos w.heap.size = pos + 1 := by unfold World.iterPos; rw [S2.it]
          show _ < _
          rw [this, hiy]; omega
        generalize (t[pos]'hp).toNat = b at *
        have hwr : IntKind.i64.wrap ((pos : Int) + 1) = (pos : Int) + 1 := by rw [IntKind.wrap_i64]; omega
        have hsl : ∀ wx, (Instr.slice 9 (.string t) (some (.int .i64 (fr : Int))) (some (.int .i64 ((pos : Int) + 1))) none).run Tryz.prog wx = .ok (.string (t.extract fr (pos + 1))) wx := fun wx => by
          have h := run_slice_string (P := Tryz.prog) wx 9 t .i64 .i64 (fr : Int) ((pos : Int) + 1) Tryz.underlying9 (by omega) (by omega) (by omega)
          rw [h]
          rfl
        rw [← hx] at hnx
        clear S1 S2 HS HC hit hiy hd hx
        go_wp2_with (at_builtin; refine wpList_append_run rfl _ _ _ rfl _ _ _ _ rfl rfl hrun ?_)
        go_roundw
        case rel => exact ⟨pos + 1, pos + 1, _, _, rfl, by go_num, HC2, HS2⟩
        case measure => exact HM.out
      · have hg : 128 ≤ (t.get! pos).toNat := by rw [getB t pos hp]; omega
        obtain ⟨d1, d2, d3⟩ := dec_high t pos hp hg
        generalize (Utf8.decode t pos).1 = R at *
        generalize (Utf8.decode t pos).2 = K at *
        have h8 : ¬ ((R : Int) < 128) := by omega
        have HC2 : Hid (CutTo t fr (pos + K) A) := cutTo_high HC.out d3
        have HS2 : Hid (CbS w w.heap.size t (pos + K) (.slice pp A.length cp) A (wr.iterAt w.heap.size t (pos + K))) := HS.out.next (pos + K)
        have hiy : wr.iterPos w.heap.size = pos := by unfold World.iterPos; rw [hit]
        have HM : Hid (t.size - (wr.iterAt w.heap.size t (pos + K)).iterPos w.heap.size < t.size - wr.iterPos w.heap.size) := by
          have : (wr.iterAt w.heap.size t (pos + K)).iterPos w.heap.size = pos + K := by unfold World.iterPos; rw [HS2.out.it]
          show _ < _
          rw [this, hiy]; omega
        clear HS HC hit hiy d1 d2 d3 hg ha
        go_wp2_with fail
        go_roundw
        case rel => exact ⟨pos + K, fr, A, _, rfl, rfl, HC2, HS2⟩
        case measure => exact HM.out
    · have hnx : ∀ ty, (Instr.next (.pointer (some ⟨w.heap.size, 0, none⟩)) true ty).run Tryz.prog wr = _ := fun ty => run_next_end_at wr w.heap.size t pos ty hit hp
      have hA := cutTo_end HC.out hp
      obtain ⟨p2, c2, e2, hc2, htx⟩ := ownS_form HS.out.own
      have HE : Hid (∃ p cap, Ending.returned (.slice pp A.length cp) = .returned (.slice p (cutB t).length cap) ∧ (cutB t).length ≤ cap ∧ TxtAt wr p (cutB t) ∧ Below w.heap.size w wr) := by
        rw [← hA]
        exact ⟨p2, c2, by rw [e2], hc2, htx, HS.out.bel⟩
      clear HS HC hA htx hc2 e2 hit
      go_wp2_with fail
      go_ret
      exact HE.out
end Go.Proofs.YtpijadhfdpihkaaGreatDoor
