/-
  What GetText answers, in the program and in the specification: 'getTV' of the text and the place.
  Conditions: the string fits the form's own reach; the place is an int64; for the program's: the variable errors.errorType holds the handle of the type error.
-/
import Derived.Test.YtfjiidicnimeeaaDoorRows
import Derived.Test.YtfjiidicnimeeaaDoorBytes
import Derived.Test.YtfjiidicnimeeaaDoorScanMath
import Derived.Test.YtfjiidicnimeeaaDoorGetNumI
import Derived.Test.YtfjiidicnimeeaaDoorJoined
import Derived.Handy
import Derived.WalkSpells
import Derived.Deep.RegionHeld3
namespace Go.Proofs.YtfjiidicnimeeaaDoor
open Go.RowKit Go.Extern.Stop Go.Stop Go.Extern
set_option linter.unusedVariables false

def txt (t : ByteArray) (a c : Int) : Value := .agg #[.string t, .int .i64 a, .int .i64 c]
def getTV (s : ByteArray) (a : Int) : Value :=
  if (getN s a).2.2 ≠ 0 then txt ByteArray.empty 0 (getN s a).2.2
  else if (getN s a).1 < 0 ∨ 8000 < (getN s a).1 then txt ByteArray.empty 0 3
  else if (s.size : Int) < (getN s a).2.1 + (getN s a).1 then txt ByteArray.empty 0 4
  else txt (s.extract (getN s a).2.1.toNat ((getN s a).2.1 + (getN s a).1).toNat) ((getN s a).2.1 + (getN s a).1) 0

theorem held_free {w1 w2 : World} {cs : Array Value} {T : TypeId} (hb : Below (w1.alloc (.cells cs T)).heap.size (w1.alloc (.cells cs T)) w2) (o : Obj) (i : Nat) :
    (w2.alloc o).frozen? ⟨w1.heap.size, i, none⟩ = false := by
  have h1 : (w1.alloc (.cells cs T)).heap.size ≤ w2.heap.size := hb.size
  have hlt : w1.heap.size < w2.heap.size := by simp at h1; omega
  have h2 : (w2.alloc o).frozen? ⟨w1.heap.size, i, none⟩ = w2.frozen? ⟨w1.heap.size, i, none⟩ :=
    ((Below.refl _ _).alloc (Nat.le_refl _) o : Below w2.heap.size w2 (w2.alloc o)).frozen (p := ⟨w1.heap.size, i, none⟩) hlt
  rw [h2, hb.frozen (p := ⟨w1.heap.size, i, none⟩) (by simp)]
  have e := (MapKept.heap_alloc w1 (.cells cs T)).1
  unfold World.frozen?
  rw [e]
  simp

theorem unfoldN_bd {u : Int} (h0 : 0 ≤ u) (h1 : u ≤ 18446744073709551615) : -9223372036854775808 ≤ unfoldN u ∧ unfoldN u ≤ 9223372036854775807 := by
  unfold unfoldN; split <;> omega
theorem getN_ok {s : ByteArray} {a n b : Int} (h : getN s a = (n, b, 0)) : 0 ≤ b ∧ b ≤ s.size ∧ s.size ≤ 8000 ∧ -9223372036854775808 ≤ n ∧ n ≤ 9223372036854775807 := by
  unfold getN at h
  split at h
  · cases h
  · split at h
    · cases h
    · rename_i h8 h0
      split at h
      · rename_i hc
        rcases scanAt_bd s a.toNat with hb | hb
        · have hu := unfoldN_bd hb.2.1 hb.2.2.1
          have hz := hb.2.2.2.2
          cases h
          omega
        · have := hb.1; omega
      · rename_i hc
        have h3 := congrArg (fun x : Int × Int × Int => x.2.2) h
        exact absurd h3 hc

theorem getTV_bad {s : ByteArray} {a c : Int} (h : getN s a = (0, 0, c)) (hc : c ≠ 0) : getTV s a = txt ByteArray.empty 0 c := by unfold getTV; rw [h, if_pos hc]
theorem getTV_syn {s : ByteArray} {a n b : Int} (h : getN s a = (n, b, 0)) (hn : n < 0 ∨ 8000 < n) : getTV s a = txt ByteArray.empty 0 3 := by
  unfold getTV; rw [h, if_neg (by simp), if_pos hn]
theorem getTV_short {s : ByteArray} {a n b : Int} (h : getN s a = (n, b, 0)) (hn : ¬ (n < 0 ∨ 8000 < n)) (hl : (s.size : Int) < b + n) : getTV s a = txt ByteArray.empty 0 4 := by
  unfold getTV; rw [h, if_neg (by simp), if_neg hn, if_pos hl]
theorem getTV_ok {s : ByteArray} {a n b : Int} (h : getN s a = (n, b, 0)) (hn : ¬ (n < 0 ∨ 8000 < n)) (hl : ¬ (s.size : Int) < b + n) : getTV s a = txt (s.extract b.toNat (b + n).toNat) (b + n) 0 := by
  unfold getTV; rw [h, if_neg (by simp), if_neg hn, if_neg hl]

def rtBad (c : Int) : Value := .tuple #[.string ByteArray.empty, .int .i64 0, .iface 54 (.agg #[.int .i64 c])]
def rtOk (t : ByteArray) (a : Int) : Value := .tuple #[.string t, .int .i64 a, .nilIface]
/-- What readText hands back, and GetText's answer beside it. -/
def ReadsTo (s : ByteArray) (a : Int) (v : Value) : Prop :=
  (∃ c, v = rtBad c ∧ getTV s a = txt ByteArray.empty 0 c) ∨ (∃ t b, v = rtOk t b ∧ getTV s a = txt t b 0)

set_option maxHeartbeats 2000000 in
theorem readText_any (s : ByteArray) (at0 : Int) (w : World) (hs : s.size ≤ maxLen) (h1 : at0 ≤ 9223372036854775807) :
    Calls Tryd.prog 21 #[.string s, .int .i64 at0] w fun e w' => (∃ v, e = .returned v ∧ ReadsTo s at0 v) ∧ Below w.heap.size w w' := by
  rcases getN_cases s at0 with ⟨n, b, hgn⟩ | ⟨c, hc, hgn⟩
  · obtain ⟨b0, b1, hs8, n0, n1⟩ := getN_ok hgn
    have HRN : Hid (rnV s at0 = .tuple #[.int .i64 n, .int .i64 b, .nilIface]) := rnV_okk hgn
    by_cases hn0 : n < 0
    · have H : Hid (getTV s at0 = txt ByteArray.empty 0 3) := getTV_syn hgn (.inl hn0)
      have d1 : decide (n < 0) = true := by simp; omega
      clear hgn
      go_enter Tryd.func21, Tryd.ntmps21
      go_wp2_with (go_at_call 15; refine (readNum_any _ _ _ hs h1).mono ?_; rintro e w1 ⟨rfl, hw⟩; rw [HRN.out]; subst hw)
      go_ret3
      exact ⟨⟨_, rfl, .inl ⟨3, rfl, H.out⟩⟩, Below.refl _ _⟩
    have d1 : decide (n < 0) = false := by simp; omega
    by_cases hn1 : 8000 < n
    · have H : Hid (getTV s at0 = txt ByteArray.empty 0 3) := getTV_syn hgn (.inr hn1)
      have d2 : decide (8000 < n) = true := by simp; omega
      clear hgn
      go_enter Tryd.func21, Tryd.ntmps21
      go_wp2_with (go_at_call 15; refine (readNum_any _ _ _ hs h1).mono ?_; rintro e w1 ⟨rfl, hw⟩; rw [HRN.out]; subst hw)
      go_ret3
      exact ⟨⟨_, rfl, .inl ⟨3, rfl, H.out⟩⟩, Below.refl _ _⟩
    have d2 : decide (8000 < n) = false := by simp; omega
    by_cases hl : (s.size : Int) < b + n
    · have H : Hid (getTV s at0 = txt ByteArray.empty 0 4) := getTV_short hgn (by omega) hl
      clear hgn
      go_enter Tryd.func21, Tryd.ntmps21
      go_wp2_with (go_at_call 15; refine (readNum_any _ _ _ hs h1).mono ?_; rintro e w1 ⟨rfl, hw⟩; rw [HRN.out]; subst hw)
      go_ret3
      exact ⟨⟨_, rfl, .inl ⟨4, rfl, H.out⟩⟩, Below.refl _ _⟩
    · have H : Hid (getTV s at0 = txt (s.extract b.toNat (b + n).toNat) (b + n) 0) := getTV_ok hgn (by omega) hl
      have hsz : (s.extract b.toNat (b + n).toNat).size ≤ 8000 := by simp; omega
      have hsl := fun wx => run_slice_string (P := Tryd.prog) wx 9 s .i64 .i64 b (b + n) Tryd.underlying9 (by omega) (by omega) (by omega)
      clear hgn
      go_enter Tryd.func21, Tryd.ntmps21
      go_wp2_with (first | (go_at_call 15; refine (readNum_any _ _ _ hs h1).mono ?_; rintro e w1 ⟨rfl, hw⟩; rw [HRN.out]; subst hw) | (go_at_call 20; refine (joined_one _ _ (by omega)).mono ?_; rintro e w2 ⟨rfl, hb2⟩))
      go_ret3
      exact ⟨⟨_, rfl, .inr ⟨_, _, rfl, H.out⟩⟩, hb2⟩
  · have HRN : Hid (rnV s at0 = .tuple #[.int .i64 0, .int .i64 0, .iface 54 (.agg #[.int .i64 c])]) := rnV_of hgn hc
    have H : Hid (getTV s at0 = txt ByteArray.empty 0 c) := getTV_bad hgn hc
    clear hgn hc
    go_enter Tryd.func21, Tryd.ntmps21
    go_wp2_with (go_at_call 15; refine (readNum_any _ _ _ hs h1).mono ?_; rintro e w1 ⟨rfl, hw⟩; rw [HRN.out]; subst hw)
    go_ret3
    exact ⟨⟨_, rfl, .inl ⟨c, rfl, H.out⟩⟩, Below.refl _ _⟩

set_option maxHeartbeats 2000000 in
theorem implGetText_any (s : ByteArray) (at0 : Int) (w : World) (hs : s.size ≤ maxLen) (h1 : at0 ≤ 9223372036854775807) (hg : Laid w) :
    Calls Tryd.prog 11 #[.string s, .int .i64 at0] w fun e w' => e = .returned (getTV s at0) ∧ Below w.heap.size w w' := by
  have HG : Hid (Laid w) := hg
  clear hg
  go_enter Tryd.func11, Tryd.ntmps11
  go_wp2_with fail
  refine (readText_any _ _ _ hs h1).mono ?_
  rintro e w1 ⟨⟨v, rfl, hv⟩, hb1⟩
  have hq : Below w.heap.size w w1 := ((Below.refl _ _).alloc (Nat.le_refl _) _).trans (hb1.mono (by simp))
  have HL : Hid (Laid w1) := HG.out.below hq
  rcases hv with ⟨c, hv, hT⟩ | ⟨t, b, hv, hT⟩
  · have HT : Hid (getTV s at0 = txt ByteArray.empty 0 c) := hT
    have hv' : v = .tuple #[.string ByteArray.empty, .int .i64 0, .iface 54 (.agg #[.int .i64 c])] := hv
    clear hT hv
    rw [hv']
    clear hv'
    go_wp2_with fail
    refine (codeOf_hit _ _ HL.out).mono ?_
    rintro e w2 ⟨rfl, hb2⟩
    have hb3 := hb1.trans (hb2.mono hb1.size)
    obtain ⟨hcc, hff⟩ := bcell hb3
    have hz : w.heap.size + 1 ≤ w2.heap.size := by have := hb3.size; simp at this; omega
    clear hb1 hb2 hq HL HG
    go_wp2_with fail
    refine bodyPost_ret (v := txt ByteArray.empty 0 c) (by simp [txt, results, Tryd.results11, go_sem, hcc]) rfl ⟨ret_valN HT.out.symm, ?_⟩
    exact (((((Below.refl _ _).alloc (Nat.le_refl _) _).trans (hb3.mono (by simp))).setCell (Nat.le_refl _) _).setCell (Nat.le_refl _) _).setCell (Nat.le_refl _) _
  · have HT : Hid (getTV s at0 = txt t b 0) := hT
    have hv' : v = .tuple #[.string t, .int .i64 b, .nilIface] := hv
    clear hT hv
    rw [hv']
    clear hv'
    go_wp2_with fail
    refine (codeOf_nil _).mono ?_
    rintro e w2 ⟨rfl, hb2⟩
    have hb3 := hb1.trans (hb2.mono hb1.size)
    obtain ⟨hcc, hff⟩ := bcell hb3
    have hz : w.heap.size + 1 ≤ w2.heap.size := by have := hb3.size; simp at this; omega
    clear hb1 hb2 hq HL HG
    go_wp2_with fail
    refine bodyPost_ret (v := txt t b 0) (by simp [txt, results, Tryd.results11, go_sem, hcc]) rfl ⟨ret_valN HT.out.symm, ?_⟩
    exact (((((Below.refl _ _).alloc (Nat.le_refl _) _).trans (hb3.mono (by simp))).setCell (Nat.le_refl _) _).setCell (Nat.le_refl _) _).setCell (Nat.le_refl _) _

theorem getTV_agg (s : ByteArray) (a : Int) : ∃ t b c, getTV s a = .agg #[.string t, .int .i64 b, .int .i64 c] := by
  unfold getTV; split
  · exact ⟨_, _, _, rfl⟩
  · split
    · exact ⟨_, _, _, rfl⟩
    · split
      · exact ⟨_, _, _, rfl⟩
      · exact ⟨_, _, _, rfl⟩
end Go.Proofs.YtfjiidicnimeeaaDoor
