/-
  Parts of one proof, laid as one text: RdNumI, RdTextI, ImplBr; what each says stands at its head.
-/
import Derived.Test.YtnomkcbcjaagmabGreatDoorRows
import Derived.Test.YtnomkcbcjaagmabGreatDoorBytesDigMath
import Derived.Test.YtnomkcbcjaagmabGreatDoorScanMathGetValGetTxtSpecGN
import Derived.Test.YtnomkcbcjaagmabGreatDoorReadBits
import Derived.Handy
import Derived.Test.YtnomkcbcjaagmabGreatDoorJoinedPutTextFldMath
import Derived.WalkSpells
import Derived.Deep.RegionHeld3
import Derived.Test.YtnomkcbcjaagmabGreatDoorSlASlBOwnS
import Derived.Test.YtnomkcbcjaagmabGreatDoorBxKGrKTakesSrc
import Derived.Test.YtnomkcbcjaagmabGreatDoorSpecGTTillTwoFldRd
import Derived.OwnWalk
import Derived.Deep.RegionLaw
import Derived.Deep.Cut
import Derived.Deep.CutRange
import Derived.Deep.RegionWith
/-
  What the program's readNum answers.
  Conditions: the string fits the form's own reach; the place is an int64.
-/
namespace Go.Proofs.YtnomkcbcjaagmabGreatDoor
open Go.RowKit Go.Extern.Stop Go.Stop Go.Extern
set_option linter.unusedVariables false

def rnBad (c : Int) : Value := .tuple #[.int .i64 0, .int .i64 0, .iface 170 (.agg #[.int .i64 c])]
def rnOk (n a : Int) : Value := .tuple #[.int .i64 n, .int .i64 a, .nilIface]
def rnV (s : ByteArray) (a : Int) : Value := if (getN s a).2.2 = 0 then rnOk (getN s a).1 (getN s a).2.1 else rnBad (getN s a).2.2

theorem rnV_of {s : ByteArray} {a c : Int} (h : getN s a = (0, 0, c)) (hc : c ≠ 0) : rnV s a = rnBad c := by unfold rnV; rw [h, if_neg hc]
theorem rnV_okk {s : ByteArray} {a n b : Int} (h : getN s a = (n, b, 0)) : rnV s a = rnOk n b := by unfold rnV; rw [h, if_pos rfl]
set_option maxRecDepth 20000 in
set_option maxHeartbeats 2000000 in
theorem readNum_any (s : ByteArray) (at0 : Int) (w : World) (hs : s.size ≤ maxLen) (h1 : at0 ≤ 9223372036854775807) :
    Calls Tryz.prog 144 #[.string s, .int .i64 at0] w fun e w' => e = .returned (rnV s at0) ∧ w' = w := by
  unfold maxLen at hs
  by_cases hb : 8000 < s.size
  · have H : Hid (rnV s at0 = rnBad 2) := rnV_of (by unfold getN; rw [if_pos hb]) (by decide)
    go_enter Tryz.func144, Tryz.ntmps144
    go_wp2_with fail
    go_ret3
    exact ⟨ret_valN (H.out.trans rfl).symm, rfl⟩
  by_cases h0 : at0 < 0
  · have H : Hid (rnV s at0 = rnBad 1) := rnV_of (by unfold getN; rw [if_neg hb, if_pos h0]) (by decide)
    go_enter Tryz.func144, Tryz.ntmps144
    go_wp2_with fail
    go_ret3
    exact ⟨ret_valN (H.out.trans rfl).symm, rfl⟩
  obtain ⟨a, ha⟩ : ∃ a : Nat, at0 = a := ⟨at0.toNat, by omega⟩
  subst ha
  rcases scanAt_bd s a with hbd | hbd
  · obtain ⟨c, u, k, hsc⟩ : ∃ c u k, scanAt s a = (c, u, k) := ⟨_, _, _, rfl⟩
    rw [hsc] at hbd
    have hc0 : c = 0 := hbd.1
    subst hc0
    have u0' : 0 ≤ u := hbd.2.1
    have u1' : u ≤ 18446744073709551615 := hbd.2.2.1
    have HRB : Hid (rbV s a = .tuple #[.int .u64 u, .int .i64 ((a : Int) + (k : Int)), .nilIface]) := rbV_ok hsc
    have H : Hid (rnV s (a : Int) = rnOk (unfoldN u) ((a : Int) + (k : Int))) := rnV_okk (by unfold getN; rw [if_neg hb, if_neg h0, Int.toNat_natCast, hsc, if_pos rfl])
    have HA : Hid (bits .and .u64 u 1 = u % 2) := and1 u u0' (by omega)
    clear hbd hsc
    cases hp : (bits .and .u64 u 1 == 1)
    · have HU : Hid (unfoldN u = u / 2) := if_neg (by rw [HA.out] at hp; simp at hp; omega)
      go_enter Tryz.func144, Tryz.ntmps144
      go_wp2_with (go_at_call 164; refine (readBits_any _ _ _ (by omega) h1).mono ?_; rintro e w1 ⟨rfl, hw⟩; rw [HRB.out]; subst hw)
      go_ret3
      exact ⟨ret_valN (by rw [H.out, HU.out]; rfl), rfl⟩
    · have HU : Hid (unfoldN u = -(u / 2) - 1) := if_pos (by rw [HA.out] at hp; simpa using hp)
      have HN : Hid (bits .xor .i64 (-1) (u / 2) = -(u / 2) - 1) := not64 (u / 2) (by omega) (by omega)
      go_enter Tryz.func144, Tryz.ntmps144
      go_wp2_with (go_at_call 164; refine (readBits_any _ _ _ (by omega) h1).mono ?_; rintro e w1 ⟨rfl, hw⟩; rw [HRB.out]; subst hw)
      go_ret3
      exact ⟨ret_valN (by rw [H.out, HU.out, ← HN.out]; rfl), rfl⟩
  · obtain ⟨c, u, k, hsc⟩ : ∃ c u k, scanAt s a = (c, u, k) := ⟨_, _, _, rfl⟩
    rw [hsc] at hbd
    obtain ⟨hc34, hu0, hk0⟩ := hbd
    have e1 : u = 0 := hu0
    have e2 : k = 0 := hk0
    subst e1 e2
    have hc : c ≠ 0 := by have : c = 3 ∨ c = 4 := hc34; omega
    have HRB : Hid (rbV s a = .tuple #[.int .u64 0, .int .i64 0, .iface 170 (.agg #[.int .i64 c])]) := rbV_bad ⟨hc, hsc⟩
    have H : Hid (rnV s (a : Int) = rnBad c) := rnV_of (by unfold getN; rw [if_neg hb, if_neg h0, Int.toNat_natCast, hsc, if_neg hc]) hc
    clear hsc hc34 hu0 hk0 hc
    go_enter Tryz.func144, Tryz.ntmps144
    go_wp2_with (go_at_call 164; refine (readBits_any _ _ _ (by omega) h1).mono ?_; rintro e w1 ⟨rfl, hw⟩; rw [HRB.out]; subst hw)
    go_ret3
    exact ⟨ret_valN (H.out.trans rfl).symm, rfl⟩
end Go.Proofs.YtnomkcbcjaagmabGreatDoor
/-
  What the program's readText answers.
  Conditions: the string fits the form's own reach; the place is an int64.
-/
namespace Go.Proofs.YtnomkcbcjaagmabGreatDoor
open Go.RowKit Go.Extern.Stop Go.Stop Go.Extern
set_option linter.unusedVariables false

def rtBad (c : Int) : Value := .tuple #[.string ByteArray.empty, .int .i64 0, .iface 170 (.agg #[.int .i64 c])]
def rtOk (t : ByteArray) (a : Int) : Value := .tuple #[.string t, .int .i64 a, .nilIface]
/-- What readText hands back, and GetText's answer beside it. -/
def ReadsTo (s : ByteArray) (a : Int) (v : Value) : Prop :=
  (∃ c, c ≠ 0 ∧ v = rtBad c ∧ getTV s a = txt ByteArray.empty 0 c) ∨ (∃ t b, v = rtOk t b ∧ getTV s a = txt t b 0)

set_option maxHeartbeats 2000000 in
theorem readText_any (s : ByteArray) (at0 : Int) (w : World) (hs : s.size ≤ maxLen) (h1 : at0 ≤ 9223372036854775807) :
    Calls Tryz.prog 143 #[.string s, .int .i64 at0] w fun e w' => (∃ v, e = .returned v ∧ ReadsTo s at0 v) ∧ Below w.heap.size w w' := by
  rcases getN_cases s at0 with ⟨n, b, hgn⟩ | ⟨c, hc, hgn⟩
  · obtain ⟨b0, b1, hs8, n0, n1⟩ := getN_ok hgn
    have HRN : Hid (rnV s at0 = .tuple #[.int .i64 n, .int .i64 b, .nilIface]) := rnV_okk hgn
    by_cases hn0 : n < 0
    · have H : Hid (getTV s at0 = txt ByteArray.empty 0 3) := getTV_syn hgn (.inl hn0)
      have d1 : decide (n < 0) = true := by simp; omega
      clear hgn
      go_enter Tryz.func143, Tryz.ntmps143
      go_wp2_with (go_at_call 144; refine (readNum_any _ _ _ hs h1).mono ?_; rintro e w1 ⟨rfl, hw⟩; rw [HRN.out]; subst hw)
      go_ret3
      exact ⟨⟨_, rfl, .inl ⟨3, by decide, rfl, H.out⟩⟩, Below.refl _ _⟩
    have d1 : decide (n < 0) = false := by simp; omega
    by_cases hn1 : 8000 < n
    · have H : Hid (getTV s at0 = txt ByteArray.empty 0 3) := getTV_syn hgn (.inr hn1)
      have d2 : decide (8000 < n) = true := by simp; omega
      clear hgn
      go_enter Tryz.func143, Tryz.ntmps143
      go_wp2_with (go_at_call 144; refine (readNum_any _ _ _ hs h1).mono ?_; rintro e w1 ⟨rfl, hw⟩; rw [HRN.out]; subst hw)
      go_ret3
      exact ⟨⟨_, rfl, .inl ⟨3, by decide, rfl, H.out⟩⟩, Below.refl _ _⟩
    have d2 : decide (8000 < n) = false := by simp; omega
    by_cases hl : (s.size : Int) < b + n
    · have H : Hid (getTV s at0 = txt ByteArray.empty 0 4) := getTV_short hgn (by omega) hl
      clear hgn
      go_enter Tryz.func143, Tryz.ntmps143
      go_wp2_with (go_at_call 144; refine (readNum_any _ _ _ hs h1).mono ?_; rintro e w1 ⟨rfl, hw⟩; rw [HRN.out]; subst hw)
      go_ret3
      exact ⟨⟨_, rfl, .inl ⟨4, by decide, rfl, H.out⟩⟩, Below.refl _ _⟩
    · have H : Hid (getTV s at0 = txt (s.extract b.toNat (b + n).toNat) (b + n) 0) := getTV_ok hgn (by omega) hl
      have hsz : (s.extract b.toNat (b + n).toNat).size ≤ 8000 := by simp; omega
      have hsl := fun wx => run_slice_string (P := Tryz.prog) wx 9 s .i64 .i64 b (b + n) Tryz.underlying9 (by omega) (by omega) (by omega)
      clear hgn
      go_enter Tryz.func143, Tryz.ntmps143
      go_wp2_with (first | (go_at_call 144; refine (readNum_any _ _ _ hs h1).mono ?_; rintro e w1 ⟨rfl, hw⟩; rw [HRN.out]; subst hw) | (go_at_call 71; refine (joined_one _ _ (by omega)).mono ?_; rintro e w2 ⟨rfl, hb2⟩))
      go_ret3
      exact ⟨⟨_, rfl, .inr ⟨_, _, rfl, H.out⟩⟩, hb2⟩
  · have HRN : Hid (rnV s at0 = .tuple #[.int .i64 0, .int .i64 0, .iface 170 (.agg #[.int .i64 c])]) := rnV_of hgn hc
    have H : Hid (getTV s at0 = txt ByteArray.empty 0 c) := getTV_bad hgn hc
    have HC : Hid (c ≠ 0) := hc
    clear hgn hc
    go_enter Tryz.func143, Tryz.ntmps143
    go_wp2_with (go_at_call 144; refine (readNum_any _ _ _ hs h1).mono ?_; rintro e w1 ⟨rfl, hw⟩; rw [HRN.out]; subst hw)
    go_ret3
    exact ⟨⟨_, rfl, .inl ⟨c, HC.out, rfl, H.out⟩⟩, Below.refl _ _⟩
end Go.Proofs.YtnomkcbcjaagmabGreatDoor
/-
  What the program's bytesReader reads: a number, a text, up to the first fault.
  Conditions: the reader's bytes are at most 8000.
-/
namespace Go.Proofs.YtnomkcbcjaagmabGreatDoor
open Go.RowKit Go.Lib
set_option linter.unusedVariables false
set_option maxRecDepth 20000

/-- A reader: what it reads, where it stands, whether a fault was met (then the place counts no more). -/
def Rdr (w : World) (P : Nat) (t : ByteArray) (a : Int) (bd : Bool) : Prop := ∃ a' ev, Bxs w P 163 #[.string t, .int .i64 a', ev] ∧ (bd = false → a' = a ∧ ev = .nilIface) ∧ (bd = true → ∃ c, ev = .iface 170 (.agg #[.int .i64 c]))
theorem Rdr.below {w w' : World} {P : Nat} {t : ByteArray} {a : Int} {bd : Bool} (h : Rdr w P t a bd) (hb : Below w.heap.size w w') : Rdr w' P t a bd := by
  obtain ⟨a', ev, h1, h2, h3⟩ := h
  exact ⟨a', ev, h1.below hb, h2, h3⟩
theorem Rdr.other {w : World} {P : Nat} {t : ByteArray} {a : Int} {bd : Bool} (h : Rdr w P t a bd) (g i : Nat) (hne : g ≠ P) (v : Value) : Rdr (w.setCell ⟨g, i, none⟩ v) P t a bd := by
  obtain ⟨a', ev, h1, h2, h3⟩ := h
  exact ⟨a', ev, h1.other g i hne v, h2, h3⟩
/-- What readText hands back. -/
def rdV (t : ByteArray) (a : Int) : Value := if (getT t a).2.2 = 0 then .tuple #[.string (getT t a).1, .int .i64 (getT t a).2.1, .nilIface] else .tuple #[.string ByteArray.empty, .int .i64 0, .iface 170 (.agg #[.int .i64 (getT t a).2.2])]
theorem getT_of {t : ByteArray} {a : Int} {x : ByteArray} {b c : Int} (h : getTV t a = txt x b c) : getT t a = (x, b, c) := by
  rw [getT_val] at h
  unfold txt at h
  injection h with h1
  have h2 : [Value.string (getT t a).1, .int .i64 (getT t a).2.1, .int .i64 (getT t a).2.2] = [.string x, .int .i64 b, .int .i64 c] := congrArg Array.toList h1
  simp only [List.cons.injEq, Value.string.injEq, Value.int.injEq, true_and, and_true] at h2
  obtain ⟨e1, e2, e3⟩ := h2
  exact Prod.ext e1 (Prod.ext e2 e3)
theorem rdV_of {t : ByteArray} {a : Int} {v : Value} (h : ReadsTo t a v) : v = rdV t a := by
  rcases h with ⟨c, hc, rfl, h⟩ | ⟨x, b, rfl, h⟩
  · have e := getT_of h
    unfold rdV; rw [e, if_neg hc]; rfl
  · have e := getT_of h
    unfold rdV; rw [e, if_pos rfl]; rfl
theorem rdV_cases (t : ByteArray) (a : Int) : (∃ n b, rdV t a = .tuple #[.string n, .int .i64 b, .nilIface] ∧ rtB t a false = false ∧ rtT t a false = n ∧ rtA t a false = b) ∨ (∃ c, rdV t a = .tuple #[.string ByteArray.empty, .int .i64 0, .iface 170 (.agg #[.int .i64 c])] ∧ rtB t a false = true) := by
  by_cases h : (getT t a).2.2 = 0
  · left
    have hB : rtB t a false = false := by show (_ || _) = _; rw [h]; rfl
    refine ⟨(getT t a).1, (getT t a).2.1, by unfold rdV; rw [if_pos h], hB, ?_, ?_⟩
    · show (if _ then _ else _) = _; rw [hB]; rfl
    · show (if _ then _ else _) = _; rw [hB]; rfl
  · right
    exact ⟨(getT t a).2.2, by unfold rdV; rw [if_neg h], by show (_ || _) = _; exact bne_iff_ne.2 h⟩
set_option maxHeartbeats 4000000 in
theorem brNum_any (P : Nat) (t : ByteArray) (a : Int) (bd : Bool) (w : World) (hp : Rdr w P t a bd) (ht : t.size ≤ 8000) (a1 : a ≤ 9223372036854775807) :
    Calls Tryz.prog 116 #[.pointer (some ⟨P, 0, none⟩)] w fun e w' => e = .returned (.int .i64 (rnN t a bd)) ∧ Rdr w' P t (rnA t a bd) (rnB t a bd) ∧ w.grownBy w' (some P) := by
  obtain ⟨a', ev, hb, h1, h2⟩ := hp
  cases bd with
  | true =>
    obtain ⟨c, rfl⟩ := h2 rfl
    have HE : Hid (Rdr w P t (rnA t a true) (rnB t a true)) := ⟨a', _, hb, (fun h => by cases h), fun _ => ⟨c, rfl⟩⟩
    have HN : Hid (rnN t a true = 0) := rfl
    have p2 : w.cell? ⟨P, 2, none⟩ = some (.iface 170 (.agg #[.int .i64 c])) := hb.cell 2
    rw [HN.out]
    clear hb h1 h2
    go_enter Tryz.func116, Tryz.ntmps116
    go_wp2_with fail
    go_ret
    exact ⟨rfl, HE.out, World.grownBy.refl _ _⟩
  | false =>
    obtain ⟨rfl, rfl⟩ := h1 rfl
    have HP : Hid (Bxs w P 163 #[.string t, .int .i64 a', .nilIface]) := hb
    obtain ⟨p0, p1, p2⟩ : w.cell? ⟨P, 0, none⟩ = some (.string t) ∧ w.cell? ⟨P, 1, none⟩ = some (.int .i64 a') ∧ w.cell? ⟨P, 2, none⟩ = some .nilIface := ⟨hb.cell 0, hb.cell 1, hb.cell 2⟩
    have BR : Hid (Below w.heap.size w w.drew) := (Below.refl _ _).drew
    clear hb h1 h2
    rcases getN_cases t a' with ⟨n, b, hg⟩ | ⟨c, hc, hg⟩
    · have HRd : Hid (∀ x, Calls Tryz.prog 144 #[.string t, .int .i64 a'] x fun e w' => e = .returned (.tuple #[.int .i64 n, .int .i64 b, .nilIface]) ∧ Below x.heap.size x w') := fun x => (readNum_any t a' x (by unfold maxLen; omega) a1).mono (by rintro e w' ⟨he, rfl⟩; exact ⟨by rw [he, rnV_okk hg]; rfl, Below.refl _ _⟩)
      have HB : Hid (rnB t a' false = false) := by show (_ || _) = _; rw [hg]; rfl
      have HN : Hid (rnN t a' false = n) := by show (if _ then _ else _) = _; rw [HB.out, hg]; rfl
      have HA : Hid (rnA t a' false = b) := by show (if _ then _ else _) = _; rw [HB.out, hg]; rfl
      clear hg
      have HF : Hid (∀ y : World, Below w.heap.size w y → Rdr ((y.setCell ⟨P, 1, none⟩ (.int .i64 b)).setCell ⟨P, 2, none⟩ .nilIface) P t (rnA t a' false) (rnB t a' false) ∧ w.grownBy ((y.setCell ⟨P, 1, none⟩ (.int .i64 b)).setCell ⟨P, 2, none⟩ .nilIface) (some P)) := fun y hy => by
        refine ⟨?_, grown_set (grown_set (grown_below hy) _ _) _ _⟩
        have hk : Bxs ((y.setCell ⟨P, 1, none⟩ (.int .i64 b)).setCell ⟨P, 2, none⟩ .nilIface) P 163 #[.string t, .int .i64 b, .nilIface] := ((HP.out.below hy).set 1 _).set 2 _
        rw [HB.out, HA.out]
        exact ⟨b, _, hk, fun _ => ⟨rfl, rfl⟩, (fun h => by cases h)⟩
      have HC : Hid (∀ y, Below w.heap.size w y → y.cell? ⟨P, 1, none⟩ = some (.int .i64 a') ∧ y.cell? ⟨P, 2, none⟩ = some .nilIface ∧ y.frozen? ⟨P, 1, none⟩ = false ∧ y.frozen? ⟨P, 2, none⟩ = false) := fun y hy => ⟨(HP.out.below hy).cell 1, (HP.out.below hy).cell 2, (HP.out.below hy).fr 1, (HP.out.below hy).fr 2⟩
      rw [HN.out]
      clear HB HA HN HP
      go_enter Tryz.func116, Tryz.ntmps116
      go_upto_region 4 with fail
      go_region_law ((go_simp; go_at_call 144; refine (HRd.out _).mono ?_; rintro e y ⟨rfl, zq⟩; have zy : Below w.heap.size w y := (by first | exact zq | exact chainB BR.out zq); obtain ⟨q1, q2, g1, g2⟩ := HC.out y zy))
      all_goals
        have HE := HF.out y zy
        go_wp2_with fail
        go_ret
        exact ⟨rfl, HE⟩
    · have HRd : Hid (∀ x, Calls Tryz.prog 144 #[.string t, .int .i64 a'] x fun e w' => e = .returned (.tuple #[.int .i64 0, .int .i64 0, .iface 170 (.agg #[.int .i64 c])]) ∧ Below x.heap.size x w') := fun x => (readNum_any t a' x (by unfold maxLen; omega) a1).mono (by rintro e w' ⟨he, rfl⟩; exact ⟨by rw [he, rnV_of hg hc]; rfl, Below.refl _ _⟩)
      have HB : Hid (rnB t a' false = true) := by show (_ || _) = _; rw [hg]; exact bne_iff_ne.2 hc
      have HN : Hid (rnN t a' false = 0) := by show (if _ then _ else _) = _; rw [HB.out]; rfl
      have HA : Hid (rnA t a' false = a') := by show (if _ then _ else _) = _; rw [HB.out]; rfl
      clear hg hc
      have HF : Hid (∀ y : World, Below w.heap.size w y → Rdr ((y.setCell ⟨P, 1, none⟩ (.int .i64 0)).setCell ⟨P, 2, none⟩ (.iface 170 (.agg #[.int .i64 c]))) P t (rnA t a' false) (rnB t a' false) ∧ w.grownBy ((y.setCell ⟨P, 1, none⟩ (.int .i64 0)).setCell ⟨P, 2, none⟩ (.iface 170 (.agg #[.int .i64 c]))) (some P)) := fun y hy => by
        refine ⟨?_, grown_set (grown_set (grown_below hy) _ _) _ _⟩
        have hk : Bxs ((y.setCell ⟨P, 1, none⟩ (.int .i64 0)).setCell ⟨P, 2, none⟩ (.iface 170 (.agg #[.int .i64 c]))) P 163 #[.string t, .int .i64 0, (.iface 170 (.agg #[.int .i64 c]))] := ((HP.out.below hy).set 1 _).set 2 _
        rw [HB.out, HA.out]
        exact ⟨0, _, hk, (fun h => by cases h), fun _ => ⟨c, rfl⟩⟩
      have HC : Hid (∀ y, Below w.heap.size w y → y.cell? ⟨P, 1, none⟩ = some (.int .i64 a') ∧ y.cell? ⟨P, 2, none⟩ = some .nilIface ∧ y.frozen? ⟨P, 1, none⟩ = false ∧ y.frozen? ⟨P, 2, none⟩ = false) := fun y hy => ⟨(HP.out.below hy).cell 1, (HP.out.below hy).cell 2, (HP.out.below hy).fr 1, (HP.out.below hy).fr 2⟩
      rw [HN.out]
      clear HB HA HN HP
      go_enter Tryz.func116, Tryz.ntmps116
      go_upto_region 4 with fail
      go_region_law ((go_simp; go_at_call 144; refine (HRd.out _).mono ?_; rintro e y ⟨rfl, zq⟩; have zy : Below w.heap.size w y := (by first | exact zq | exact chainB BR.out zq); obtain ⟨q1, q2, g1, g2⟩ := HC.out y zy))
      all_goals
        have HE := HF.out y zy
        go_wp2_with fail
        go_ret
        exact ⟨rfl, HE⟩
set_option maxHeartbeats 4000000 in
theorem brText_any (P : Nat) (t : ByteArray) (a : Int) (bd : Bool) (w : World) (hp : Rdr w P t a bd) (ht : t.size ≤ 8000) (a1 : a ≤ 9223372036854775807) :
    Calls Tryz.prog 115 #[.pointer (some ⟨P, 0, none⟩)] w fun e w' => e = .returned (.string (rtT t a bd)) ∧ Rdr w' P t (rtA t a bd) (rtB t a bd) ∧ w.grownBy w' (some P) := by
  obtain ⟨a', ev, hb, h1, h2⟩ := hp
  cases bd with
  | true =>
    obtain ⟨c, rfl⟩ := h2 rfl
    have HE : Hid (Rdr w P t (rtA t a true) (rtB t a true)) := ⟨a', _, hb, (fun h => by cases h), fun _ => ⟨c, rfl⟩⟩
    have HN : Hid (rtT t a true = ByteArray.empty) := rfl
    have p2 : w.cell? ⟨P, 2, none⟩ = some (.iface 170 (.agg #[.int .i64 c])) := hb.cell 2
    rw [HN.out]
    clear hb h1 h2
    go_enter Tryz.func115, Tryz.ntmps115
    go_wp2_with fail
    go_ret
    exact ⟨rfl, HE.out, World.grownBy.refl _ _⟩
  | false =>
    obtain ⟨rfl, rfl⟩ := h1 rfl
    have HP : Hid (Bxs w P 163 #[.string t, .int .i64 a', .nilIface]) := hb
    obtain ⟨p0, p1, p2⟩ : w.cell? ⟨P, 0, none⟩ = some (.string t) ∧ w.cell? ⟨P, 1, none⟩ = some (.int .i64 a') ∧ w.cell? ⟨P, 2, none⟩ = some .nilIface := ⟨hb.cell 0, hb.cell 1, hb.cell 2⟩
    have BR : Hid (Below w.heap.size w w.drew) := (Below.refl _ _).drew
    clear hb h1 h2
    have HRd : Hid (∀ x, Calls Tryz.prog 143 #[.string t, .int .i64 a'] x fun e w' => e = .returned (rdV t a') ∧ Below x.heap.size x w') := fun x => (readText_any t a' x (by unfold maxLen; omega) a1).mono (by rintro e w' ⟨⟨v, rfl, hv⟩, hb⟩; exact ⟨by rw [rdV_of hv], hb⟩)
    rcases rdV_cases t a' with ⟨n, b, hv, hB, hT, hA⟩ | ⟨c, hv, hB⟩
    · rw [hv] at HRd
      have HB : Hid (rtB t a' false = false) := hB
      have HN : Hid (rtT t a' false = n) := hT
      have HA : Hid (rtA t a' false = b) := hA
      clear hv hB hT hA
      have HF : Hid (∀ y : World, Below w.heap.size w y → Rdr ((y.setCell ⟨P, 1, none⟩ (.int .i64 b)).setCell ⟨P, 2, none⟩ .nilIface) P t (rtA t a' false) (rtB t a' false) ∧ w.grownBy ((y.setCell ⟨P, 1, none⟩ (.int .i64 b)).setCell ⟨P, 2, none⟩ .nilIface) (some P)) := fun y hy => by
        refine ⟨?_, grown_set (grown_set (grown_below hy) _ _) _ _⟩
        have hk : Bxs ((y.setCell ⟨P, 1, none⟩ (.int .i64 b)).setCell ⟨P, 2, none⟩ .nilIface) P 163 #[.string t, .int .i64 b, .nilIface] := ((HP.out.below hy).set 1 _).set 2 _
        rw [HB.out, HA.out]
        exact ⟨b, _, hk, fun _ => ⟨rfl, rfl⟩, (fun h => by cases h)⟩
      have HC : Hid (∀ y, Below w.heap.size w y → y.cell? ⟨P, 1, none⟩ = some (.int .i64 a') ∧ y.cell? ⟨P, 2, none⟩ = some .nilIface ∧ y.frozen? ⟨P, 1, none⟩ = false ∧ y.frozen? ⟨P, 2, none⟩ = false) := fun y hy => ⟨(HP.out.below hy).cell 1, (HP.out.below hy).cell 2, (HP.out.below hy).fr 1, (HP.out.below hy).fr 2⟩
      rw [HN.out]
      clear HB HA HN HP
      go_enter Tryz.func115, Tryz.ntmps115
      go_upto_region 4 with fail
      go_region_law ((go_simp; go_at_call 143; refine (HRd.out _).mono ?_; rintro e y ⟨rfl, zq⟩; have zy : Below w.heap.size w y := (by first | exact zq | exact chainB BR.out zq); obtain ⟨q1, q2, g1, g2⟩ := HC.out y zy))
      all_goals
        have HE := HF.out y zy
        go_wp2_with fail
        go_ret
        exact ⟨rfl, HE⟩
    · rw [hv] at HRd
      have HB : Hid (rtB t a' false = true) := hB
      have HN : Hid (rtT t a' false = ByteArray.empty) := by show (if _ then _ else _) = _; rw [HB.out]; rfl
      have HA : Hid (rtA t a' false = a') := by show (if _ then _ else _) = _; rw [HB.out]; rfl
      clear hv hB
      have HF : Hid (∀ y : World, Below w.heap.size w y → Rdr ((y.setCell ⟨P, 1, none⟩ (.int .i64 0)).setCell ⟨P, 2, none⟩ (.iface 170 (.agg #[.int .i64 c]))) P t (rtA t a' false) (rtB t a' false) ∧ w.grownBy ((y.setCell ⟨P, 1, none⟩ (.int .i64 0)).setCell ⟨P, 2, none⟩ (.iface 170 (.agg #[.int .i64 c]))) (some P)) := fun y hy => by
        refine ⟨?_, grown_set (grown_set (grown_below hy) _ _) _ _⟩
        have hk : Bxs ((y.setCell ⟨P, 1, none⟩ (.int .i64 0)).setCell ⟨P, 2, none⟩ (.iface 170 (.agg #[.int .i64 c]))) P 163 #[.string t, .int .i64 0, (.iface 170 (.agg #[.int .i64 c]))] := ((HP.out.below hy).set 1 _).set 2 _
        rw [HB.out, HA.out]
        exact ⟨0, _, hk, (fun h => by cases h), fun _ => ⟨c, rfl⟩⟩
      have HC : Hid (∀ y, Below w.heap.size w y → y.cell? ⟨P, 1, none⟩ = some (.int .i64 a') ∧ y.cell? ⟨P, 2, none⟩ = some .nilIface ∧ y.frozen? ⟨P, 1, none⟩ = false ∧ y.frozen? ⟨P, 2, none⟩ = false) := fun y hy => ⟨(HP.out.below hy).cell 1, (HP.out.below hy).cell 2, (HP.out.below hy).fr 1, (HP.out.below hy).fr 2⟩
      rw [HN.out]
      clear HB HA HN HP
      go_enter Tryz.func115, Tryz.ntmps115
      go_upto_region 4 with fail
      go_region_law ((go_simp; go_at_call 143; refine (HRd.out _).mono ?_; rintro e y ⟨rfl, zq⟩; have zy : Below w.heap.size w y := (by first | exact zq | exact chainB BR.out zq); obtain ⟨q1, q2, g1, g2⟩ := HC.out y zy))
      all_goals
        have HE := HF.out y zy
        go_wp2_with fail
        go_ret
        exact ⟨rfl, HE⟩
end Go.Proofs.YtnomkcbcjaagmabGreatDoor
