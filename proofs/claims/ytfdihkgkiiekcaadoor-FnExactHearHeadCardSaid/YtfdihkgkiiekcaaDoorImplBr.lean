/-
  What the program's bytesReader reads: a number, a text, up to the first fault.
  Conditions: the reader's bytes are at most 8000.
-/
import Derived.Test.YtfdihkgkiiekcaaDoorRows
import Derived.Test.YtfdihkgkiiekcaaDoorBytesDigMath
import Derived.Test.YtfdihkgkiiekcaaDoorSlASlBBxK
import Derived.Test.YtfdihkgkiiekcaaDoorTimeBFldIsAudSGrKSpecGN
import Derived.Test.YtfdihkgkiiekcaaDoorLawSigLAudMathScanMath
import Derived.Test.YtfdihkgkiiekcaaDoorGetValGetTxtFldRdHdMath
import Derived.Test.YtfdihkgkiiekcaaDoorRdNumIRdTextI
import Derived.Handy
import Derived.WalkSpells
import Derived.OwnWalk
import Derived.Deep.RegionLaw
import Derived.Deep.Cut
import Derived.Deep.CutRange
import Derived.Deep.RegionWith
import Derived.Deep.RegionHeld3
namespace Go.Proofs.YtfdihkgkiiekcaaDoor
open Go.RowKit Go.Lib
set_option linter.unusedVariables false
set_option maxRecDepth 20000

/-- A reader: what it reads, where it stands, whether a fault was met (then the place counts no more). -/
def Rdr (w : World) (P : Nat) (t : ByteArray) (a : Int) (bd : Bool) : Prop := ∃ a' ev, Bxs w P 69 #[.string t, .int .i64 a', ev] ∧ (bd = false → a' = a ∧ ev = .nilIface) ∧ (bd = true → ∃ c, ev = .iface 103 (.agg #[.int .i64 c]))
theorem Rdr.below {w w' : World} {P : Nat} {t : ByteArray} {a : Int} {bd : Bool} (h : Rdr w P t a bd) (hb : Below w.heap.size w w') : Rdr w' P t a bd := by
  obtain ⟨a', ev, h1, h2, h3⟩ := h
  exact ⟨a', ev, h1.below hb, h2, h3⟩
theorem Rdr.other {w : World} {P : Nat} {t : ByteArray} {a : Int} {bd : Bool} (h : Rdr w P t a bd) (g i : Nat) (hne : g ≠ P) (v : Value) : Rdr (w.setCell ⟨g, i, none⟩ v) P t a bd := by
  obtain ⟨a', ev, h1, h2, h3⟩ := h
  exact ⟨a', ev, h1.other g i hne v, h2, h3⟩
/-- What readText hands back. -/
def rdV (t : ByteArray) (a : Int) : Value := if (getT t a).2.2 = 0 then .tuple #[.string (getT t a).1, .int .i64 (getT t a).2.1, .nilIface] else .tuple #[.string ByteArray.empty, .int .i64 0, .iface 103 (.agg #[.int .i64 (getT t a).2.2])]
theorem getT_of {t : ByteArray} {a : Int} {x : ByteArray} {b c : Int} (h : getTV t a = txt x b c) : getT t a = (x, b, c) := by
  rw [getT_val] at h
  unfold txt at h
  injection h with h1
  have h2 : [Value.string (getT t a).1, .int .i64 (getT t a).2.1, .int .i64 (getT t a).2.2] = [.string x, .int .i64 b, .int .i64 c] := congrArg Array.toList h1
  simp only [List.cons.injEq, Value.string.injEq, Value.int.injEq, true_and, and_true] at h2
  obtain ⟨e1, e2, e3⟩ := h2
  exact Prod.ext e1 (Prod.ext e2 e3)
theorem rdV_of {t : ByteArray} {a : Int} {v : Value} (h : ReadsTo t a v) : v = rdV t a := by
  rcases h with ⟨c, hc, rfl, h⟩ | ⟨x, b, rfl, h⟩
  · have e := getT_of h
    unfold rdV; rw [e, if_neg hc]; rfl
  · have e := getT_of h
    unfold rdV; rw [e, if_pos rfl]; rfl
theorem rdV_cases (t : ByteArray) (a : Int) : (∃ n b, rdV t a = .tuple #[.string n, .int .i64 b, .nilIface] ∧ rtB t a false = false ∧ rtT t a false = n ∧ rtA t a false = b) ∨ (∃ c, rdV t a = .tuple #[.string ByteArray.empty, .int .i64 0, .iface 103 (.agg #[.int .i64 c])] ∧ rtB t a false = true) := by
  by_cases h : (getT t a).2.2 = 0
  · left
    have hB : rtB t a false = false := by show (_ || _) = _; rw [h]; rfl
    refine ⟨(getT t a).1, (getT t a).2.1, by unfold rdV; rw [if_pos h], hB, ?_, ?_⟩
    · show (if _ then _ else _) = _; rw [hB]; rfl
    · show (if _ then _ else _) = _; rw [hB]; rfl
  · right
    exact ⟨(getT t a).2.2, by unfold rdV; rw [if_neg h], by show (_ || _) = _; exact bne_iff_ne.2 h⟩
set_option maxHeartbeats 4000000 in
theorem brNum_any (P : Nat) (t : ByteArray) (a : Int) (bd : Bool) (w : World) (hp : Rdr w P t a bd) (ht : t.size ≤ 8000) (a1 : a ≤ 9223372036854775807) :
    Calls Tryd.prog 42 #[.pointer (some ⟨P, 0, none⟩)] w fun e w' => e = .returned (.int .i64 (rnN t a bd)) ∧ Rdr w' P t (rnA t a bd) (rnB t a bd) ∧ w.grownBy w' (some P) := by
  obtain ⟨a', ev, hb, h1, h2⟩ := hp
  cases bd with
  | true =>
    obtain ⟨c, rfl⟩ := h2 rfl
    have HE : Hid (Rdr w P t (rnA t a true) (rnB t a true)) := ⟨a', _, hb, (fun h => by cases h), fun _ => ⟨c, rfl⟩⟩
    have HN : Hid (rnN t a true = 0) := rfl
    have p2 : w.cell? ⟨P, 2, none⟩ = some (.iface 103 (.agg #[.int .i64 c])) := hb.cell 2
    rw [HN.out]
    clear hb h1 h2
    go_enter Tryd.func42, Tryd.ntmps42
    go_wp2_with fail
    go_ret
    exact ⟨rfl, HE.out, World.grownBy.refl _ _⟩
  | false =>
    obtain ⟨rfl, rfl⟩ := h1 rfl
    have HP : Hid (Bxs w P 69 #[.string t, .int .i64 a', .nilIface]) := hb
    obtain ⟨p0, p1, p2⟩ : w.cell? ⟨P, 0, none⟩ = some (.string t) ∧ w.cell? ⟨P, 1, none⟩ = some (.int .i64 a') ∧ w.cell? ⟨P, 2, none⟩ = some .nilIface := ⟨hb.cell 0, hb.cell 1, hb.cell 2⟩
    have BR : Hid (Below w.heap.size w w.drew) := (Below.refl _ _).drew
    clear hb h1 h2
    rcases getN_cases t a' with ⟨n, b, hg⟩ | ⟨c, hc, hg⟩
    · have HRd : Hid (∀ x, Calls Tryd.prog 58 #[.string t, .int .i64 a'] x fun e w' => e = .returned (.tuple #[.int .i64 n, .int .i64 b, .nilIface]) ∧ Below x.heap.size x w') := fun x => (readNum_any t a' x (by unfold maxLen; omega) a1).mono (by rintro e w' ⟨he, rfl⟩; exact ⟨by rw [he, rnV_okk hg]; rfl, Below.refl _ _⟩)
      have HB : Hid (rnB t a' false = false) := by show (_ || _) = _; rw [hg]; rfl
      have HN : Hid (rnN t a' false = n) := by show (if _ then _ else _) = _; rw [HB.out, hg]; rfl
      have HA : Hid (rnA t a' false = b) := by show (if _ then _ else _) = _; rw [HB.out, hg]; rfl
      clear hg
      have HF : Hid (∀ y : World, Below w.heap.size w y → Rdr ((y.setCell ⟨P, 1, none⟩ (.int .i64 b)).setCell ⟨P, 2, none⟩ .nilIface) P t (rnA t a' false) (rnB t a' false) ∧ w.grownBy ((y.setCell ⟨P, 1, none⟩ (.int .i64 b)).setCell ⟨P, 2, none⟩ .nilIface) (some P)) := fun y hy => by
        refine ⟨?_, grown_set (grown_set (grown_below hy) _ _) _ _⟩
        have hk : Bxs ((y.setCell ⟨P, 1, none⟩ (.int .i64 b)).setCell ⟨P, 2, none⟩ .nilIface) P 69 #[.string t, .int .i64 b, .nilIface] := ((HP.out.below hy).set 1 _).set 2 _
        rw [HB.out, HA.out]
        exact ⟨b, _, hk, fun _ => ⟨rfl, rfl⟩, (fun h => by cases h)⟩
      have HC : Hid (∀ y, Below w.heap.size w y → y.cell? ⟨P, 1, none⟩ = some (.int .i64 a') ∧ y.cell? ⟨P, 2, none⟩ = some .nilIface ∧ y.frozen? ⟨P, 1, none⟩ = false ∧ y.frozen? ⟨P, 2, none⟩ = false) := fun y hy => ⟨(HP.out.below hy).cell 1, (HP.out.below hy).cell 2, (HP.out.below hy).fr 1, (HP.out.below hy).fr 2⟩
      rw [HN.out]
      clear HB HA HN HP
      go_enter Tryd.func42, Tryd.ntmps42
      go_upto_region 4 with fail
      go_region_law ((go_simp; go_at_call 58; refine (HRd.out _).mono ?_; rintro e y ⟨rfl, zq⟩; have zy : Below w.heap.size w y := (by first | exact zq | exact chainB BR.out zq); obtain ⟨q1, q2, g1, g2⟩ := HC.out y zy))
      all_goals
        have HE := HF.out y zy
        go_wp2_with fail
        go_ret
        exact ⟨rfl, HE⟩
    · have HRd : Hid (∀ x, Calls Tryd.prog 58 #[.string t, .int .i64 a'] x fun e w' => e = .returned (.tuple #[.int .i64 0, .int .i64 0, .iface 103 (.agg #[.int .i64 c])]) ∧ Below x.heap.size x w') := fun x => (readNum_any t a' x (by unfold maxLen; omega) a1).mono (by rintro e w' ⟨he, rfl⟩; exact ⟨by rw [he, rnV_of hg hc]; rfl, Below.refl _ _⟩)
      have HB : Hid (rnB t a' false = true) := by show (_ || _) = _; rw [hg]; exact bne_iff_ne.2 hc
      have HN : Hid (rnN t a' false = 0) := by show (if _ then _ else _) = _; rw [HB.out]; rfl
      have HA : Hid (rnA t a' false = a') := by show (if _ then _ else _) = _; rw [HB.out]; rfl
      clear hg hc
      have HF : Hid (∀ y : World, Below w.heap.size w y → Rdr ((y.setCell ⟨P, 1, none⟩ (.int .i64 0)).setCell ⟨P, 2, none⟩ (.iface 103 (.agg #[.int .i64 c]))) P t (rnA t a' false) (rnB t a' false) ∧ w.grownBy ((y.setCell ⟨P, 1, none⟩ (.int .i64 0)).setCell ⟨P, 2, none⟩ (.iface 103 (.agg #[.int .i64 c]))) (some P)) := fun y hy => by
        refine ⟨?_, grown_set (grown_set (grown_below hy) _ _) _ _⟩
        have hk : Bxs ((y.setCell ⟨P, 1, none⟩ (.int .i64 0)).setCell ⟨P, 2, none⟩ (.iface 103 (.agg #[.int .i64 c]))) P 69 #[.string t, .int .i64 0, (.iface 103 (.agg #[.int .i64 c]))] := ((HP.out.below hy).set 1 _).set 2 _
        rw [HB.out, HA.out]
        exact ⟨0, _, hk, (fun h => by cases h), fun _ => ⟨c, rfl⟩⟩
      have HC : Hid (∀ y, Below w.heap.size w y → y.cell? ⟨P, 1, none⟩ = some (.int .i64 a') ∧ y.cell? ⟨P, 2, none⟩ = some .nilIface ∧ y.frozen? ⟨P, 1, none⟩ = false ∧ y.frozen? ⟨P, 2, none⟩ = false) := fun y hy => ⟨(HP.out.below hy).cell 1, (HP.out.below hy).cell 2, (HP.out.below hy).fr 1, (HP.out.below hy).fr 2⟩
      rw [HN.out]
      clear HB HA HN HP
      go_enter Tryd.func42, Tryd.ntmps42
      go_upto_region 4 with fail
      go_region_law ((go_simp; go_at_call 58; refine (HRd.out _).mono ?_; rintro e y ⟨rfl, zq⟩; have zy : Below w.heap.size w y := (by first | exact zq | exact chainB BR.out zq); obtain ⟨q1, q2, g1, g2⟩ := HC.out y zy))
      all_goals
        have HE := HF.out y zy
        go_wp2_with fail
        go_ret
        exact ⟨rfl, HE⟩
set_option maxHeartbeats 4000000 in
theorem brText_any (P : Nat) (t : ByteArray) (a : Int) (bd : Bool) (w : World) (hp : Rdr w P t a bd) (ht : t.size ≤ 8000) (a1 : a ≤ 9223372036854775807) :
    Calls Tryd.prog 43 #[.pointer (some ⟨P, 0, none⟩)] w fun e w' => e = .returned (.string (rtT t a bd)) ∧ Rdr w' P t (rtA t a bd) (rtB t a bd) ∧ w.grownBy w' (some P) := by
  obtain ⟨a', ev, hb, h1, h2⟩ := hp
  cases bd with
  | true =>
    obtain ⟨c, rfl⟩ := h2 rfl
    have HE : Hid (Rdr w P t (rtA t a true) (rtB t a true)) := ⟨a', _, hb, (fun h => by cases h), fun _ => ⟨c, rfl⟩⟩
    have HN : Hid (rtT t a true = ByteArray.empty) := rfl
    have p2 : w.cell? ⟨P, 2, none⟩ = some (.iface 103 (.agg #[.int .i64 c])) := hb.cell 2
    rw [HN.out]
    clear hb h1 h2
    go_enter Tryd.func43, Tryd.ntmps43
    go_wp2_with fail
    go_ret
    exact ⟨rfl, HE.out, World.grownBy.refl _ _⟩
  | false =>
    obtain ⟨rfl, rfl⟩ := h1 rfl
    have HP : Hid (Bxs w P 69 #[.string t, .int .i64 a', .nilIface]) := hb
    obtain ⟨p0, p1, p2⟩ : w.cell? ⟨P, 0, none⟩ = some (.string t) ∧ w.cell? ⟨P, 1, none⟩ = some (.int .i64 a') ∧ w.cell? ⟨P, 2, none⟩ = some .nilIface := ⟨hb.cell 0, hb.cell 1, hb.cell 2⟩
    have BR : Hid (Below w.heap.size w w.drew) := (Below.refl _ _).drew
    clear hb h1 h2
    have HRd : Hid (∀ x, Calls Tryd.prog 59 #[.string t, .int .i64 a'] x fun e w' => e = .returned (rdV t a') ∧ Below x.heap.size x w') := fun x => (readText_any t a' x (by unfold maxLen; omega) a1).mono (by rintro e w' ⟨⟨v, rfl, hv⟩, hb⟩; exact ⟨by rw [rdV_of hv], hb⟩)
    rcases rdV_cases t a' with ⟨n, b, hv, hB, hT, hA⟩ | ⟨c, hv, hB⟩
    · rw [hv] at HRd
      have HB : Hid (rtB t a' false = false) := hB
      have HN : Hid (rtT t a' false = n) := hT
      have HA : Hid (rtA t a' false = b) := hA
      clear hv hB hT hA
      have HF : Hid (∀ y : World, Below w.heap.size w y → Rdr ((y.setCell ⟨P, 1, none⟩ (.int .i64 b)).setCell ⟨P, 2, none⟩ .nilIface) P t (rtA t a' false) (rtB t a' false) ∧ w.grownBy ((y.setCell ⟨P, 1, none⟩ (.int .i64 b)).setCell ⟨P, 2, none⟩ .nilIface) (some P)) := fun y hy => by
        refine ⟨?_, grown_set (grown_set (grown_below hy) _ _) _ _⟩
        have hk : Bxs ((y.setCell ⟨P, 1, none⟩ (.int .i64 b)).setCell ⟨P, 2, none⟩ .nilIface) P 69 #[.string t, .int .i64 b, .nilIface] := ((HP.out.below hy).set 1 _).set 2 _
        rw [HB.out, HA.out]
        exact ⟨b, _, hk, fun _ => ⟨rfl, rfl⟩, (fun h => by cases h)⟩
      have HC : Hid (∀ y, Below w.heap.size w y → y.cell? ⟨P, 1, none⟩ = some (.int .i64 a') ∧ y.cell? ⟨P, 2, none⟩ = some .nilIface ∧ y.frozen? ⟨P, 1, none⟩ = false ∧ y.frozen? ⟨P, 2, none⟩ = false) := fun y hy => ⟨(HP.out.below hy).cell 1, (HP.out.below hy).cell 2, (HP.out.below hy).fr 1, (HP.out.below hy).fr 2⟩
      rw [HN.out]
      clear HB HA HN HP
      go_enter Tryd.func43, Tryd.ntmps43
      go_upto_region 4 with fail
      go_region_law ((go_simp; go_at_call 59; refine (HRd.out _).mono ?_; rintro e y ⟨rfl, zq⟩; have zy : Below w.heap.size w y := (by first | exact zq | exact chainB BR.out zq); obtain ⟨q1, q2, g1, g2⟩ := HC.out y zy))
      all_goals
        have HE := HF.out y zy
        go_wp2_with fail
        go_ret
        exact ⟨rfl, HE⟩
    · rw [hv] at HRd
      have HB : Hid (rtB t a' false = true) := hB
      have HN : Hid (rtT t a' false = ByteArray.empty) := by show (if _ then _ else _) = _; rw [HB.out]; rfl
      have HA : Hid (rtA t a' false = a') := by show (if _ then _ else _) = _; rw [HB.out]; rfl
      clear hv hB
      have HF : Hid (∀ y : World, Below w.heap.size w y → Rdr ((y.setCell ⟨P, 1, none⟩ (.int .i64 0)).setCell ⟨P, 2, none⟩ (.iface 103 (.agg #[.int .i64 c]))) P t (rtA t a' false) (rtB t a' false) ∧ w.grownBy ((y.setCell ⟨P, 1, none⟩ (.int .i64 0)).setCell ⟨P, 2, none⟩ (.iface 103 (.agg #[.int .i64 c]))) (some P)) := fun y hy => by
        refine ⟨?_, grown_set (grown_set (grown_below hy) _ _) _ _⟩
        have hk : Bxs ((y.setCell ⟨P, 1, none⟩ (.int .i64 0)).setCell ⟨P, 2, none⟩ (.iface 103 (.agg #[.int .i64 c]))) P 69 #[.string t, .int .i64 0, (.iface 103 (.agg #[.int .i64 c]))] := ((HP.out.below hy).set 1 _).set 2 _
        rw [HB.out, HA.out]
        exact ⟨0, _, hk, (fun h => by cases h), fun _ => ⟨c, rfl⟩⟩
      have HC : Hid (∀ y, Below w.heap.size w y → y.cell? ⟨P, 1, none⟩ = some (.int .i64 a') ∧ y.cell? ⟨P, 2, none⟩ = some .nilIface ∧ y.frozen? ⟨P, 1, none⟩ = false ∧ y.frozen? ⟨P, 2, none⟩ = false) := fun y hy => ⟨(HP.out.below hy).cell 1, (HP.out.below hy).cell 2, (HP.out.below hy).fr 1, (HP.out.below hy).fr 2⟩
      rw [HN.out]
      clear HB HA HN HP
      go_enter Tryd.func43, Tryd.ntmps43
      go_upto_region 4 with fail
      go_region_law ((go_simp; go_at_call 59; refine (HRd.out _).mono ?_; rintro e y ⟨rfl, zq⟩; have zy : Below w.heap.size w y := (by first | exact zq | exact chainB BR.out zq); obtain ⟨q1, q2, g1, g2⟩ := HC.out y zy))
      all_goals
        have HE := HF.out y zy
        go_wp2_with fail
        go_ret
        exact ⟨rfl, HE⟩
end Go.Proofs.YtfdihkgkiiekcaaDoor
