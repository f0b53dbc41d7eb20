/-
  Parts of one proof, laid as one text: ImplBr, HdI, HdS, TakeProof, ConI, ClaI; what each says stands at its head.
-/
import Derived.Test.YtonleickhincgaaGreatDoorRows
import Derived.Test.YtonleickhincgaaGreatDoorBytesDigMath
import Derived.Test.YtonleickhincgaaGreatDoorTreeMathSlABxKSlBOwnS
import Derived.Test.YtonleickhincgaaGreatDoorFldIsTimeIGrKSpecGNSpecGTTillTwoFldN
import Derived.Test.YtonleickhincgaaGreatDoorImplVerInc2SignRSignWFldRiseScanMath
import Derived.Test.YtonleickhincgaaGreatDoorGetValGetTxtNumMathFldRdNumFromTmbMathLgMath
import Derived.Test.YtonleickhincgaaGreatDoorRdNumIGetNumIImplTbImplCbImplTrLeafK
import Derived.Test.YtonleickhincgaaGreatDoorProof2ProofIExtLgHeadLawAudLawAudIAudSRdTextI
import Derived.Handy
import Derived.WalkSpells
import Derived.OwnWalk
import Derived.Deep.RegionLaw
import Derived.Deep.Cut
import Derived.Deep.CutRange
import Derived.Deep.RegionWith
import Derived.Deep.RegionHeld3
import Derived.Test.YtonleickhincgaaGreatDoorLgAtKLgAnsLgRtAudMathHdMathClaMathHearMathFldGOneKFldBlkRwBlkRowOps
import Derived.Test.YtonleickhincgaaGreatDoorLgLawTakesTakesLPutterPathI
import Derived.Test.YtonleickhincgaaGreatDoorPowerHalvesTreeTree2TreeHPathMathIncMathTakerTakePathConMathProofLawSignMath
import Derived.Test.YtonleickhincgaaGreatDoorAll2LeafNode
/-
  What the program's bytesReader reads: a number, a text, up to the first fault.
  Conditions: the reader's bytes are at most 8000.
-/
namespace Go.Proofs.YtonleickhincgaaGreatDoor
open Go.RowKit Go.Lib
set_option linter.unusedVariables false
set_option maxRecDepth 20000

/-- A reader: what it reads, where it stands, whether a fault was met (then the place counts no more). -/
def Rdr (w : World) (P : Nat) (t : ByteArray) (a : Int) (bd : Bool) : Prop := ∃ a' ev, Bxs w P 76 #[.string t, .int .i64 a', ev] ∧ (bd = false → a' = a ∧ ev = .nilIface) ∧ (bd = true → ∃ c, ev = .iface 194 (.agg #[.int .i64 c]))
theorem Rdr.below {w w' : World} {P : Nat} {t : ByteArray} {a : Int} {bd : Bool} (h : Rdr w P t a bd) (hb : Below w.heap.size w w') : Rdr w' P t a bd := by
  obtain ⟨a', ev, h1, h2, h3⟩ := h
  exact ⟨a', ev, h1.below hb, h2, h3⟩
theorem Rdr.other {w : World} {P : Nat} {t : ByteArray} {a : Int} {bd : Bool} (h : Rdr w P t a bd) (g i : Nat) (hne : g ≠ P) (v : Value) : Rdr (w.setCell ⟨g, i, none⟩ v) P t a bd := by
  obtain ⟨a', ev, h1, h2, h3⟩ := h
  exact ⟨a', ev, h1.other g i hne v, h2, h3⟩
/-- What readText hands back. -/
def rdV (t : ByteArray) (a : Int) : Value := if (getT t a).2.2 = 0 then .tuple #[.string (getT t a).1, .int .i64 (getT t a).2.1, .nilIface] else .tuple #[.string ByteArray.empty, .int .i64 0, .iface 194 (.agg #[.int .i64 (getT t a).2.2])]
theorem getT_of {t : ByteArray} {a : Int} {x : ByteArray} {b c : Int} (h : getTV t a = txt x b c) : getT t a = (x, b, c) := by
  rw [getT_val] at h
  unfold txt at h
  injection h with h1
  have h2 : [Value.string (getT t a).1, .int .i64 (getT t a).2.1, .int .i64 (getT t a).2.2] = [.string x, .int .i64 b, .int .i64 c] := congrArg Array.toList h1
  simp only [List.cons.injEq, Value.string.injEq, Value.int.injEq, true_and, and_true] at h2
  obtain ⟨e1, e2, e3⟩ := h2
  exact Prod.ext e1 (Prod.ext e2 e3)
theorem rdV_of {t : ByteArray} {a : Int} {v : Value} (h : ReadsTo t a v) : v = rdV t a := by
  rcases h with ⟨c, hc, rfl, h⟩ | ⟨x, b, rfl, h⟩
  · have e := getT_of h
    unfold rdV; rw [e, if_neg hc]; rfl
  · have e := getT_of h
    unfold rdV; rw [e, if_pos rfl]; rfl
theorem rdV_cases (t : ByteArray) (a : Int) : (∃ n b, rdV t a = .tuple #[.string n, .int .i64 b, .nilIface] ∧ rtB t a false = false ∧ rtT t a false = n ∧ rtA t a false = b) ∨ (∃ c, rdV t a = .tuple #[.string ByteArray.empty, .int .i64 0, .iface 194 (.agg #[.int .i64 c])] ∧ rtB t a false = true) := by
  by_cases h : (getT t a).2.2 = 0
  · left
    have hB : rtB t a false = false := by show (_ || _) = _; rw [h]; rfl
    refine ⟨(getT t a).1, (getT t a).2.1, by unfold rdV; rw [if_pos h], hB, ?_, ?_⟩
    · show (if _ then _ else _) = _; rw [hB]; rfl
    · show (if _ then _ else _) = _; rw [hB]; rfl
  · right
    exact ⟨(getT t a).2.2, by unfold rdV; rw [if_neg h], by show (_ || _) = _; exact bne_iff_ne.2 h⟩
set_option maxHeartbeats 4000000 in
theorem brNum_any (P : Nat) (t : ByteArray) (a : Int) (bd : Bool) (w : World) (hp : Rdr w P t a bd) (ht : t.size ≤ 8000) (a1 : a ≤ 9223372036854775807) :
    Calls Tryz.prog 40 #[.pointer (some ⟨P, 0, none⟩)] w fun e w' => e = .returned (.int .i64 (rnN t a bd)) ∧ Rdr w' P t (rnA t a bd) (rnB t a bd) ∧ w.grownBy w' (some P) := by
  obtain ⟨a', ev, hb, h1, h2⟩ := hp
  cases bd with
  | true =>
    obtain ⟨c, rfl⟩ := h2 rfl
    have HE : Hid (Rdr w P t (rnA t a true) (rnB t a true)) := ⟨a', _, hb, (fun h => by cases h), fun _ => ⟨c, rfl⟩⟩
    have HN : Hid (rnN t a true = 0) := rfl
    have p2 : w.cell? ⟨P, 2, none⟩ = some (.iface 194 (.agg #[.int .i64 c])) := hb.cell 2
    rw [HN.out]
    clear hb h1 h2
    go_enter Tryz.func40, Tryz.ntmps40
    go_wp2_with fail
    go_ret
    exact ⟨rfl, HE.out, World.grownBy.refl _ _⟩
  | false =>
    obtain ⟨rfl, rfl⟩ := h1 rfl
    have HP : Hid (Bxs w P 76 #[.string t, .int .i64 a', .nilIface]) := hb
    obtain ⟨p0, p1, p2⟩ : w.cell? ⟨P, 0, none⟩ = some (.string t) ∧ w.cell? ⟨P, 1, none⟩ = some (.int .i64 a') ∧ w.cell? ⟨P, 2, none⟩ = some .nilIface := ⟨hb.cell 0, hb.cell 1, hb.cell 2⟩
    have BR : Hid (Below w.heap.size w w.drew) := (Below.refl _ _).drew
    clear hb h1 h2
    rcases getN_cases t a' with ⟨n, b, hg⟩ | ⟨c, hc, hg⟩
    · have HRd : Hid (∀ x, Calls Tryz.prog 94 #[.string t, .int .i64 a'] x fun e w' => e = .returned (.tuple #[.int .i64 n, .int .i64 b, .nilIface]) ∧ Below x.heap.size x w') := fun x => (readNum_any t a' x (by unfold maxLen; omega) a1).mono (by rintro e w' ⟨he, rfl⟩; exact ⟨by rw [he, rnV_okk hg]; rfl, Below.refl _ _⟩)
      have HB : Hid (rnB t a' false = false) := by show (_ || _) = _; rw [hg]; rfl
      have HN : Hid (rnN t a' false = n) := by show (if _ then _ else _) = _; rw [HB.out, hg]; rfl
      have HA : Hid (rnA t a' false = b) := by show (if _ then _ else _) = _; rw [HB.out, hg]; rfl
      clear hg
      have HF : Hid (∀ y : World, Below w.heap.size w y → Rdr ((y.setCell ⟨P, 1, none⟩ (.int .i64 b)).setCell ⟨P, 2, none⟩ .nilIface) P t (rnA t a' false) (rnB t a' false) ∧ w.grownBy ((y.setCell ⟨P, 1, none⟩ (.int .i64 b)).setCell ⟨P, 2, none⟩ .nilIface) (some P)) := fun y hy => by
        refine ⟨?_, grown_set (grown_set (grown_below hy) _ _) _ _⟩
        have hk : Bxs ((y.setCell ⟨P, 1, none⟩ (.int .i64 b)).setCell ⟨P, 2, none⟩ .nilIface) P 76 #[.string t, .int .i64 b, .nilIface] := ((HP.out.below hy).set 1 _).set 2 _
        rw [HB.out, HA.out]
        exact ⟨b, _, hk, fun _ => ⟨rfl, rfl⟩, (fun h => by cases h)⟩
      have HC : Hid (∀ y, Below w.heap.size w y → y.cell? ⟨P, 1, none⟩ = some (.int .i64 a') ∧ y.cell? ⟨P, 2, none⟩ = some .nilIface ∧ y.frozen? ⟨P, 1, none⟩ = false ∧ y.frozen? ⟨P, 2, none⟩ = false) := fun y hy => ⟨(HP.out.below hy).cell 1, (HP.out.below hy).cell 2, (HP.out.below hy).fr 1, (HP.out.below hy).fr 2⟩
      rw [HN.out]
      clear HB HA HN HP
      go_enter Tryz.func40, Tryz.ntmps40
      go_upto_region 4 with fail
      go_region_law ((go_simp; go_at_call 94; refine (HRd.out _).mono ?_; rintro e y ⟨rfl, zq⟩; have zy : Below w.heap.size w y := (by first | exact zq | exact chainB BR.out zq); obtain ⟨q1, q2, g1, g2⟩ := HC.out y zy))
      all_goals
        have HE := HF.out y zy
        go_wp2_with fail
        go_ret
        exact ⟨rfl, HE⟩
    · have HRd : Hid (∀ x, Calls Tryz.prog 94 #[.string t, .int .i64 a'] x fun e w' => e = .returned (.tuple #[.int .i64 0, .int .i64 0, .iface 194 (.agg #[.int .i64 c])]) ∧ Below x.heap.size x w') := fun x => (readNum_any t a' x (by unfold maxLen; omega) a1).mono (by rintro e w' ⟨he, rfl⟩; exact ⟨by rw [he, rnV_of hg hc]; rfl, Below.refl _ _⟩)
      have HB : Hid (rnB t a' false = true) := by show (_ || _) = _; rw [hg]; exact bne_iff_ne.2 hc
      have HN : Hid (rnN t a' false = 0) := by show (if _ then _ else _) = _; rw [HB.out]; rfl
      have HA : Hid (rnA t a' false = a') := by show (if _ then _ else _) = _; rw [HB.out]; rfl
      clear hg hc
      have HF : Hid (∀ y : World, Below w.heap.size w y → Rdr ((y.setCell ⟨P, 1, none⟩ (.int .i64 0)).setCell ⟨P, 2, none⟩ (.iface 194 (.agg #[.int .i64 c]))) P t (rnA t a' false) (rnB t a' false) ∧ w.grownBy ((y.setCell ⟨P, 1, none⟩ (.int .i64 0)).setCell ⟨P, 2, none⟩ (.iface 194 (.agg #[.int .i64 c]))) (some P)) := fun y hy => by
        refine ⟨?_, grown_set (grown_set (grown_below hy) _ _) _ _⟩
        have hk : Bxs ((y.setCell ⟨P, 1, none⟩ (.int .i64 0)).setCell ⟨P, 2, none⟩ (.iface 194 (.agg #[.int .i64 c]))) P 76 #[.string t, .int .i64 0, (.iface 194 (.agg #[.int .i64 c]))] := ((HP.out.below hy).set 1 _).set 2 _
        rw [HB.out, HA.out]
        exact ⟨0, _, hk, (fun h => by cases h), fun _ => ⟨c, rfl⟩⟩
      have HC : Hid (∀ y, Below w.heap.size w y → y.cell? ⟨P, 1, none⟩ = some (.int .i64 a') ∧ y.cell? ⟨P, 2, none⟩ = some .nilIface ∧ y.frozen? ⟨P, 1, none⟩ = false ∧ y.frozen? ⟨P, 2, none⟩ = false) := fun y hy => ⟨(HP.out.below hy).cell 1, (HP.out.below hy).cell 2, (HP.out.below hy).fr 1, (HP.out.below hy).fr 2⟩
      rw [HN.out]
      clear HB HA HN HP
      go_enter Tryz.func40, Tryz.ntmps40
      go_upto_region 4 with fail
      go_region_law ((go_simp; go_at_call 94; refine (HRd.out _).mono ?_; rintro e y ⟨rfl, zq⟩; have zy : Below w.heap.size w y := (by first | exact zq | exact chainB BR.out zq); obtain ⟨q1, q2, g1, g2⟩ := HC.out y zy))
      all_goals
        have HE := HF.out y zy
        go_wp2_with fail
        go_ret
        exact ⟨rfl, HE⟩
set_option maxHeartbeats 4000000 in
theorem brText_any (P : Nat) (t : ByteArray) (a : Int) (bd : Bool) (w : World) (hp : Rdr w P t a bd) (ht : t.size ≤ 8000) (a1 : a ≤ 9223372036854775807) :
    Calls Tryz.prog 41 #[.pointer (some ⟨P, 0, none⟩)] w fun e w' => e = .returned (.string (rtT t a bd)) ∧ Rdr w' P t (rtA t a bd) (rtB t a bd) ∧ w.grownBy w' (some P) := by
  obtain ⟨a', ev, hb, h1, h2⟩ := hp
  cases bd with
  | true =>
    obtain ⟨c, rfl⟩ := h2 rfl
    have HE : Hid (Rdr w P t (rtA t a true) (rtB t a true)) := ⟨a', _, hb, (fun h => by cases h), fun _ => ⟨c, rfl⟩⟩
    have HN : Hid (rtT t a true = ByteArray.empty) := rfl
    have p2 : w.cell? ⟨P, 2, none⟩ = some (.iface 194 (.agg #[.int .i64 c])) := hb.cell 2
    rw [HN.out]
    clear hb h1 h2
    go_enter Tryz.func41, Tryz.ntmps41
    go_wp2_with fail
    go_ret
    exact ⟨rfl, HE.out, World.grownBy.refl _ _⟩
  | false =>
    obtain ⟨rfl, rfl⟩ := h1 rfl
    have HP : Hid (Bxs w P 76 #[.string t, .int .i64 a', .nilIface]) := hb
    obtain ⟨p0, p1, p2⟩ : w.cell? ⟨P, 0, none⟩ = some (.string t) ∧ w.cell? ⟨P, 1, none⟩ = some (.int .i64 a') ∧ w.cell? ⟨P, 2, none⟩ = some .nilIface := ⟨hb.cell 0, hb.cell 1, hb.cell 2⟩
    have BR : Hid (Below w.heap.size w w.drew) := (Below.refl _ _).drew
    clear hb h1 h2
    have HRd : Hid (∀ x, Calls Tryz.prog 95 #[.string t, .int .i64 a'] x fun e w' => e = .returned (rdV t a') ∧ Below x.heap.size x w') := fun x => (readText_any t a' x (by unfold maxLen; omega) a1).mono (by rintro e w' ⟨⟨v, rfl, hv⟩, hb⟩; exact ⟨by rw [rdV_of hv], hb⟩)
    rcases rdV_cases t a' with ⟨n, b, hv, hB, hT, hA⟩ | ⟨c, hv, hB⟩
    · rw [hv] at HRd
      have HB : Hid (rtB t a' false = false) := hB
      have HN : Hid (rtT t a' false = n) := hT
      have HA : Hid (rtA t a' false = b) := hA
      clear hv hB hT hA
      have HF : Hid (∀ y : World, Below w.heap.size w y → Rdr ((y.setCell ⟨P, 1, none⟩ (.int .i64 b)).setCell ⟨P, 2, none⟩ .nilIface) P t (rtA t a' false) (rtB t a' false) ∧ w.grownBy ((y.setCell ⟨P, 1, none⟩ (.int .i64 b)).setCell ⟨P, 2, none⟩ .nilIface) (some P)) := fun y hy => by
        refine ⟨?_, grown_set (grown_set (grown_below hy) _ _) _ _⟩
        have hk : Bxs ((y.setCell ⟨P, 1, none⟩ (.int .i64 b)).setCell ⟨P, 2, none⟩ .nilIface) P 76 #[.string t, .int .i64 b, .nilIface] := ((HP.out.below hy).set 1 _).set 2 _
        rw [HB.out, HA.out]
        exact ⟨b, _, hk, fun _ => ⟨rfl, rfl⟩, (fun h => by cases h)⟩
      have HC : Hid (∀ y, Below w.heap.size w y → y.cell? ⟨P, 1, none⟩ = some (.int .i64 a') ∧ y.cell? ⟨P, 2, none⟩ = some .nilIface ∧ y.frozen? ⟨P, 1, none⟩ = false ∧ y.frozen? ⟨P, 2, none⟩ = false) := fun y hy => ⟨(HP.out.below hy).cell 1, (HP.out.below hy).cell 2, (HP.out.below hy).fr 1, (HP.out.below hy).fr 2⟩
      rw [HN.out]
      clear HB HA HN HP
      go_enter Tryz.func41, Tryz.ntmps41
      go_upto_region 4 with fail
      go_region_law ((go_simp; go_at_call 95; refine (HRd.out _).mono ?_; rintro e y ⟨rfl, zq⟩; have zy : Below w.heap.size w y := (by first | exact zq | exact chainB BR.out zq); obtain ⟨q1, q2, g1, g2⟩ := HC.out y zy))
      all_goals
        have HE := HF.out y zy
        go_wp2_with fail
        go_ret
        exact ⟨rfl, HE⟩
    · rw [hv] at HRd
      have HB : Hid (rtB t a' false = true) := hB
      have HN : Hid (rtT t a' false = ByteArray.empty) := by show (if _ then _ else _) = _; rw [HB.out]; rfl
      have HA : Hid (rtA t a' false = a') := by show (if _ then _ else _) = _; rw [HB.out]; rfl
      clear hv hB
      have HF : Hid (∀ y : World, Below w.heap.size w y → Rdr ((y.setCell ⟨P, 1, none⟩ (.int .i64 0)).setCell ⟨P, 2, none⟩ (.iface 194 (.agg #[.int .i64 c]))) P t (rtA t a' false) (rtB t a' false) ∧ w.grownBy ((y.setCell ⟨P, 1, none⟩ (.int .i64 0)).setCell ⟨P, 2, none⟩ (.iface 194 (.agg #[.int .i64 c]))) (some P)) := fun y hy => by
        refine ⟨?_, grown_set (grown_set (grown_below hy) _ _) _ _⟩
        have hk : Bxs ((y.setCell ⟨P, 1, none⟩ (.int .i64 0)).setCell ⟨P, 2, none⟩ (.iface 194 (.agg #[.int .i64 c]))) P 76 #[.string t, .int .i64 0, (.iface 194 (.agg #[.int .i64 c]))] := ((HP.out.below hy).set 1 _).set 2 _
        rw [HB.out, HA.out]
        exact ⟨0, _, hk, (fun h => by cases h), fun _ => ⟨c, rfl⟩⟩
      have HC : Hid (∀ y, Below w.heap.size w y → y.cell? ⟨P, 1, none⟩ = some (.int .i64 a') ∧ y.cell? ⟨P, 2, none⟩ = some .nilIface ∧ y.frozen? ⟨P, 1, none⟩ = false ∧ y.frozen? ⟨P, 2, none⟩ = false) := fun y hy => ⟨(HP.out.below hy).cell 1, (HP.out.below hy).cell 2, (HP.out.below hy).fr 1, (HP.out.below hy).fr 2⟩
      rw [HN.out]
      clear HB HA HN HP
      go_enter Tryz.func41, Tryz.ntmps41
      go_upto_region 4 with fail
      go_region_law ((go_simp; go_at_call 95; refine (HRd.out _).mono ?_; rintro e y ⟨rfl, zq⟩; have zy : Below w.heap.size w y := (by first | exact zq | exact chainB BR.out zq); obtain ⟨q1, q2, g1, g2⟩ := HC.out y zy))
      all_goals
        have HE := HF.out y zy
        go_wp2_with fail
        go_ret
        exact ⟨rfl, HE⟩
end Go.Proofs.YtonleickhincgaaGreatDoor
/-
  What the program's HeadRead answers: Size and Root of a head's text.
-/
namespace Go.Proofs.YtonleickhincgaaGreatDoor
open Go.RowKit Go.Lib
set_option linter.unusedVariables false
set_option maxRecDepth 20000

theorem Rdr.grown {w w' : World} {P : Nat} {t : ByteArray} {a : Int} {bd : Bool} (h : Rdr w P t a bd) {row : Option Nat} (hg : w.grownBy w' row) (hne : some P ≠ row) : Rdr w' P t a bd := by
  obtain ⟨a', ev, hb, h1, h2⟩ := h
  exact ⟨a', ev, hb.grown hg hne, h1, h2⟩
/-- The answer's box, the reader's, and that of what was read so far. -/
structure HdI (w : World) (t : ByteArray) (a : Int) (bd : Bool) (s : Int) (r : ByteArray) (x : World) : Prop where
  rd : Rdr x (w.heap.size + 1) t a bd
  bx : Bxs x (w.heap.size + 2) 24 #[.string ByteArray.empty, .int .i64 s, .string r]
  rs : Bxs x w.heap.size 31 #[.string ByteArray.empty, .int .i64 0, .string ByteArray.empty, .int .i64 0]
  bel : Below w.heap.size w x
theorem HdI.call {w x y : World} {t : ByteArray} {a a' : Int} {bd bd' : Bool} {s : Int} {r : ByteArray} (h : HdI w t a bd s r x) (hr : Rdr y (w.heap.size + 1) t a' bd') (hg : x.grownBy y (some (w.heap.size + 1))) : HdI w t a' bd' s r y :=
  ⟨hr, h.bx.grown hg (by simp), h.rs.grown hg (by simp), below_turned h.bel hg h.bel.size (by omega)⟩
theorem HdI.size {w x : World} {t : ByteArray} {a : Int} {bd : Bool} {s s' : Int} {r : ByteArray} (h : HdI w t a bd s r x) : HdI w t a bd s' r (x.setCell ⟨w.heap.size + 2, 1, none⟩ (.int .i64 s')) :=
  ⟨h.rd.other _ 1 (by omega) _, h.bx.set 1 _, h.rs.other _ 1 (by omega) _, h.bel.setCell (p := ⟨w.heap.size + 2, 1, none⟩) (by show _ ≤ w.heap.size + 2; omega) _⟩
theorem HdI.root {w x : World} {t : ByteArray} {a : Int} {bd : Bool} {s : Int} {r r' : ByteArray} (h : HdI w t a bd s r x) : HdI w t a bd s r' (x.setCell ⟨w.heap.size + 2, 2, none⟩ (.string r')) :=
  ⟨h.rd.other _ 2 (by omega) _, h.bx.set 2 _, h.rs.other _ 2 (by omega) _, h.bel.setCell (p := ⟨w.heap.size + 2, 2, none⟩) (by show _ ≤ w.heap.size + 2; omega) _⟩
theorem HdI.below {w x y : World} {t : ByteArray} {a : Int} {bd : Bool} {s : Int} {r : ByteArray} (h : HdI w t a bd s r x) (hb : Below x.heap.size x y) : HdI w t a bd s r y :=
  ⟨h.rd.below hb, h.bx.below hb, h.rs.below hb, chainB h.bel hb⟩
theorem HdI.end4 {w x : World} {t : ByteArray} {a : Int} {bd : Bool} {s : Int} {r : ByteArray} (h : HdI w t a bd s r x) (v0 v1 v2 v3 : Value) :
    Bxs ((((x.setCell ⟨w.heap.size, 0, none⟩ v0).setCell ⟨w.heap.size, 1, none⟩ v1).setCell ⟨w.heap.size, 2, none⟩ v2).setCell ⟨w.heap.size, 3, none⟩ v3) w.heap.size 31 #[v0, v1, v2, v3] ∧ Below w.heap.size w ((((x.setCell ⟨w.heap.size, 0, none⟩ v0).setCell ⟨w.heap.size, 1, none⟩ v1).setCell ⟨w.heap.size, 2, none⟩ v2).setCell ⟨w.heap.size, 3, none⟩ v3) :=
  ⟨(((h.rs.set 0 _).set 1 _).set 2 _).set 3 _, below_set4 h.bel (Nat.le_refl _) _ _ _ _⟩
set_option maxHeartbeats 4000000 in
theorem implHead_any (t : ByteArray) (w : World) (ht : t.size ≤ maxLen) :
    Calls Tryz.prog 10 #[.string t] w fun e w' => e = .returned (.agg #[.string ByteArray.empty, .int .i64 (heaS t), .string (heaR t), .int .i64 (heaC t)]) ∧ Below w.heap.size w w' := by
  unfold maxLen at ht
  by_cases h1 : 8000 < t.size
  case pos =>
    obtain ⟨e1, e2, e3⟩ := hea_long h1
    rw [e1, e2, e3]
    have d1 : decide (8000 < (t.size : Int)) = true := decide_eq_true (by omega)
    clear h1 e1 e2 e3
    have HE : Hid (Below w.heap.size w (w.alloc (.cells #[.string ByteArray.empty, .int .i64 0, .string ByteArray.empty, .int .i64 2] 31))) := (Below.refl _ _).alloc (Nat.le_refl _) _
    go_enter Tryz.func10, Tryz.ntmps10
    go_wp2_with fail
    refine bodyPost_ret (v := .agg #[.string ByteArray.empty, .int .i64 0, .string ByteArray.empty, .int .i64 2]) (by simp [results, Tryz.results10, go_sem]; try rfl) rfl ?_
    exact ⟨rfl, HE.out⟩
  have d1 : decide (8000 < (t.size : Int)) = false := decide_eq_false (by omega)
  have ht8 : t.size ≤ 8000 := by omega
  have HC : Hid (∀ b, heaB t = b → heaC t = (if b = true then 0 else 3) ∧ heaS t = (if b = true then haS t else 0) ∧ heaR t = (if b = true then haR t else ByteArray.empty)) := fun b hb => by
    cases b with
    | true => exact hea_good h1 hb
    | false => exact hea_bad h1 hb
  have hle := ha_le t ht8
  have HFb : Hid (haF t = true → sizB (haS t) (haR t) = false) := ha_bad
  have HB0 : Hid (heaB t = (!(haF t) && (sizB (haS t) (haR t) && (haE t == (t.size : Int))))) := rfl
  obtain ⟨W3, hW3⟩ : ∃ W3, W3 = ((w.alloc (.cells #[.string ⟨#[]⟩, .int .i64 0, .string ⟨#[]⟩, .int .i64 0] 31)).alloc (.cells #[.string t, .int .i64 0, .nilIface] 76)).alloc (.cells #[.string ⟨#[]⟩, .int .i64 0, .string ⟨#[]⟩] 24) := ⟨_, rfl⟩
  have HW3 : Hid (W3 = ((w.alloc (.cells #[.string ⟨#[]⟩, .int .i64 0, .string ⟨#[]⟩, .int .i64 0] 31)).alloc (.cells #[.string t, .int .i64 0, .nilIface] 76)).alloc (.cells #[.string ⟨#[]⟩, .int .i64 0, .string ⟨#[]⟩] 24)) := hW3
  have H3 : Hid (HdI w t 0 false 0 ByteArray.empty W3) := by
    rw [hW3]
    have h := Bxs.new (w.alloc (.cells #[.string ⟨#[]⟩, .int .i64 0, .string ⟨#[]⟩, .int .i64 0] 31)) 76 #[.string t, .int .i64 0, .nilIface]
    rw [szA] at h
    have k := Bxs.new ((w.alloc (.cells #[.string ⟨#[]⟩, .int .i64 0, .string ⟨#[]⟩, .int .i64 0] 31)).alloc (.cells #[.string t, .int .i64 0, .nilIface] 76)) 24 #[.string ⟨#[]⟩, .int .i64 0, .string ⟨#[]⟩]
    rw [szA, szA] at k
    exact ⟨⟨0, .nilIface, h.alloc _, fun _ => ⟨rfl, rfl⟩, fun h => by cases h⟩, k, ((Bxs.new _ _ _).alloc _).alloc _, alB (alB ((Below.refl _ _).alloc (Nat.le_refl _) _) _) _⟩
  have HN := brNum_any (w.heap.size + 1) t 0 false W3 H3.out.rd ht8 (by omega)
  have HT : Hid (∀ x, Rdr x (w.heap.size + 1) t (haA t) (haB t) → Calls Tryz.prog 41 #[.pointer (some ⟨w.heap.size + 1, 0, none⟩)] x fun e w' => e = .returned (.string (haR t)) ∧ Rdr w' (w.heap.size + 1) t (haE t) (haF t) ∧ x.grownBy w' (some (w.heap.size + 1))) := fun x hx => brText_any (w.heap.size + 1) t (haA t) (haB t) x hx ht8 (by omega)
  have HS : Hid (∀ x, Calls Tryz.prog 42 #[.agg #[.string ByteArray.empty, .int .i64 (haS t), .string (haR t)]] x fun e w' => e = .returned (.bool (sizB (haS t) (haR t))) ∧ Below x.heap.size x w') := fun x => sizedRight_any ByteArray.empty (haS t) (haR t) x
  rw [show rnN t 0 false = haS t from rfl, show rnA t 0 false = haA t from rfl, show rnB t 0 false = haB t from rfl] at HN
  clear hW3 h1
  generalize haS t = NS at *
  generalize haR t = TR at *
  generalize haE t = AE at *
  generalize haF t = FE at *
  generalize haA t = AA at *
  generalize haB t = AB at *
  generalize heaB t = HB at *
  generalize heaC t = HCc at *
  generalize heaS t = HSs at *
  generalize heaR t = HRr at *
  generalize sizB NS TR = SB at *
  go_enter Tryz.func10, Tryz.ntmps10
  go_upto_region 5 with fail
  rw [← HW3.out]
  go_wp2_with fail
  with_reducible refine HN.mono ?_
  rintro e y ⟨rfl, hy, hg⟩
  have HE : Hid _ := H3.out.call hy hg
  clear hy hg H3
  have c1 := HE.out.bx.cell 1
  have f1 := HE.out.bx.fr 1
  simp at c1
  have H4 : Hid _ := HE.out.size (s' := NS)
  clear HE
  go_upto_region 6 with fail
  generalize y.setCell ⟨w.heap.size + 2, 1, none⟩ (.int .i64 NS) = y4 at *
  clear c1 f1
  go_wp2_with fail
  with_reducible refine (HT.out y4 H4.out.rd).mono ?_
  rintro e z ⟨rfl, hz, hg⟩
  have HF : Hid _ := H4.out.call hz hg
  clear hz hg H4
  have c2 := HF.out.bx.cell 2
  have f2 := HF.out.bx.fr 2
  simp at c2
  have HG0 : Hid _ := HF.out.root (r' := TR)
  clear HF
  go_upto_region 7 with fail
  generalize z.setCell ⟨w.heap.size + 2, 2, none⟩ (.string TR) = z5 at *
  clear c2 f2
  obtain ⟨a', ev, hrd, ha1, ha2⟩ := HG0.out.rd
  have r1 : z5.cell? ⟨w.heap.size + 1, 1, none⟩ = some (.int .i64 a') := hrd.cell 1
  have HA1 : Hid (FE = false → a' = AE) := fun h => (ha1 h).1
  clear hrd ha1 ha2
  have b0 : z5.cell? ⟨w.heap.size + 2, 0, none⟩ = some (.string ByteArray.empty) := HG0.out.bx.cell 0
  have b1 : z5.cell? ⟨w.heap.size + 2, 1, none⟩ = some (.int .i64 NS) := HG0.out.bx.cell 1
  have b2 : z5.cell? ⟨w.heap.size + 2, 2, none⟩ = some (.string TR) := HG0.out.bx.cell 2
  have HQ : Hid (∀ x, Below z5.heap.size z5 x → (HdI w t AE FE NS TR x) ∧ x.cell? ⟨w.heap.size, 0, none⟩ = some (.string ByteArray.empty) ∧ x.cell? ⟨w.heap.size, 1, none⟩ = some (.int .i64 0) ∧ x.cell? ⟨w.heap.size, 2, none⟩ = some (.string ByteArray.empty) ∧ x.cell? ⟨w.heap.size, 3, none⟩ = some (.int .i64 0) ∧ x.frozen? ⟨w.heap.size, 0, none⟩ = false ∧ x.frozen? ⟨w.heap.size, 1, none⟩ = false ∧ x.frozen? ⟨w.heap.size, 2, none⟩ = false ∧ x.frozen? ⟨w.heap.size, 3, none⟩ = false ∧ x.cell? ⟨w.heap.size + 2, 0, none⟩ = some (.string ByteArray.empty) ∧ x.cell? ⟨w.heap.size + 2, 1, none⟩ = some (.int .i64 NS) ∧ x.cell? ⟨w.heap.size + 2, 2, none⟩ = some (.string TR)) := fun x hb => by
    have h := HG0.out.below hb
    exact ⟨h, h.rs.cell 0, h.rs.cell 1, h.rs.cell 2, h.rs.cell 3, h.rs.fr 0, h.rs.fr 1, h.rs.fr 2, h.rs.fr 3, h.bx.cell 0, h.bx.cell 1, h.bx.cell 2⟩
  clear HG0
  have hS := HS.out z5
  by_cases c5 : a' = (t.size : Int)
  case neg =>
    have hb : HB = false := by
      rw [HB0.out]
      cases hF : FE with
      | true => rfl
      | false =>
        have e := HA1.out hF
        rw [beq_eq_false_iff_ne.2 (show AE ≠ (t.size : Int) by omega)]
        simp
    obtain ⟨e1, e2, e3⟩ := HC.out _ hb
    simp only [Bool.false_eq_true, if_false] at e1 e2 e3
    subst e1 e2 e3
    clear b0 b1 b2
    obtain ⟨hG, q0, q1, q2, q3, g0, g1, g2, g3, b0, b1, b2⟩ := HQ.out z5 (Below.refl _ _)
    have HG : Hid _ := hG
    clear hG
    go_wp2_with fail
    obtain ⟨K, HEd⟩ := HG.out.end4 (.string ⟨#[]⟩) (.int .i64 0) (.string ⟨#[]⟩) (.int .i64 3)
    generalize (((z5.setCell ⟨w.heap.size, 0, none⟩ (.string ⟨#[]⟩)).setCell ⟨w.heap.size, 1, none⟩ (.int .i64 0)).setCell ⟨w.heap.size, 2, none⟩ (.string ⟨#[]⟩)).setCell ⟨w.heap.size, 3, none⟩ (.int .i64 3) = zz at *
    have HEn : Hid (Below w.heap.size w zz) := HEd
    have k0 : zz.cell? ⟨w.heap.size, 0, none⟩ = some (.string ByteArray.empty) := K.cell 0
    have k1 : zz.cell? ⟨w.heap.size, 1, none⟩ = some (.int .i64 0) := K.cell 1
    have k2 : zz.cell? ⟨w.heap.size, 2, none⟩ = some (.string ByteArray.empty) := K.cell 2
    have k3 : zz.cell? ⟨w.heap.size, 3, none⟩ = some (.int .i64 3) := K.cell 3
    refine bodyPost_ret (v := .agg #[.string ByteArray.empty, .int .i64 0, .string ByteArray.empty, .int .i64 3]) (by simp [results, Tryz.results10, go_sem, k0, k1, k2, k3]) rfl ?_
    exact ⟨rfl, HEn.out⟩
  cases SB
  case false =>
    have hb : HB = false := by rw [HB0.out]; simp
    obtain ⟨e1, e2, e3⟩ := HC.out _ hb
    simp only [Bool.false_eq_true, if_false] at e1 e2 e3
    subst e1 e2 e3
    go_wp2_with fail
    with_reducible refine hS.mono ?_
    rintro e z6 ⟨rfl, zb⟩
    clear b0 b1 b2 r1
    obtain ⟨hG, q0, q1, q2, q3, g0, g1, g2, g3, b0, b1, b2⟩ := HQ.out z6 (zb)
    have HG : Hid _ := hG
    clear hG
    go_wp2_with fail
    obtain ⟨K, HEd⟩ := HG.out.end4 (.string ⟨#[]⟩) (.int .i64 0) (.string ⟨#[]⟩) (.int .i64 3)
    generalize (((z6.setCell ⟨w.heap.size, 0, none⟩ (.string ⟨#[]⟩)).setCell ⟨w.heap.size, 1, none⟩ (.int .i64 0)).setCell ⟨w.heap.size, 2, none⟩ (.string ⟨#[]⟩)).setCell ⟨w.heap.size, 3, none⟩ (.int .i64 3) = zz at *
    have HEn : Hid (Below w.heap.size w zz) := HEd
    have k0 : zz.cell? ⟨w.heap.size, 0, none⟩ = some (.string ByteArray.empty) := K.cell 0
    have k1 : zz.cell? ⟨w.heap.size, 1, none⟩ = some (.int .i64 0) := K.cell 1
    have k2 : zz.cell? ⟨w.heap.size, 2, none⟩ = some (.string ByteArray.empty) := K.cell 2
    have k3 : zz.cell? ⟨w.heap.size, 3, none⟩ = some (.int .i64 3) := K.cell 3
    refine bodyPost_ret (v := .agg #[.string ByteArray.empty, .int .i64 0, .string ByteArray.empty, .int .i64 3]) (by simp [results, Tryz.results10, go_sem, k0, k1, k2, k3]) rfl ?_
    exact ⟨rfl, HEn.out⟩
  have hF : FE = false := by
    cases h : FE with
    | false => rfl
    | true => exact absurd (HFb.out h) (by simp)
  have hb : HB = true := by
    have e := HA1.out hF
    rw [HB0.out, hF, beq_iff_eq.2 (show AE = (t.size : Int) by omega)]
    rfl
  obtain ⟨e1, e2, e3⟩ := HC.out _ hb
  simp only [if_true] at e1 e2 e3
  replace e2 := e2.symm
  replace e3 := e3.symm
  subst e1 e2 e3
  go_wp2_with fail
  with_reducible refine hS.mono ?_
  rintro e z6 ⟨rfl, zb⟩
  clear b0 b1 b2 r1
  obtain ⟨hG, q0, q1, q2, q3, g0, g1, g2, g3, b0, b1, b2⟩ := HQ.out z6 (zb)
  have HG : Hid _ := hG
  clear hG
  go_wp2_with fail
  obtain ⟨K, HEd⟩ := HG.out.end4 (.string ByteArray.empty) (.int .i64 NS) (.string TR) (.int .i64 0)
  generalize (((z6.setCell ⟨w.heap.size, 0, none⟩ (.string ByteArray.empty)).setCell ⟨w.heap.size, 1, none⟩ (.int .i64 NS)).setCell ⟨w.heap.size, 2, none⟩ (.string TR)).setCell ⟨w.heap.size, 3, none⟩ (.int .i64 0) = zz at *
  have HEn : Hid (Below w.heap.size w zz) := HEd
  have k0 : zz.cell? ⟨w.heap.size, 0, none⟩ = some (.string ByteArray.empty) := K.cell 0
  have k1 : zz.cell? ⟨w.heap.size, 1, none⟩ = some (.int .i64 NS) := K.cell 1
  have k2 : zz.cell? ⟨w.heap.size, 2, none⟩ = some (.string TR) := K.cell 2
  have k3 : zz.cell? ⟨w.heap.size, 3, none⟩ = some (.int .i64 0) := K.cell 3
  refine bodyPost_ret (v := .agg #[.string ByteArray.empty, .int .i64 NS, .string TR, .int .i64 0]) (by simp [results, Tryz.results10, go_sem, k0, k1, k2, k3]) rfl ?_
  exact ⟨rfl, HEn.out⟩
end Go.Proofs.YtonleickhincgaaGreatDoor
/-
  What the specification's HeadRead answers: Size and Root of a head's text.
-/
namespace Go.Proofs.YtonleickhincgaaGreatDoor
open Go.RowKit Go.Lib
set_option linter.unusedVariables false
set_option maxRecDepth 20000

/-- The answer's box, the reader's, and that of what was read so far. -/
structure HdS (w : World) (E : Nat) (t : ByteArray) (a : Int) (bd : Bool) (s : Int) (r : ByteArray) (x : World) : Prop where
  rd : Bxs x (w.heap.size + 1) 81 #[.string t, .int .i64 a, .bool bd]
  bx : Bxs x E 24 #[.string ByteArray.empty, .int .i64 s, .string r]
  rs : Bxs x w.heap.size 31 #[.string ByteArray.empty, .int .i64 0, .string ByteArray.empty, .int .i64 0]
  bel : Below w.heap.size w x
  eb : w.heap.size + 1 < E
theorem HdS.call {w x y : World} {E : Nat} {t : ByteArray} {a a' : Int} {bd bd' : Bool} {s : Int} {r : ByteArray} (h : HdS w E t a bd s r x) (hr : Bxs y (w.heap.size + 1) 81 #[.string t, .int .i64 a', .bool bd']) (hg : x.grownBy y (some (w.heap.size + 1))) : HdS w E t a' bd' s r y :=
  ⟨hr, h.bx.grown hg (by have := h.eb; simp; omega), h.rs.grown hg (by simp), below_turned h.bel hg h.bel.size (by omega), h.eb⟩
theorem HdS.root {w x : World} {E : Nat} {t : ByteArray} {a : Int} {bd : Bool} {s : Int} {r r' : ByteArray} (h : HdS w E t a bd s r x) : HdS w E t a bd s r' (x.setCell ⟨E, 2, none⟩ (.string r')) :=
  ⟨h.rd.other E 2 (by have := h.eb; omega) _, h.bx.set 2 _, h.rs.other E 2 (by have := h.eb; omega) _, h.bel.setCell (p := ⟨E, 2, none⟩) (by have := h.eb; show _ ≤ E; omega) _, h.eb⟩
theorem HdS.end4 {w x : World} {E : Nat} {t : ByteArray} {a : Int} {bd : Bool} {s : Int} {r : ByteArray} (h : HdS w E t a bd s r x) (v0 v1 v2 v3 : Value) :
    Bxs ((((x.setCell ⟨w.heap.size, 0, none⟩ v0).setCell ⟨w.heap.size, 1, none⟩ v1).setCell ⟨w.heap.size, 2, none⟩ v2).setCell ⟨w.heap.size, 3, none⟩ v3) w.heap.size 31 #[v0, v1, v2, v3] ∧ Below w.heap.size w ((((x.setCell ⟨w.heap.size, 0, none⟩ v0).setCell ⟨w.heap.size, 1, none⟩ v1).setCell ⟨w.heap.size, 2, none⟩ v2).setCell ⟨w.heap.size, 3, none⟩ v3) :=
  ⟨(((h.rs.set 0 _).set 1 _).set 2 _).set 3 _, below_set4 h.bel (Nat.le_refl _) _ _ _ _⟩
set_option maxHeartbeats 4000000 in
theorem specHead_any (t : ByteArray) (w : World) (ht : t.size ≤ maxLen) :
    Calls Tryz.prog 11 #[.string t] w fun e w' => e = .returned (.agg #[.string ByteArray.empty, .int .i64 (heaS t), .string (heaR t), .int .i64 (heaC t)]) ∧ Below w.heap.size w w' := by
  unfold maxLen at ht
  by_cases h1 : 8000 < t.size
  case pos =>
    obtain ⟨e1, e2, e3⟩ := hea_long h1
    rw [e1, e2, e3]
    have d1 : decide (8000 < (t.size : Int)) = true := decide_eq_true (by omega)
    clear h1 e1 e2 e3
    have HE : Hid (Below w.heap.size w (w.alloc (.cells #[.string ByteArray.empty, .int .i64 0, .string ByteArray.empty, .int .i64 2] 31))) := (Below.refl _ _).alloc (Nat.le_refl _) _
    go_enter Tryz.func11, Tryz.ntmps11
    go_wp2_with fail
    refine bodyPost_ret (v := .agg #[.string ByteArray.empty, .int .i64 0, .string ByteArray.empty, .int .i64 2]) (by simp [results, Tryz.results11, go_sem]; try rfl) rfl ?_
    exact ⟨rfl, HE.out⟩
  have d1 : decide (8000 < (t.size : Int)) = false := decide_eq_false (by omega)
  have ht8 : t.size ≤ 8000 := by omega
  have HC : Hid (∀ b, heaB t = b → heaC t = (if b = true then 0 else 3) ∧ heaS t = (if b = true then haS t else 0) ∧ heaR t = (if b = true then haR t else ByteArray.empty)) := fun b hb => by
    cases b with
    | true => exact hea_good h1 hb
    | false => exact hea_bad h1 hb
  have hle := ha_le t ht8
  obtain ⟨W2, hW2⟩ : ∃ W2, W2 = (w.alloc (.cells #[.string ⟨#[]⟩, .int .i64 0, .string ⟨#[]⟩, .int .i64 0] 31)).alloc (.cells #[.string t, .int .i64 0, .bool false] 81) := ⟨_, rfl⟩
  have HW2 : Hid (W2 = (w.alloc (.cells #[.string ⟨#[]⟩, .int .i64 0, .string ⟨#[]⟩, .int .i64 0] 31)).alloc (.cells #[.string t, .int .i64 0, .bool false] 81)) := hW2
  have S2 : Hid (W2.heap.size = w.heap.size + 2) := by show _ = _; rw [hW2, szA, szA]
  have B2 : Hid (Below w.heap.size w W2) := by rw [hW2]; exact alB ((Below.refl _ _).alloc (Nat.le_refl _) _) _
  have R2 : Hid (Bxs W2 w.heap.size 31 #[.string ByteArray.empty, .int .i64 0, .string ByteArray.empty, .int .i64 0]) := by rw [hW2]; exact (Bxs.new _ _ _).alloc _
  have K2 : Hid (Bxs W2 (w.heap.size + 1) 81 #[.string t, .int .i64 0, .bool false]) := by
    rw [hW2]
    have h := Bxs.new (w.alloc (.cells #[.string ⟨#[]⟩, .int .i64 0, .string ⟨#[]⟩, .int .i64 0] 31)) 81 #[.string t, .int .i64 0, .bool false]
    rwa [szA] at h
  have HN : Hid (∀ x, Below W2.heap.size W2 x → Calls Tryz.prog 43 #[.pointer (some ⟨w.heap.size + 1, 0, none⟩)] x fun e w' => e = .returned (.int .i64 (haS t)) ∧ Bxs w' (w.heap.size + 1) 81 #[.string t, .int .i64 (haA t), .bool (haB t)] ∧ x.grownBy w' (some (w.heap.size + 1))) := fun x hx => rdNum_any (w.heap.size + 1) t 0 false x (K2.out.below hx) ht8 (by omega)
  have HT : Hid (∀ x, Bxs x (w.heap.size + 1) 81 #[.string t, .int .i64 (haA t), .bool (haB t)] → Calls Tryz.prog 44 #[.pointer (some ⟨w.heap.size + 1, 0, none⟩)] x fun e w' => e = .returned (.string (haR t)) ∧ Bxs w' (w.heap.size + 1) 81 #[.string t, .int .i64 (haE t), .bool (haF t)] ∧ x.grownBy w' (some (w.heap.size + 1))) := fun x hx => rdText_any (w.heap.size + 1) t (haA t) (haB t) x hx ht8 (by omega)
  have HEa : Hid (∀ y, Bxs y (w.heap.size + 1) 81 #[.string t, .int .i64 (haA t), .bool (haB t)] → W2.grownBy y (some (w.heap.size + 1)) → HdS w y.heap.size t (haA t) (haB t) (haS t) ByteArray.empty (y.alloc (.cells #[.string ⟨#[]⟩, .int .i64 (haS t), .string ⟨#[]⟩] 24))) := fun y hy hg => by
    have h2 := S2.out
    have h3 := hg.size
    have hb : Below w.heap.size w y := below_turned B2.out hg B2.out.size (by omega)
    exact ⟨hy.alloc _, Bxs.new _ _ _, (R2.out.grown hg (by simp)).alloc _, alB hb _, by omega⟩
  have HI : Hid (∀ x, Calls Tryz.prog 45 #[.int .i64 (haS t), .int .i64 1, .int .i64 64] x fun e w' => e = .returned (.bool (decide (1 ≤ haS t ∧ haS t ≤ 64))) ∧ w' = x) := fun x => l07Is_any _ _ _ x
  have HB0 : Hid (heaB t = (!(haF t) && ((decide (1 ≤ haS t ∧ haS t ≤ 64) && decide ((haR t).size = 32)) && (haE t == (t.size : Int))))) := rfl
  clear hW2 h1 K2
  generalize haS t = NS at *
  generalize haR t = TR at *
  generalize haE t = AE at *
  generalize haF t = FE at *
  generalize haA t = AA at *
  generalize haB t = AB at *
  generalize heaB t = HB at *
  generalize heaC t = HCc at *
  generalize heaS t = HSs at *
  generalize heaR t = HRr at *
  go_enter Tryz.func11, Tryz.ntmps11
  go_upto_region 4 with fail
  rw [← HW2.out]
  go_wp2_with fail
  with_reducible refine (HN.out W2 (Below.refl _ _)).mono ?_
  rintro e y ⟨rfl, hy, hg⟩
  have HE : Hid _ := HEa.out y hy hg
  clear hy hg
  go_upto_region 5 with fail
  obtain ⟨E, hE⟩ : ∃ E, E = y.heap.size := ⟨_, rfl⟩
  have hE2 : y.heap.size = E := hE.symm
  rw [hE2] at HE ⊢
  clear hE
  generalize y.alloc (.cells #[.string ⟨#[]⟩, .int .i64 NS, .string ⟨#[]⟩] 24) = y4 at *
  clear hE2
  go_wp2_with fail
  with_reducible refine (HT.out y4 HE.out.rd).mono ?_
  rintro e z ⟨rfl, hz, hg⟩
  have HF : Hid _ := HE.out.call hz hg
  clear hz hg HE
  have c2 := HF.out.bx.cell 2
  have f2 := HF.out.bx.fr 2
  simp at c2
  have HG : Hid _ := HF.out.root (r' := TR)
  clear HF
  go_upto_region 6 with fail
  generalize z.setCell ⟨E, 2, none⟩ (.string TR) = z5 at *
  clear c2 f2
  have hI := HI.out z5
  have b1 : z5.cell? ⟨E, 1, none⟩ = some (.int .i64 NS) := HG.out.bx.cell 1
  have b2 : z5.cell? ⟨E, 2, none⟩ = some (.string TR) := HG.out.bx.cell 2
  have r1 : z5.cell? ⟨w.heap.size + 1, 1, none⟩ = some (.int .i64 AE) := HG.out.rd.cell 1
  have r2 : z5.cell? ⟨w.heap.size + 1, 2, none⟩ = some (.bool FE) := HG.out.rd.cell 2
  have g0 := HG.out.rs.fr 0
  have g1 := HG.out.rs.fr 1
  have g2 := HG.out.rs.fr 2
  have g3 := HG.out.rs.fr 3
  have q0 : z5.cell? ⟨w.heap.size, 0, none⟩ = some (.string ByteArray.empty) := HG.out.rs.cell 0
  have q1 : z5.cell? ⟨w.heap.size, 1, none⟩ = some (.int .i64 0) := HG.out.rs.cell 1
  have q2 : z5.cell? ⟨w.heap.size, 2, none⟩ = some (.string ByteArray.empty) := HG.out.rs.cell 2
  have q3 : z5.cell? ⟨w.heap.size, 3, none⟩ = some (.int .i64 0) := HG.out.rs.cell 3
  have b0 : z5.cell? ⟨E, 0, none⟩ = some (.string ByteArray.empty) := HG.out.bx.cell 0
  have d4 : (AE == (t.size : Int)) = decide (AE = (t.size : Int)) := by
    by_cases h : AE = (t.size : Int)
    · rw [decide_eq_true h]; exact beq_iff_eq.2 h
    · rw [decide_eq_false h]; exact beq_eq_false_iff_ne.2 h
  cases hF : FE
  case true =>
    rw [hF] at r2
    have hb : HB = false := by rw [HB0.out]; rw [hF]; rfl
    obtain ⟨e1, e2, e3⟩ := HC.out _ hb
    simp only [Bool.false_eq_true, if_false] at e1 e2 e3
    subst e1 e2 e3
    go_wp2_with fail
    obtain ⟨K, HEd⟩ := HG.out.end4 (.string ⟨#[]⟩) (.int .i64 0) (.string ⟨#[]⟩) (.int .i64 3)
    generalize ((((z5.setCell ⟨w.heap.size, 0, none⟩ (.string ⟨#[]⟩)).setCell ⟨w.heap.size, 1, none⟩ (.int .i64 0)).setCell ⟨w.heap.size, 2, none⟩ (.string ⟨#[]⟩)).setCell ⟨w.heap.size, 3, none⟩ (.int .i64 3)) = zz at *
    have HEn : Hid (Below w.heap.size w zz) := HEd
    have k0 : zz.cell? ⟨w.heap.size, 0, none⟩ = some (.string ByteArray.empty) := K.cell 0
    have k1 : zz.cell? ⟨w.heap.size, 1, none⟩ = some (.int .i64 0) := K.cell 1
    have k2 : zz.cell? ⟨w.heap.size, 2, none⟩ = some (.string ByteArray.empty) := K.cell 2
    have k3 : zz.cell? ⟨w.heap.size, 3, none⟩ = some (.int .i64 3) := K.cell 3
    refine bodyPost_ret (v := .agg #[.string ByteArray.empty, .int .i64 0, .string ByteArray.empty, .int .i64 3]) (by simp [results, Tryz.results11, go_sem, k0, k1, k2, k3]) rfl ?_
    exact ⟨rfl, HEn.out⟩
  rw [hF] at r2 HB0
  generalize decide (1 ≤ NS ∧ NS ≤ 64) = IB at *
  cases IB
  case false =>
    have hb : HB = false := by rw [HB0.out]; simp
    obtain ⟨e1, e2, e3⟩ := HC.out _ hb
    simp only [Bool.false_eq_true, if_false] at e1 e2 e3
    subst e1 e2 e3
    go_wp2_with fail
    refine hI.mono ?_
    rintro e z6 ⟨rfl, rfl⟩
    go_wp2_with fail
    obtain ⟨K, HEd⟩ := HG.out.end4 (.string ⟨#[]⟩) (.int .i64 0) (.string ⟨#[]⟩) (.int .i64 3)
    generalize ((((z6.setCell ⟨w.heap.size, 0, none⟩ (.string ⟨#[]⟩)).setCell ⟨w.heap.size, 1, none⟩ (.int .i64 0)).setCell ⟨w.heap.size, 2, none⟩ (.string ⟨#[]⟩)).setCell ⟨w.heap.size, 3, none⟩ (.int .i64 3)) = zz at *
    have HEn : Hid (Below w.heap.size w zz) := HEd
    have k0 : zz.cell? ⟨w.heap.size, 0, none⟩ = some (.string ByteArray.empty) := K.cell 0
    have k1 : zz.cell? ⟨w.heap.size, 1, none⟩ = some (.int .i64 0) := K.cell 1
    have k2 : zz.cell? ⟨w.heap.size, 2, none⟩ = some (.string ByteArray.empty) := K.cell 2
    have k3 : zz.cell? ⟨w.heap.size, 3, none⟩ = some (.int .i64 3) := K.cell 3
    refine bodyPost_ret (v := .agg #[.string ByteArray.empty, .int .i64 0, .string ByteArray.empty, .int .i64 3]) (by simp [results, Tryz.results11, go_sem, k0, k1, k2, k3]) rfl ?_
    exact ⟨rfl, HEn.out⟩
  by_cases c4 : TR.size = 32
  case neg =>
    have f4 : ¬ (TR.size : Int) = 32 := by omega
    have hb : HB = false := by rw [HB0.out]; rw [decide_eq_false c4]; simp
    obtain ⟨e1, e2, e3⟩ := HC.out _ hb
    simp only [Bool.false_eq_true, if_false] at e1 e2 e3
    subst e1 e2 e3
    go_wp2_with fail
    refine hI.mono ?_
    rintro e z6 ⟨rfl, rfl⟩
    go_wp2_with fail
    obtain ⟨K, HEd⟩ := HG.out.end4 (.string ⟨#[]⟩) (.int .i64 0) (.string ⟨#[]⟩) (.int .i64 3)
    generalize ((((z6.setCell ⟨w.heap.size, 0, none⟩ (.string ⟨#[]⟩)).setCell ⟨w.heap.size, 1, none⟩ (.int .i64 0)).setCell ⟨w.heap.size, 2, none⟩ (.string ⟨#[]⟩)).setCell ⟨w.heap.size, 3, none⟩ (.int .i64 3)) = zz at *
    have HEn : Hid (Below w.heap.size w zz) := HEd
    have k0 : zz.cell? ⟨w.heap.size, 0, none⟩ = some (.string ByteArray.empty) := K.cell 0
    have k1 : zz.cell? ⟨w.heap.size, 1, none⟩ = some (.int .i64 0) := K.cell 1
    have k2 : zz.cell? ⟨w.heap.size, 2, none⟩ = some (.string ByteArray.empty) := K.cell 2
    have k3 : zz.cell? ⟨w.heap.size, 3, none⟩ = some (.int .i64 3) := K.cell 3
    refine bodyPost_ret (v := .agg #[.string ByteArray.empty, .int .i64 0, .string ByteArray.empty, .int .i64 3]) (by simp [results, Tryz.results11, go_sem, k0, k1, k2, k3]) rfl ?_
    exact ⟨rfl, HEn.out⟩
  have f4 : (TR.size : Int) = 32 := by omega
  by_cases c5 : AE = (t.size : Int)
  case neg =>
    rw [decide_eq_false c5] at d4
    have hb : HB = false := by rw [HB0.out]; rw [d4]; simp
    obtain ⟨e1, e2, e3⟩ := HC.out _ hb
    simp only [Bool.false_eq_true, if_false] at e1 e2 e3
    subst e1 e2 e3
    go_wp2_with fail
    refine hI.mono ?_
    rintro e z6 ⟨rfl, rfl⟩
    go_wp2_with fail
    obtain ⟨K, HEd⟩ := HG.out.end4 (.string ⟨#[]⟩) (.int .i64 0) (.string ⟨#[]⟩) (.int .i64 3)
    generalize ((((z6.setCell ⟨w.heap.size, 0, none⟩ (.string ⟨#[]⟩)).setCell ⟨w.heap.size, 1, none⟩ (.int .i64 0)).setCell ⟨w.heap.size, 2, none⟩ (.string ⟨#[]⟩)).setCell ⟨w.heap.size, 3, none⟩ (.int .i64 3)) = zz at *
    have HEn : Hid (Below w.heap.size w zz) := HEd
    have k0 : zz.cell? ⟨w.heap.size, 0, none⟩ = some (.string ByteArray.empty) := K.cell 0
    have k1 : zz.cell? ⟨w.heap.size, 1, none⟩ = some (.int .i64 0) := K.cell 1
    have k2 : zz.cell? ⟨w.heap.size, 2, none⟩ = some (.string ByteArray.empty) := K.cell 2
    have k3 : zz.cell? ⟨w.heap.size, 3, none⟩ = some (.int .i64 3) := K.cell 3
    refine bodyPost_ret (v := .agg #[.string ByteArray.empty, .int .i64 0, .string ByteArray.empty, .int .i64 3]) (by simp [results, Tryz.results11, go_sem, k0, k1, k2, k3]) rfl ?_
    exact ⟨rfl, HEn.out⟩
  have hb : HB = true := by rw [HB0.out, d4, decide_eq_true c4, decide_eq_true c5]; rfl
  rw [decide_eq_true c5] at d4
  obtain ⟨e1, e2, e3⟩ := HC.out _ hb
  simp only [if_true] at e1 e2 e3
  replace e2 := e2.symm
  replace e3 := e3.symm
  subst e1 e2 e3
  go_wp2_with fail
  refine hI.mono ?_
  rintro e z6 ⟨rfl, rfl⟩
  go_wp2_with fail
  obtain ⟨K, HEd⟩ := HG.out.end4 (.string ByteArray.empty) (.int .i64 NS) (.string TR) (.int .i64 0)
  generalize ((((z6.setCell ⟨w.heap.size, 0, none⟩ (.string ByteArray.empty)).setCell ⟨w.heap.size, 1, none⟩ (.int .i64 NS)).setCell ⟨w.heap.size, 2, none⟩ (.string TR)).setCell ⟨w.heap.size, 3, none⟩ (.int .i64 0)) = zz at *
  have HEn : Hid (Below w.heap.size w zz) := HEd
  have k0 : zz.cell? ⟨w.heap.size, 0, none⟩ = some (.string ByteArray.empty) := K.cell 0
  have k1 : zz.cell? ⟨w.heap.size, 1, none⟩ = some (.int .i64 NS) := K.cell 1
  have k2 : zz.cell? ⟨w.heap.size, 2, none⟩ = some (.string TR) := K.cell 2
  have k3 : zz.cell? ⟨w.heap.size, 3, none⟩ = some (.int .i64 0) := K.cell 3
  refine bodyPost_ret (v := .agg #[.string ByteArray.empty, .int .i64 NS, .string TR, .int .i64 0]) (by simp [results, Tryz.results11, go_sem, k0, k1, k2, k3]) rfl ?_
  exact ⟨rfl, HEn.out⟩
end Go.Proofs.YtonleickhincgaaGreatDoor
/-
  The program's takeProof: what is taken, step by step, makes the trees of old entries and of size.
  Conditions: the proof's cells hold the texts; the two tables lie as the program's text lays them.
-/
namespace Go.Proofs.YtonleickhincgaaGreatDoor
open Go.RowKit Go.Lib
set_option linter.unusedVariables false
set_option maxRecDepth 20000

set_option maxHeartbeats 1000000 in
theorem takeProof_any (N : Nat) : ∀ (W0 : World) (L A : Nat) (p : Option Addr) (ss : List ByteArray) (cap a m : Nat) (whole : ByteArray) (w : World), Tabs W0 → TxtAt W0 p ss → ss.length ≤ 1048576 → ss.length ≤ cap → (∀ x ∈ ss, x.size = 32) →
    whole.size ≤ 32 → 1 ≤ m → m ≤ N → N ≤ 9223372036854775807 → TkS W0 L A p ss cap a w →
    Calls Tryz.prog 174 #[.int .i64 (m : Int), .int .i64 (N : Int), .string whole, takeF L A] w fun e w' => e = .returned (.tuple #[.string (startC ss (pd m N) whole a).1, .string (startC ss (pd m N) whole a).2.1]) ∧ TkS W0 L A p ss cap (startC ss (pd m N) whole a).2.2 w' := by
  induction N using Nat.strongRecOn with
  | _ N ih =>
  intro W0 L A p ss cap a m whole w hT hp hn hcap h32 hwh hm1 hm hN hK
  have HT : Hid (Tabs W0) := hT
  have HP : Hid (TxtAt W0 p ss) := hp
  have H32 : Hid (∀ x ∈ ss, x.size = 32) := h32
  have HK : Hid (TkS W0 L A p ss cap a w) := hK
  clear hT hp h32 hK
  unfold takeF at ih ⊢
  by_cases he : m = N
  · subst he
    have d0 : ((m : Int) == (m : Int)) = true := by simp
    rw [pd_all]
    clear ih
    by_cases hz : whole.size = 0
    · have HS : Hid (startC ss [] whole a = (tk ss a, tk ss a, nx ss a)) := by show _ = _; unfold startC seedC; simp [lft, hz]
      have hwe : whole = ByteArray.empty := ByteArray.ext (Array.eq_empty_of_size_eq_zero hz)
      subst hwe
      have hc := take_any W0 L A p ss cap a w HP.out hn hcap HK.out
      rw [HS.out]
      clear HS
      generalize tk ss a = X at *
      go_enter Tryz.func174, Tryz.ntmps174
      go_wp2_with fail
      refine hc.mono ?_
      rintro e w3 ⟨rfl, K3⟩
      have HK3 : Hid (TkS W0 L A p ss cap (nx ss a) w3) := K3
      clear K3
      go_wp2_with fail
      go_ret2
      exact ⟨rfl, HK3.out⟩
    · have HS : Hid (startC ss [] whole a = (whole, whole, a)) := by show _ = _; unfold startC seedC; simp [lft, hz]
      have q0 : (whole.toList == []) = false := by
        rw [beq_eq_false_iff_ne, ByteArray.toList_eq]
        intro h
        apply hz
        rw [size_eq, h]; rfl
      rw [HS.out]
      clear HS
      go_enter Tryz.func174, Tryz.ntmps174
      go_wp2_with fail
      go_ret2
      exact ⟨rfl, HK.out⟩
  · have d0 : ((m : Int) == (N : Int)) = false := by simp; omega
    have h2 : 2 ≤ N := by omega
    have h1 := halfN_lt h2
    have h0 := halfN_pos N
    have hH := fun w => power_any N w h2 hN
    by_cases hik : m ≤ halfN N
    · have I := ih (halfN N) h1 W0 L A p ss cap a m whole w HT.out HP.out hn hcap H32.out hwh hm1 hik (by omega) HK.out
      have z1 := startC_size H32.out (pd m (halfN N)) hwh a
      rw [pd_left h2 he hik, startC_left]
      generalize startC ss (pd m (halfN N)) whole a = S at *
      obtain ⟨T, U, a1⟩ := S
      have HS : Hid (stepC ss (T, U, a1) false = (T, nodeA U (tk ss a1), nx ss a1)) := rfl
      have z2 := tk_size H32.out a1
      dsimp only at I z1
      obtain ⟨z1, z1'⟩ := z1
      rw [HS.out]
      clear HS
      have HTk : Hid (∀ w', TkS W0 L A p ss cap a1 w' → Calls Tryz.prog 197 #[.pointer (some ⟨A, 0, none⟩), .pointer (some ⟨L, 0, none⟩)] w' fun e w'' => e = .returned (.string (tk ss a1)) ∧ TkS W0 L A p ss cap (nx ss a1) w'') := fun w' h => take_any W0 L A p ss cap a1 w' HP.out hn hcap h
      generalize tk ss a1 = X at *
      generalize halfN N = k at *
      clear ih he
      go_enter Tryz.func174, Tryz.ntmps174
      go_wp2_with fail
      refine (hH _).mono ?_
      rintro e w1 ⟨rfl, hw1⟩
      subst hw1
      go_wp2_with fail
      refine I.mono ?_
      rintro e w2 ⟨rfl, K2⟩
      have HK2 : Hid (TkS W0 L A p ss cap a1 w2) := K2
      clear K2
      go_wp2_with fail
      refine (HTk.out _ HK2.out).mono ?_
      rintro e w3 ⟨rfl, K3⟩
      have HK3 : Hid (TkS W0 L A p ss cap (nx ss a1) w3) := K3
      clear K3
      go_wp2_with fail
      refine (implNode_any U X _ (HT.out.below HK3.out.bel HT.out.1) (by unfold maxLen; omega) (by unfold maxLen; omega)).mono ?_
      rintro e w4 ⟨rfl, b4⟩
      go_wp2_with fail
      go_ret2
      exact ⟨rfl, HK3.out.below b4⟩
    · have I := ih (N - halfN N) (by omega) W0 L A p ss cap a (m - halfN N) ByteArray.empty w HT.out HP.out hn hcap H32.out (by simp) (by omega) (by omega) (by omega) HK.out
      have z1 := startC_size H32.out (pd (m - halfN N) (N - halfN N)) (whole := ByteArray.empty) (by simp) a
      rw [pd_right h2 he hik, startC_right]
      generalize startC ss (pd (m - halfN N) (N - halfN N)) ByteArray.empty a = S at *
      obtain ⟨T, U, a1⟩ := S
      have HS : Hid (stepC ss (T, U, a1) true = (nodeA (tk ss a1) T, nodeA (tk ss a1) U, nx ss a1)) := rfl
      have z2 := tk_size H32.out a1
      dsimp only at I z1
      obtain ⟨z1, z1'⟩ := z1
      rw [HS.out]
      clear HS
      have HTk : Hid (∀ w', TkS W0 L A p ss cap a1 w' → Calls Tryz.prog 197 #[.pointer (some ⟨A, 0, none⟩), .pointer (some ⟨L, 0, none⟩)] w' fun e w'' => e = .returned (.string (tk ss a1)) ∧ TkS W0 L A p ss cap (nx ss a1) w'') := fun w' h => take_any W0 L A p ss cap a1 w' HP.out hn hcap h
      generalize tk ss a1 = X at *
      generalize halfN N = k at *
      rw [show (((m - k : Nat) : Int)) = (m : Int) - k by omega, show (((N - k : Nat) : Int)) = (N : Int) - k by omega] at I
      have I' : Hid (Calls Tryz.prog 174 #[.int .i64 ((m : Int) - k), .int .i64 ((N : Int) - k), .string ⟨#[]⟩, .func (.func 197) #[] #[.pointer (some ⟨A, 0, none⟩), .pointer (some ⟨L, 0, none⟩)]] w fun e w' => e = .returned (.tuple #[.string T, .string U]) ∧ TkS W0 L A p ss cap a1 w') := I
      clear ih he I
      go_enter Tryz.func174, Tryz.ntmps174
      go_wp2_with fail
      refine (hH _).mono ?_
      rintro e w1 ⟨rfl, hw1⟩
      subst hw1
      go_wp2_with fail
      refine I'.out.mono ?_
      rintro e w2 ⟨rfl, K2⟩
      have HK2 : Hid (TkS W0 L A p ss cap a1 w2) := K2
      clear K2
      go_wp2_with fail
      refine (HTk.out _ HK2.out).mono ?_
      rintro e w3 ⟨rfl, K3⟩
      have HK3 : Hid (TkS W0 L A p ss cap (nx ss a1) w3) := K3
      clear K3
      go_wp2_with fail
      refine (implNode_any X T _ (HT.out.below HK3.out.bel HT.out.1) (by unfold maxLen; omega) (by unfold maxLen; omega)).mono ?_
      rintro e w4 ⟨rfl, b4⟩
      have HK4 : Hid (TkS W0 L A p ss cap (nx ss a1) w4) := HK3.out.below b4
      go_wp2_with fail
      refine (implNode_any X U _ (HT.out.below HK4.out.bel HT.out.1) (by unfold maxLen; omega) (by unfold maxLen; omega)).mono ?_
      rintro e w5 ⟨rfl, b5⟩
      go_wp2_with fail
      go_ret2
      exact ⟨rfl, HK4.out.below b5⟩
end Go.Proofs.YtonleickhincgaaGreatDoor
/-
  What the program's Consistent answers: 'conA'.
  Conditions: old and size are int64; the proof's cells hold the texts; the two tables lie as the program's text lays them.
-/
namespace Go.Proofs.YtonleickhincgaaGreatDoor
open Go.RowKit Go.Lib
set_option linter.unusedVariables false
set_option maxRecDepth 20000

set_option maxHeartbeats 2000000 in
theorem implCon_any (m n : Int) (p : Option Addr) (cap : Nat) (ss : List ByteArray) (was root : ByteArray) (w : World) (hT : Tabs w) (hp : TxtAt w p ss) (hn : ss.length ≤ 140737488355328) (hcap : ss.length ≤ cap)
    (m0 : -9223372036854775808 ≤ m) (m1 : m ≤ 9223372036854775807) (n0 : -9223372036854775808 ≤ n) (n1 : n ≤ 9223372036854775807) :
    Calls Tryz.prog 133 #[.int .i64 m, .int .i64 n, .slice p ss.length cap, .string was, .string root] w fun e w' => e = .returned (.bool (conA m n ss was root)) ∧ Below w.heap.size w w' := by
  have HT : Hid (Tabs w) := hT
  have HP : Hid (TxtAt w p ss) := hp
  clear hT hp
  have H0 : Hid (conA m n ss was root = if 1 ≤ m ∧ m ≤ n ∧ ss.length ≤ 64 ∧ was.size = 32 ∧ root.size = 32 ∧ wideB ss = true then conB m.toNat n.toNat ss was root else false) := rfl
  by_cases c1 : 1 ≤ m
  case neg =>
    have d1 : decide (m < 1) = true := decide_eq_true (by omega)
    have H : Hid (conA m n ss was root = false) := H0.out.trans (if_neg fun h => c1 h.1)
    go_enter Tryz.func133, Tryz.ntmps133
    go_wp2_with fail
    go_ret
    exact ⟨ret_bool H.out.symm, Below.refl _ _⟩
  have d1 : decide (m < 1) = false := decide_eq_false (by omega)
  by_cases c2 : m ≤ n
  case neg =>
    have d2 : decide (n < m) = true := decide_eq_true (by omega)
    have H : Hid (conA m n ss was root = false) := H0.out.trans (if_neg fun h => c2 h.2.1)
    go_enter Tryz.func133, Tryz.ntmps133
    go_wp2_with fail
    go_ret
    exact ⟨ret_bool H.out.symm, Below.refl _ _⟩
  have d2 : decide (n < m) = false := decide_eq_false (by omega)
  by_cases c3 : ss.length ≤ 64
  case neg =>
    have d3 : decide (64 < (ss.length : Int)) = true := decide_eq_true (by omega)
    have H : Hid (conA m n ss was root = false) := H0.out.trans (if_neg fun h => c3 h.2.2.1)
    go_enter Tryz.func133, Tryz.ntmps133
    go_wp2_with fail
    go_ret
    exact ⟨ret_bool H.out.symm, Below.refl _ _⟩
  have d3 : decide (64 < (ss.length : Int)) = false := decide_eq_false (by omega)
  have B0 : Hid (Below w.heap.size w (w.alloc (.cells #[.string was, .string root] 9))) := (Below.refl _ _).alloc (Nat.le_refl _) _
  have HA := areD_any _ 2 [was, root] _ (two_texts w was root 9) (by simp) (by simp)
  by_cases c4 : was.size = 32 ∧ root.size = 32
  case neg =>
    have H : Hid (conA m n ss was root = false) := H0.out.trans (if_neg fun h => c4 ⟨h.2.2.2.1, h.2.2.2.2.1⟩)
    have HW : Hid (wideB [was, root] = false) := by show _ = _; simp only [wideB, List.all_cons, List.all_nil, Bool.and_true]; simpa [Bool.and_eq_false_iff] using fun a b => c4 ⟨a, b⟩
    rw [HW.out] at HA
    clear c4
    go_enter Tryz.func133, Tryz.ntmps133
    go_wp2_with fail
    refine HA.mono ?_
    rintro e w1 ⟨rfl, hw1⟩
    subst hw1
    go_wp2_with fail
    go_ret
    exact ⟨ret_bool H.out.symm, B0.out⟩
  obtain ⟨c4, c5⟩ := c4
  have HW : Hid (wideB [was, root] = true) := by show _ = _; simp [wideB, c4, c5]
  rw [HW.out] at HA
  clear HW
  obtain ⟨W1, hW1⟩ : ∃ W1, W1 = w.alloc (.cells #[.string was, .string root] 9) := ⟨_, rfl⟩
  rw [← hW1] at HA B0
  have HWA : Hid (W1 = w.alloc (.cells #[.string was, .string root] 9)) := hW1
  clear hW1
  have HD := areD_any p cap ss W1 (HP.out.below B0.out) hn hcap
  cases c6 : wideB ss
  · have H : Hid (conA m n ss was root = false) := H0.out.trans (if_neg fun h => by rw [c6] at h; exact absurd h.2.2.2.2.2 (by simp))
    rw [c6] at HD
    clear c6
    go_enter Tryz.func133, Tryz.ntmps133
    go_wp2_with fail
    rw [← HWA.out]
    refine HA.mono ?_
    rintro e w1 ⟨rfl, hw1⟩
    subst hw1
    go_wp2_with fail
    refine HD.mono ?_
    rintro e w1 ⟨rfl, hw1⟩
    subst hw1
    go_wp2_with fail
    go_ret
    exact ⟨ret_bool H.out.symm, B0.out⟩
  have H : Hid (conA m n ss was root = conB m.toNat n.toNat ss was root) := H0.out.trans (if_pos ⟨c1, c2, c3, c4, c5, c6⟩)
  rw [c6] at HD
  have h32 := wideB_all c6
  have HE : Hid (((startC ss (pd m.toNat n.toNat) was 0).1 = was ∧ (startC ss (pd m.toNat n.toNat) was 0).2.1 = root ∧ (startC ss (pd m.toNat n.toNat) was 0).2.2 = ss.length) ↔ conB m.toNat n.toNat ss was root = true) := conI h32 c4 c5 _ _
  clear c6 H0
  obtain ⟨I, rfl⟩ := Int.eq_ofNat_of_zero_le (show 0 ≤ m by omega)
  obtain ⟨M, rfl⟩ := Int.eq_ofNat_of_zero_le (show 0 ≤ n by omega)
  have HTK := taker_any p ss cap W1
  have HTP := fun w' => takeProof_any M W1 W1.heap.size (W1.heap.size + 1) p ss cap 0 I was w' (HT.out.below B0.out HT.out.1) (HP.out.below B0.out) (by omega) hcap h32 (by omega) (by omega) (by omega) (by omega)
  simp only [Int.toNat_natCast] at HE H
  have d4 : decide (M < I) = false := decide_eq_false (by omega)
  generalize startC ss (pd I M) was 0 = S at *
  clear h32
  obtain ⟨X, Y, a⟩ := S
  have HTP' : Hid (∀ w', TkS W1 W1.heap.size (W1.heap.size + 1) p ss cap 0 w' → Calls Tryz.prog 174 #[.int .i64 (I : Int), .int .i64 (M : Int), .string was, takeF W1.heap.size (W1.heap.size + 1)] w' fun e w'' => e = .returned (.tuple #[.string X, .string Y]) ∧ TkS W1 W1.heap.size (W1.heap.size + 1) p ss cap a w'') := HTP
  clear HTP
  dsimp only at HE
  unfold takeF at HTP' HTK
  unfold leftF at HTK
  rw [H.out]
  generalize conB I M ss was root = R at *
  clear H
  have hXq : (X.toList == was.toList) = true ∨ ((X.toList == was.toList) = false ∧ Hid (R = false)) := by
    cases hq : (X.toList == was.toList)
    · refine .inr ⟨rfl, ?_⟩
      show R = false
      cases R
      · rfl
      · have := (HE.out.2 rfl).1; subst this; simp at hq
    · exact .inl rfl
  have hYq : (Y.toList == root.toList) = true ∨ ((Y.toList == root.toList) = false ∧ Hid (R = false)) := by
    cases hq : (Y.toList == root.toList)
    · refine .inr ⟨rfl, ?_⟩
      show R = false
      cases R
      · rfl
      · have := (HE.out.2 rfl).2.1; subst this; simp at hq
    · exact .inl rfl
  rcases hXq with q1 | ⟨q1, HR⟩
  · rcases hYq with q2 | ⟨q2, HR⟩
    · have HE2 : Hid (a = ss.length ↔ R = true) := ⟨fun h => HE.out.1 ⟨toList_inj' q1, toList_inj' q2, h⟩, fun h => (HE.out.2 h).2.2⟩
      clear HE
      go_enter Tryz.func133, Tryz.ntmps133
      go_wp2_with fail
      rw [← HWA.out]
      refine HA.mono ?_
      rintro e w1 ⟨rfl, hw1⟩
      subst hw1
      go_wp2_with fail
      refine HD.mono ?_
      rintro e w1 ⟨rfl, hw1⟩
      subst hw1
      go_wp2_with fail
      refine HTK.mono ?_
      rintro e w2 ⟨rfl, K2⟩
      have HK2 : Hid _ := K2
      clear K2
      go_wp2_with fail
      refine (HTP'.out _ HK2.out).mono ?_
      rintro e w3 ⟨rfl, K3⟩
      have HK3 : Hid (TkS w1 w1.heap.size (w1.heap.size + 1) p ss cap a w3) := K3
      clear K3
      go_wp2_with fail
      refine (left_any w1 w1.heap.size (w1.heap.size + 1) p ss cap a w3 (by omega) HK3.out).mono ?_
      rintro e w4 ⟨rfl, hw4⟩
      subst hw4
      have hle := HK3.out.le
      go_wp2_with fail
      go_ret
      refine ⟨ret_bool' ?_, B0.out.trans (HK3.out.bel.mono B0.out.size)⟩
      rw [← HE2.out]; simp; omega
    · clear HE
      go_enter Tryz.func133, Tryz.ntmps133
      go_wp2_with fail
      rw [← HWA.out]
      refine HA.mono ?_
      rintro e w1 ⟨rfl, hw1⟩
      subst hw1
      go_wp2_with fail
      refine HD.mono ?_
      rintro e w1 ⟨rfl, hw1⟩
      subst hw1
      go_wp2_with fail
      refine HTK.mono ?_
      rintro e w2 ⟨rfl, K2⟩
      have HK2 : Hid _ := K2
      clear K2
      go_wp2_with fail
      refine (HTP'.out _ HK2.out).mono ?_
      rintro e w3 ⟨rfl, K3⟩
      have HK3 : Hid (TkS w1 w1.heap.size (w1.heap.size + 1) p ss cap a w3) := K3
      clear K3
      go_wp2_with fail
      go_ret
      exact ⟨ret_bool HR.out.symm, B0.out.trans (HK3.out.bel.mono B0.out.size)⟩
  · clear HE hYq
    go_enter Tryz.func133, Tryz.ntmps133
    go_wp2_with fail
    rw [← HWA.out]
    refine HA.mono ?_
    rintro e w1 ⟨rfl, hw1⟩
    subst hw1
    go_wp2_with fail
    refine HD.mono ?_
    rintro e w1 ⟨rfl, hw1⟩
    subst hw1
    go_wp2_with fail
    refine HTK.mono ?_
    rintro e w2 ⟨rfl, K2⟩
    have HK2 : Hid _ := K2
    clear K2
    go_wp2_with fail
    refine (HTP'.out _ HK2.out).mono ?_
    rintro e w3 ⟨rfl, K3⟩
    have HK3 : Hid (TkS w1 w1.heap.size (w1.heap.size + 1) p ss cap a w3) := K3
    clear K3
    go_wp2_with fail
    go_ret
    exact ⟨ret_bool HR.out.symm, B0.out.trans (HK3.out.bel.mono B0.out.size)⟩
end Go.Proofs.YtonleickhincgaaGreatDoor
/-
  What the program's goesOn and Clash answer: 'claB'.
  Conditions: the slice's cells hold those texts; the two tables of the digest are laid.
-/
namespace Go.Proofs.YtonleickhincgaaGreatDoor
open Go.RowKit Go.Lib
set_option linter.unusedVariables false
set_option maxRecDepth 20000

theorem Tabs.on {w w' : World} (h : Tabs w) (hb : Below w.heap.size w w') : Tabs w' := h.below hb h.1
set_option maxHeartbeats 1000000 in
theorem goesOn_any (ka : ByteArray) (sa : Int) (ra kb : ByteArray) (sb : Int) (rb : ByteArray) (p : Option Addr) (cap : Nat) (ss : List ByteArray) (w : World) (hT : Tabs w) (hp : TxtAt w p ss) (hn : ss.length ≤ 1048576) (hcap : ss.length ≤ cap)
    (a0 : -9223372036854775808 ≤ sa ∧ sa ≤ 9223372036854775807) (b0 : -9223372036854775808 ≤ sb ∧ sb ≤ 9223372036854775807) :
    Calls Tryz.prog 82 #[.agg #[.string ka, .int .i64 sa, .string ra], .agg #[.string kb, .int .i64 sb, .string rb], .slice p ss.length cap] w fun e w' => e = .returned (.bool (conA sa sb ss ra rb)) ∧ Below w.heap.size w w' := by
  obtain ⟨W1, hW1⟩ : ∃ W1, W1 = (w.alloc (.cells #[.string ka, .int .i64 sa, .string ra] 24)).alloc (.cells #[.string kb, .int .i64 sb, .string rb] 24) := ⟨_, rfl⟩
  have HW1 : Hid (W1 = (w.alloc (.cells #[.string ka, .int .i64 sa, .string ra] 24)).alloc (.cells #[.string kb, .int .i64 sb, .string rb] 24)) := hW1
  obtain ⟨b1, k1, k2⟩ := two_boxes w 24 ka sa ra kb sb rb hW1
  have B1 : Hid (Below w.heap.size w W1) := b1
  obtain ⟨x0, x1, x2⟩ := k1.thr
  obtain ⟨x3, x4, x5⟩ := k2.thr
  have hC := implCon_any sa sb p cap ss ra rb W1 (hT.on b1) (hp.below b1) (by omega) hcap a0.1 a0.2 b0.1 b0.2
  clear b1 k1 k2 hW1 hT hp a0 b0
  generalize conA sa sb ss ra rb = C at *
  go_enter Tryz.func82, Tryz.ntmps82
  go_wp2_with fail
  try rw [← HW1.out]
  try go_wp2_with fail
  with_reducible refine hC.mono ?_
  rintro e y3 ⟨rfl, z4⟩
  go_wp2_with fail
  go_ret
  exact ⟨rfl, chainB B1.out z4⟩
end Go.Proofs.YtonleickhincgaaGreatDoor
