/-
  Parts of one proof, laid as one text: PolAns, KeepM, AfMath, LawAf, StepApp, OwnB, Turn2; what each says stands at its head.
-/
import Derived.Test.YtokkeadbkeehgaaGreatDoorRows
import Derived.Test.YtokkeadbkeehgaaGreatDoorBytesDigMathTreeMathSlASlBBxKOwnSTakesLTillTwo
import Derived.Test.YtokkeadbkeehgaaGreatDoorNameRight
import Derived.Test.YtokkeadbkeehgaaGreatDoorLgAtKShwKOneKFldGFldBlkRwBlkIntKLawILawOGLawImBlNotRulMathAppS
import Derived.Test.YtokkeadbkeehgaaGreatDoorRulBlkLawRlLawPoLawSLawM
import Derived.Test.YtokkeadbkeehgaaGreatDoorLawSwLfMathLaMathLfSumPolMathPolIdxRulIdxPolO
import Derived.Test.YtokkeadbkeehgaaGreatDoorLawLkRowOpsLgOLawLo
import Derived.Handy
import Derived.OwnWalk
import Derived.Test.YtokkeadbkeehgaaGreatDoorTimeBPutMathPutNumJoinedPutTextFldMathFldRiseScanMath
import Derived.Test.YtokkeadbkeehgaaGreatDoorGetValGetTxtNumMathFldRdNumFromTmbMathLgMath
import Derived.Test.YtokkeadbkeehgaaGreatDoorLawLqLgAnsLgRtLtMathLawLtLawFXLawLa
import Derived.Test.YtokkeadbkeehgaaGreatDoorLawRmLawPoMTakesLawFLawFRLawSG
import Derived.Test.YtokkeadbkeehgaaGreatDoorLawLzLawMGLawFMLawLm
import Derived.WalkSpells
import Derived.Deep.AppendLies
import Derived.Deep.RegionLaw
import Derived.WalkSmall
import Derived.ArgAppend
import Derived.Lib.LazyBuf
import Derived.Laws.BytesArg
import Derived.Laws.OwnMore
/-
  What the functions on policies answer, as plain functions; rows of a policy that are written anew.
-/
namespace Go.Proofs.YtokkeadbkeehgaaGreatDoor
open Go.RowKit Go.Lib
set_option linter.unusedVariables false

def hoT (hs : List Int) (r : Int) : Nat := twI (ltI r) hs
def hoB (hs : List Int) (r : Int) : Bool := thereB (ltI r) (eqI r) hs
def hoC (rs : List Rul) (hs : List Int) (r : Int) : Int := if polB rs hs = true ∧ heB r = true then (if hoB hs r = true then 7 else 0) else 1
def hoR (rs : List Rul) (hs : List Int) (r : Int) : List Rul := if hoC rs hs r = 0 then rs else []
def hoH (rs : List Rul) (hs : List Int) (r : Int) : List Int := if hoC rs hs r = 0 then hs.take (hoT hs r) ++ [r] ++ hs.drop (hoT hs r) else []
def frC (rs : List Rul) (hs : List Int) (r : Int) : Int := if polB rs hs = true ∧ heB r = true then (if hoB hs r = true then 0 else 6) else 1
def frR (rs : List Rul) (hs : List Int) (r : Int) : List Rul := if frC rs hs r = 0 then rs else []
def frH (rs : List Rul) (hs : List Int) (r : Int) : List Int := if frC rs hs r = 0 then hs.take (hoT hs r) ++ hs.drop (hoT hs r + 1) else []
def rpT (rs : List Rul) (R : Rul) : Nat := twI (ltR R.k R.f) rs
def rpB (rs : List Rul) (R : Rul) : Bool := thereB (ltR R.k R.f) (eqR R.k R.f) rs
def rpC (rs : List Rul) (hs : List Int) (R : Rul) : Int := if polB rs hs = true ∧ ruB R = true then (if rpB rs R = true then 0 else if rs.length = 6 then 9 else 0) else 1
def rpR (rs : List Rul) (hs : List Int) (R : Rul) : List Rul := if rpC rs hs R = 0 then (if rpB rs R = true then rs.set (rpT rs R) R else rs.take (rpT rs R) ++ [R] ++ rs.drop (rpT rs R)) else []
def rpH (rs : List Rul) (hs : List Int) (R : Rul) : List Int := if rpC rs hs R = 0 then hs else []
def rdT (rs : List Rul) (k f : ByteArray) : Nat := twI (ltR k f) rs
def rdB (rs : List Rul) (k f : ByteArray) : Bool := thereB (ltR k f) (eqR k f) rs
def rdC (rs : List Rul) (hs : List Int) (k f : ByteArray) : Int := if 8000 < k.size ∨ 8000 < f.size then 2 else if polB rs hs = true then (if rdB rs k f = true then 0 else 6) else 1
def rdR (rs : List Rul) (hs : List Int) (k f : ByteArray) : List Rul := if rdC rs hs k f = 0 then rs.take (rdT rs k f) ++ rs.drop (rdT rs k f + 1) else []
def rdH (rs : List Rul) (hs : List Int) (k f : ByteArray) : List Int := if rdC rs hs k f = 0 then hs else []
theorem nrB_len20 {s : ByteArray} (h : nrB s = true) : 1 ≤ s.size ∧ s.size ≤ 20 := by
  unfold nrB at h
  rw [decide_eq_true_iff] at h
  exact ⟨h.1, h.2.1⟩
theorem there_lt {α : Type} {lt q : α → Bool} {l : List α} (h : thereB lt q l = true) : twI lt l < l.length := by
  unfold thereB at h
  split at h
  · assumption
  · cases h
theorem polB_parts {rs : List Rul} {hs : List Int} (h : polB rs hs = true) : rs.length ≤ 6 ∧ okL ruB ruLt rs = true ∧ okL heB heLt hs = true ∧ hs.length ≤ 6 ∧ ∀ r ∈ rs, r.k.size ≤ 20 ∧ r.f.size ≤ 20 := by
  unfold polB at h
  simp only [Bool.and_eq_true, decide_eq_true_eq] at h
  obtain ⟨h1, h2, h3⟩ := h
  refine ⟨h1, h2, h3, held_len h3, fun r hr => ?_⟩
  have := (okL_parts h2).1 r hr
  unfold ruB rulB at this
  simp only [Bool.and_eq_true] at this
  exact ⟨(nrB_len20 this.1).2, (nrB_len20 this.2.1).2⟩
theorem ruB_le {R : Rul} (h : ruB R = true) : R.k.size ≤ 20 ∧ R.f.size ≤ 20 := by
  unfold ruB rulB at h
  simp only [Bool.and_eq_true] at h
  exact ⟨(nrB_len20 h.1).2, (nrB_len20 h.2.1).2⟩
/-- The second row of a policy was written anew. -/
theorem PolO.new2 {base : Nat} {rs : List Rul} {hs hs' : List Int} {v1 v2 v2' : Value} {w w' : World} (h : PolO base rs hs v1 v2 w) (hg : w.grownBy w' v2.ownBlock) (ho : w'.ownsRow base 2 1 v2' hs'.length (intRow hs')) (hl : Lies w v2 v2') : PolO base rs hs' v1 v2' w' := by
  refine ⟨h.own1.kept hg h.ne, ho, ?_⟩
  cases h1 : v1.ownBlock with
  | none => exact .inl rfl
  | some j =>
    refine .inr (fun e => ?_)
    rcases hl j e.symm with q | q
    · rcases h.ne with h0 | h0
      · rw [h1] at h0; cases h0
      · exact h0 (h1.trans q.symm)
    · have := (h.lt.1 j h1).2; omega
/-- The first row of a policy was written anew. -/
theorem PolO.new1 {base : Nat} {rs rs' : List Rul} {hs : List Int} {v1 v1' v2 : Value} {w w' : World} (h : PolO base rs hs v1 v2 w) (hg : w.grownBy w' v1.ownBlock) (ho : w'.ownsRow base 101 4 v1' rs'.length (rulRow rs')) (hl : Lies w v1 v1') : PolO base rs' hs v1' v2 w' := by
  have hn : v2.ownBlock = none ∨ v2.ownBlock ≠ v1.ownBlock := by
    rcases h.ne with h0 | h0
    · cases h2 : v2.ownBlock with
      | none => exact .inl rfl
      | some j => exact .inr (by rw [h0]; simp)
    · exact .inr (fun e => h0 e.symm)
  refine ⟨ho, h.own2.kept hg hn, ?_⟩
  cases h1 : v1'.ownBlock with
  | none => exact .inl rfl
  | some j =>
    refine .inr (fun e => ?_)
    rcases hl j h1 with q | q
    · rcases hn with h0 | h0
      · rw [h0] at e; cases e
      · exact h0 (e.symm.trans q.symm)
    · have := (h.lt.2 j e.symm).2; omega
/-- The second row replaced by another one, of memory that came later. -/
theorem PolO.put2 {base : Nat} {rs : List Rul} {hs hs' : List Int} {v1 v2 v2' : Value} {w w' : World} (h : PolO base rs hs v1 v2 w) (hb : Below w.heap.size w w') (ho : w'.ownsRow w.heap.size 2 1 v2' hs'.length (intRow hs')) (hw : base ≤ w.heap.size) : PolO base rs hs' v1 v2' w' := by
  refine ⟨ownS_below h.own1 hb, own_lower ho hw, ?_⟩
  cases h1 : v1.ownBlock with
  | none => exact .inl rfl
  | some j => exact .inr (fun e => by have := (h.lt.1 j h1).2; have := (ho.lt j e.symm).1; omega)
theorem PolO.put1 {base : Nat} {rs rs' : List Rul} {hs : List Int} {v1 v1' v2 : Value} {w w' : World} (h : PolO base rs hs v1 v2 w) (hb : Below w.heap.size w w') (ho : w'.ownsRow w.heap.size 101 4 v1' rs'.length (rulRow rs')) (hw : base ≤ w.heap.size) : PolO base rs' hs v1' v2 w' := by
  refine ⟨own_lower ho hw, ownS_below h.own2 hb, ?_⟩
  cases h1 : v1'.ownBlock with
  | none => exact .inl rfl
  | some j => exact .inr (fun e => by have := (ho.lt j h1).1; have := (h.lt.2 j e.symm).2; omega)
end Go.Proofs.YtokkeadbkeehgaaGreatDoor
/-
  What may be forgotten, as plain functions: is a row held, has a field to be kept.
-/
namespace Go.Proofs.YtokkeadbkeehgaaGreatDoor
open Go.RowKit Go.Lib
set_option linter.unusedVariables false

def rulZ : Rul := ⟨ByteArray.empty, ByteArray.empty, 0, 0⟩
def heldB (hs : List Int) (r : Int) : Bool := decide (0 ≤ fstI (eqI r) hs)
/-- The rule of a kind and field: its place among the rules; -1: there is none. -/
def ruI (us : List Rul) (k f : ByteArray) : Int := fstI (eqR k f) us
def ruO (us : List Rul) (k f : ByteArray) : Rul := us.getD (ruI us k f).toNat rulZ
/-- It has to be kept still. -/
def lateB (us : List Rul) (k f : ByteArray) (a now : Int) : Bool := decide (0 ≤ ruI us k f) && decide (now < a + (ruO us k f).l)
def mfO (rs : List Rw) (lv : List ByteArray) (now : Int) (us : List Rul) (hs : List Int) (r f : Int) : Int :=
  if lgB rs lv now = true ∧ polB us hs = true then
    (if fcO rs r f = 0 then (if heldB hs r = true then 11 else if lateB us (rs.getD r.toNat rwZ).k (fldOf rs r f).n (rs.getD r.toNat rwZ).a now = true then 8 else 0) else fcO rs r f)
  else 1
theorem fst_range {α : Type} (q : α → Bool) (l : List α) : fstI q l = -1 ∨ (0 ≤ fstI q l ∧ (fstI q l).toNat < l.length ∧ ∃ h : (fstI q l).toNat < l.length, q l[(fstI q l).toNat] = true) := by
  unfold fstI
  split
  · rename_i h
    refine .inr ⟨by omega, by simpa using h, by simpa using h, ?_⟩
    have := tw_at (fun x => !q x) l h
    simpa using this
  · exact .inl rfl
/-- A row and a field that are there, and not gone. -/
theorem fc_there {rs : List Rw} {r f : Int} (h : fcO rs r f = 0) : ∃ (R F : Nat) (hR : R < rs.length) (hF : F < rs[R].fs.length), r = (R : Int) ∧ f = (F : Int) ∧ rs.getD r.toNat rwZ = rs[R] ∧ fldOf rs r f = rs[R].fs[F] ∧ rs[R].fs[F].g = false := by
  unfold fcO at h
  split at h
  · rename_i h1
    split at h
    · rename_i h2
      obtain ⟨R, rfl⟩ := Int.eq_ofNat_of_zero_le h1.1
      obtain ⟨F, rfl⟩ := Int.eq_ofNat_of_zero_le h2.1
      have hR : R < rs.length := by omega
      have e1 : rs.getD (R : Int).toNat rwZ = rs[R] := by rw [Int.toNat_natCast, List.getD_eq_getElem?_getD, List.getElem?_eq_getElem hR]; rfl
      rw [e1] at h2
      have hF : F < rs[R].fs.length := by omega
      have e2 : fldOf rs (R : Int) (F : Int) = rs[R].fs[F] := by
        unfold fldOf
        rw [e1, Int.toNat_natCast, List.getD_eq_getElem?_getD, List.getElem?_eq_getElem hF]; rfl
      refine ⟨R, F, hR, hF, rfl, rfl, e1, e2, ?_⟩
      rw [e2] at h
      cases hg : rs[R].fs[F].g with
      | false => rfl
      | true => rw [hg] at h; simp at h
    · omega
  · omega
/-- What a rule says at a time: kept, due, or neither. -/
def stI (l e n : Int) : Int := if n < l then 1 else if e ≤ n then 2 else 0
theorem rule_times {us : List Rul} {hs : List Int} (h : polB us hs = true) : ∀ r ∈ us, (0 ≤ r.l ∧ r.l ≤ 1000000) ∧ 0 ≤ r.m ∧ r.m ≤ 1000000 := fun r hr => by
  unfold polB at h
  simp only [Bool.and_eq_true, decide_eq_true_eq] at h
  have := (okL_parts h.2.1).1 r hr
  unfold ruB rulB timeB at this
  simp only [Bool.and_eq_true, decide_eq_true_eq] at this
  exact ⟨this.2.2.1, this.2.2.2.1⟩
end Go.Proofs.YtokkeadbkeehgaaGreatDoor
/-
  What AskForget answers (plain); a SweepOut of its own memory.
-/
namespace Go.Proofs.YtokkeadbkeehgaaGreatDoor
open Go.RowKit Go.Lib
set_option linter.unusedVariables false
set_option maxRecDepth 20000

/-- A SweepOut of its own memory. -/
def SwA (base : Nat) (rs : List Rw) (lv : List ByteArray) (now K C : Int) (e : Ending) (w : World) : Prop := ∃ v1 v2 xs, e = .returned (.agg #[v1, v2, .int .i64 now, .int .i64 K, .int .i64 C]) ∧ xs.map (·.1) = rs ∧ LgO base xs lv v1 v2 w
def afR (rs : List Rw) (lv : List ByteArray) (now : Int) (us : List Rul) (hs : List Int) (r f : Int) : List Rw := if mfO rs lv now us hs r f = 0 then lfR rs lv now r f 1 else []
def afL (rs : List Rw) (lv : List ByteArray) (now : Int) (us : List Rul) (hs : List Int) (r f : Int) : List ByteArray := if mfO rs lv now us hs r f = 0 then lfL rs lv now r f 1 else []
def afN (rs : List Rw) (lv : List ByteArray) (now : Int) (us : List Rul) (hs : List Int) (r f : Int) : Int := if mfO rs lv now us hs r f = 0 then now else 0
def afK (rs : List Rw) (lv : List ByteArray) (now : Int) (us : List Rul) (hs : List Int) (r f : Int) : Int := if mfO rs lv now us hs r f = 0 then 1 else 0
theorem af_bad {rs : List Rw} {lv : List ByteArray} {now : Int} {us : List Rul} {hs : List Int} {r f : Int} (h : ¬ mfO rs lv now us hs r f = 0) : afR rs lv now us hs r f = [] ∧ afL rs lv now us hs r f = [] ∧ afN rs lv now us hs r f = 0 ∧ afK rs lv now us hs r f = 0 := ⟨if_neg h, if_neg h, if_neg h, if_neg h⟩
theorem mf_zero {rs : List Rw} {lv : List ByteArray} {now : Int} {us : List Rul} {hs : List Int} {r f : Int} (h : mfO rs lv now us hs r f = 0) : lgB rs lv now = true ∧ fcO rs r f = 0 ∧ lfC rs lv now r f 1 = 0 := by
  unfold mfO at h
  by_cases h1 : lgB rs lv now = true ∧ polB us hs = true
  · rw [if_pos h1] at h
    by_cases h2 : fcO rs r f = 0
    · refine ⟨h1.1, h2, ?_⟩
      unfold lfC
      rw [h1.1, h2]; rfl
    · rw [if_neg h2] at h; exact absurd h h2
  · rw [if_neg h1] at h; omega
theorem af_good {rs : List Rw} {lv : List ByteArray} {now : Int} {us : List Rul} {hs : List Int} {r f : Int} (h : mfO rs lv now us hs r f = 0) : afR rs lv now us hs r f = rs.set r.toNat (fgt rs r f) ∧ afL rs lv now us hs r f = lv ++ [tmRaw ⟨r, f, 1, now⟩] ∧ afN rs lv now us hs r f = now ∧ afK rs lv now us hs r f = 1 := by
  obtain ⟨h1, h2, h3⟩ := mf_zero h
  obtain ⟨g1, g2, -⟩ := lf_good h3
  unfold afR afL afN afK
  rw [if_pos h, if_pos h, if_pos h, if_pos h]
  exact ⟨g1, g2, rfl, rfl⟩
end Go.Proofs.YtokkeadbkeehgaaGreatDoor
/-
  The laws' helpers for a log and a policy: marks, what stays, an answer put into a box that was made at any time.
-/
namespace Go.Proofs.YtokkeadbkeehgaaGreatDoor
open Go.RowKit Go.Lib
set_option linter.unusedVariables false
set_option maxRecDepth 20000

set_option maxHeartbeats 1000000 in
theorem markPolicyK_any (s : Nat) (hs1 : 1 ≤ s) (base : Nat) (p1 p2 : Option Addr) (c1 c2 : Nat) (ss : List Rul) (ps : List Int) (w : World) (o1 : w.ownsRow base 101 4 (.slice p1 ss.length c1) ss.length (rulRow ss)) (o2 : w.ownsRow base 2 1 (.slice p2 ps.length c2) ps.length (intRow ps)) (hne : (Value.slice p1 ss.length c1).ownBlock = none ∨ (Value.slice p1 ss.length c1).ownBlock ≠ (Value.slice p2 ps.length c2).ownBlock) (n1 : s + 4 * ss.length + ps.length ≤ 16777210) :
    Calls Tryz.prog 16 #[.agg #[.slice p1 ss.length c1, .slice p2 ps.length c2], .int .i64 (s : Int)] w fun e w' => e = .returned (.int .i64 ((ps.length : Int) + (4 * (ss.length : Int) + (s : Int)))) ∧ w'.ownsRow base 101 4 (.slice p1 ss.length c1) ss.length (rulRow (muN s ss.length)) ∧ w'.ownsRow base 2 1 (.slice p2 ps.length c2) ps.length (intRow (miN (4 * ss.length + s) ps.length)) ∧
      ∃ wm, w.grownBy wm (Value.slice p1 ss.length c1).ownBlock ∧ wm.grownBy w' (Value.slice p2 ps.length c2).ownBlock := by
  obtain ⟨W1, hW1⟩ : ∃ W1, W1 = w.alloc (.cells #[.slice p1 ss.length c1, .slice p2 ps.length c2] 40) := ⟨_, rfl⟩
  have HW1 : Hid (W1 = w.alloc (.cells #[.slice p1 ss.length c1, .slice p2 ps.length c2] 40)) := hW1
  have X1 : Hid (Bxs W1 w.heap.size 40 #[.slice p1 ss.length c1, .slice p2 ps.length c2]) := by rw [hW1]; exact Bxs.new _ _ _
  have E1 : Hid (some w.heap.size ≠ (Value.slice p1 ss.length c1).ownBlock) := ownP_ne o1 (Nat.le_refl _)
  have O1 : Hid (W1.ownsRow base 101 4 (.slice p1 ss.length c1) ss.length (rulRow ss)) := by rw [hW1]; exact o1.alloc _
  have O2 : Hid (W1.ownsRow base 2 1 (.slice p2 ps.length c2) ps.length (intRow ps)) := by rw [hW1]; exact o2.alloc _
  have HG : Hid (∀ wm, W1.grownBy wm (Value.slice p1 ss.length c1).ownBlock → w.grownBy wm (Value.slice p1 ss.length c1).ownBlock) := by
    rw [hW1]
    intro wm h
    exact ⟨h.os, h.tape, h.output, by have := h.size; simp at this; omega, fun b hb hn => (h.block b (by simp; omega) hn).trans (Below.heap_alloc _ _ _ hb)⟩
  have H1 := markU_any s hs1 base (.slice p1 ss.length c1) ss W1 O1.out (by omega)
  have HN : Hid ((Value.slice p2 ps.length c2).ownBlock = none ∨ (Value.slice p2 ps.length c2).ownBlock ≠ (Value.slice p1 ss.length c1).ownBlock) := by
    rcases hne with h | h
    · cases h1 : (Value.slice p2 ps.length c2).ownBlock with
      | none => exact .inl rfl
      | some b => exact .inr (by rw [h]; simp)
    · exact .inr (fun e => h e.symm)
  have HN2 : Hid ((Value.slice p1 ss.length c1).ownBlock = none ∨ (Value.slice p1 ss.length c1).ownBlock ≠ (Value.slice p2 ps.length c2).ownBlock) := hne
  clear hW1 o1 o2 hne
  go_enter Tryz.func16, Tryz.ntmps16
  go_wp2_with fail
  rw [← HW1.out]
  refine H1.mono ?_
  rintro e w2 ⟨rfl, q1, g1⟩
  have x2 : w2.cell? ⟨w.heap.size, 1, none⟩ = some (.slice p2 ps.length c2) := (X1.out.grown g1 E1.out).cell 1
  have q2 := O2.out.kept g1 HN.out
  have H2 := markIO_any (4 * ss.length + s) base (.slice p2 ps.length c2) ps w2 q2 (by omega)
  rw [show ((4 * ss.length + s : Nat) : Int) = 4 * (ss.length : Int) + (s : Int) by omega] at H2
  have Q1 : Hid (w2.ownsRow base 101 4 (.slice p1 ss.length c1) ss.length (rulRow (muN s ss.length))) := q1
  have G1 : Hid (W1.grownBy w2 (Value.slice p1 ss.length c1).ownBlock) := g1
  clear q1 q2 g1 H1 O1 O2 X1
  go_wp2_with fail
  refine H2.mono ?_
  rintro e w3 ⟨rfl, q3, g3⟩
  have Q3 : Hid (w3.ownsRow base 2 1 (.slice p2 ps.length c2) ps.length (intRow (miN (4 * ss.length + s) ps.length))) := q3
  have Q4 : Hid (w3.ownsRow base 101 4 (.slice p1 ss.length c1) ss.length (rulRow (muN s ss.length))) := Q1.out.kept g3 HN2.out
  have G3 : Hid (w2.grownBy w3 (Value.slice p2 ps.length c2).ownBlock) := g3
  clear q3 g3 H2 x2 Q1
  go_wp2_with fail
  go_ret
  exact ⟨rfl, Q4.out, Q3.out, w2, HG.out _ G1.out, G3.out⟩

theorem af_sum {rs : List Rw} {lv : List ByteArray} {now : Int} {us : List Rul} {hs : List Int} {r f : Int} : (afR rs lv now us hs r f).length + fsN (afR rs lv now us hs r f) + (afL rs lv now us hs r f).length ≤ 1048576 := by
  unfold afR afL
  by_cases h : mfO rs lv now us hs r f = 0
  · rw [if_pos h, if_pos h]; exact lf_sum
  · rw [if_neg h, if_neg h]; simp [fsN]
theorem BlkI.belw {w w' : World} {g : Nat} {ks : List Int} (h : BlkI w g ks) (hb : Below w.heap.size w w') : BlkI w' g ks := Bxs.below (T := 2) (cs := (intRow ks).toArray) h hb
theorem blkI_own {w : World} {g : Nat} {ks : List Int} (h : BlkI w g ks) (base : Nat) (hb : base ≤ g) (hm : ks.length ≤ maxLen) : w.ownsRow base 2 1 (.slice (some ⟨g, 0, none⟩) ks.length ks.length) ks.length (intRow ks) :=
  ⟨by simp [intRow], .inr ⟨g, ks.length, _, rfl, hb, h, Nat.le_refl _, hm, by simp [intRow], by rw [Nat.mul_one]; exact List.take_of_length_le (by simp [intRow])⟩⟩
/-- What stays: the arguments' boxes, two boxes of answers, a log of its own. -/
structure AfK (w : World) (A R : Array Value) (E1 E8 : Nat) (c1 c8 : Array Value) (xs : List (Rw × Value)) (lv : List ByteArray) (v1 v2 : Value) (x : World) : Prop where
  bel : Below w.heap.size w x
  ba : Bxs x w.heap.size 25 A
  br : Bxs x (w.heap.size + 1) 29 R
  b1 : Bxs x E1 50 c1
  b8 : Bxs x E8 50 c8
  lw : LgO w.heap.size xs lv v1 v2 x
section
variable {w x y : World} {A R c1 c8 : Array Value} {E1 E8 : Nat} {xs : List (Rw × Value)} {lv : List ByteArray} {v1 v2 : Value}
theorem AfK.below (h : AfK w A R E1 E8 c1 c8 xs lv v1 v2 x) (hb : Below x.heap.size x y) : AfK w A R E1 E8 c1 c8 xs lv v1 v2 y := ⟨chainB h.bel hb, h.ba.below hb, h.br.below hb, h.b1.below hb, h.b8.below hb, h.lw.below hb⟩
theorem AfK.but {S : Nat → Prop} (h : AfK w A R E1 E8 c1 c8 xs lv v1 v2 x) (k : But S x y) (hS : ∀ q, S q → w.heap.size + 1 < q ∧ q ≠ E1 ∧ q ≠ E8 ∧ ¬ lqS xs v1 v2 q) : AfK w A R E1 E8 c1 c8 xs lv v1 v2 y :=
  ⟨k.below h.bel h.bel.size (fun q hq => by have := (hS q hq).1; omega), h.ba.but k (fun e => by have := (hS _ e).1; omega), h.br.but k (fun e => by have := (hS _ e).1; omega), h.b1.but k (fun e => (hS _ e).2.1 rfl), h.b8.but k (fun e => (hS _ e).2.2.1 rfl), h.lw.but k (fun q hq hs => (hS q hs).2.2.2 hq)⟩
end
/-- A SweepOut that was put into a box of its own, made at some time behind the world x. -/
structure PuW (x : World) (xs : List (Rw × Value)) (lv : List ByteArray) (v1 v2 : Value) (NW KK CC : Int) (Eb : Nat) (wx : World) : Prop where
  eb : x.heap.size ≤ Eb
  box : Bxs wx Eb 50 #[v1, v2, .int .i64 NW, .int .i64 KK, .int .i64 CC]
  lg : LgO x.heap.size xs lv v1 v2 wx
  bel : Below x.heap.size x wx
theorem PuW.put {x y : World} {xs : List (Rw × Value)} {lv : List ByteArray} {v1 v2 u0 u1 u2 u3 u4 : Value} {NW KK CC : Int} {Eb : Nat} (k : Bxs y Eb 50 #[u0, u1, u2, u3, u4]) (eb : x.heap.size ≤ Eb) (lg : LgO x.heap.size xs lv v1 v2 y) (bel : Below x.heap.size x y) :
    PuW x xs lv v1 v2 NW KK CC Eb (((((y.setCell ⟨Eb, 0, none⟩ v1).setCell ⟨Eb, 1, none⟩ v2).setCell ⟨Eb, 2, none⟩ (.int .i64 NW)).setCell ⟨Eb, 3, none⟩ (.int .i64 KK)).setCell ⟨Eb, 4, none⟩ (.int .i64 CC)) :=
  ⟨eb, ((((k.set 0 _).set 1 _).set 2 _).set 3 _).set 4 _, ((((lg.box k (by decide) (by decide) (by decide) (set_grw y _ 0 v1)).box (k.set 0 v1) (by decide) (by decide) (by decide) (set_grw _ _ 1 v2)).box ((k.set 0 v1).set 1 v2) (by decide) (by decide) (by decide) (set_grw _ _ 2 _)).box (((k.set 0 v1).set 1 v2).set 2 _) (by decide) (by decide) (by decide) (set_grw _ _ 3 _)).box ((((k.set 0 v1).set 1 v2).set 2 _).set 3 _) (by decide) (by decide) (by decide) (set_grw _ _ 4 _), below_set5 bel eb _ _ _ _ _⟩
end Go.Proofs.YtokkeadbkeehgaaGreatDoor
/-
  An append in a region that draws its order, by its run.
-/
namespace Go.Proofs.YtokkeadbkeehgaaGreatDoor
open Go.RowKit
set_option linter.unusedVariables false

theorem step_append_run {P : Program} {w : World} {ops : Array Oper} {o : Oper} {a : Act} {K : Act → World → Prop} {Q : Exit → Act → World → Prop} {E : Prop} (hgd : o.guard = none) (s x : Operand) (t : TypeId)
    (ho : o.op = .call { callee := .builtin .append, args := #[s, x], argTypes := #[t, t] }) (v1 v2 v' : Value) (w' : World) (hs : a.eval s = v1) (hx : a.eval x = v2)
    (hr : (Builtin.append_ #[t, t] o.type #[v1, v2]).run P w = .ok v' w') (h : K (a.put o.dst v') w') :
    if Region.wanted o (yielded ops a.tmps) = true then Oper.wp P o a w K Q else E := by
  have hw : Region.wanted o (yielded ops a.tmps) = true := by simp [Region.wanted, hgd]
  rw [if_pos hw]
  unfold Oper.wp execOp
  simp only [ho, resolve, invoke, builtin, Sem.run_bind, Sem.run_pure, Result.andThen_ok, List.map_toArray, List.map_cons, List.map_nil, hs, hx, hr]
  exact h
end Go.Proofs.YtokkeadbkeehgaaGreatDoor
/-
  A row of bytes that the call made, one byte more at a time, also where the row came of a string ('[]byte(s)': the run-time's mark behind its last cell).
  Conditions: the row stays below 2^46 bytes.
-/
namespace Go.Proofs.YtokkeadbkeehgaaGreatDoor
open Go.RowKit Go.Lib
set_option linter.unusedVariables false

structure OwnB (w : World) (base g cap : Nat) (xs : List Int) : Prop where
  lo : base ≤ g
  hi : g < w.heap.size
  fit : xs.length ≤ cap
  max : cap ≤ maxLen
  room : ∀ j, j < cap → (w.cell? ⟨g, j, none⟩).isSome = true ∧ w.frozen? ⟨g, j, none⟩ = false
  cells : ∀ j (h : j < xs.length), w.cell? ⟨g, j, none⟩ = some (.int .u8 xs[j])

theorem OwnB.carry {w w' : World} {base g cap : Nat} {xs : List Int} (h : OwnB w base g cap xs) (hs : w.heap.size ≤ w'.heap.size) (hb : w'.heap[g]? = w.heap[g]?) : OwnB w' base g cap xs :=
  ⟨h.lo, Nat.lt_of_lt_of_le h.hi hs, h.fit, h.max, fun j hj => by
    have e1 : w'.cell? ⟨g, j, none⟩ = w.cell? ⟨g, j, none⟩ := World.cell?_of_block hb
    have e2 : w'.frozen? ⟨g, j, none⟩ = w.frozen? ⟨g, j, none⟩ := World.frozen?_of_block hb
    rw [e1, e2]; exact h.room j hj, fun j hj => by
    have e1 : w'.cell? ⟨g, j, none⟩ = w.cell? ⟨g, j, none⟩ := World.cell?_of_block hb
    rw [e1]; exact h.cells j hj⟩
theorem OwnB.drew {w : World} {base g cap : Nat} {xs : List Int} (h : OwnB w base g cap xs) : OwnB w.drew base g cap xs := h.carry (Nat.le_refl _) rfl
theorem OwnB.alloc {w : World} {base g cap : Nat} {xs : List Int} (h : OwnB w base g cap xs) (o : Obj) : OwnB (w.alloc o) base g cap xs :=
  h.carry (by simp) (Below.heap_alloc w o g h.hi)
theorem OwnB.below {w w' : World} {base g cap : Nat} {xs : List Int} (h : OwnB w base g cap xs) (hb : Below w.heap.size w w') : OwnB w' base g cap xs :=
  h.carry hb.size (hb.block g h.hi)

theorem ownB_of_row {w : World} {base g n cap : Nat} {xs : List Int} {T : TypeId} (h : w.ownsRow base T 1 (.slice (some ⟨g, 0, none⟩) n cap) n (xs.map (Value.int .u8))) (hx : xs.length = n) : OwnB w base g cap xs := by
  have hlt := h.lt g rfl
  rcases h.2 with ⟨h0, _⟩ | ⟨g2, cap2, cur, hv, hb, hg, hn, hc, hs, ht⟩
  · cases h0
  · cases hv
    refine ⟨hb, hlt.2, by omega, hc, fun j hj => ?_, fun j hj => ?_⟩
    · have : j < cur.size := by omega
      simp [World.cell?, World.frozen?, hg, this]
    · rw [h.cellAt j (by omega)]
      simp [List.getElem?_eq_getElem hj]

theorem ownB_of_string (w : World) (s : ByteArray) (T : TypeId) (hs : s.size ≤ maxLen) :
    OwnB (w.drew.alloc (.cells (bytesRow s (grownCap w s.size 0 T)) T ((bytesRow s (grownCap w s.size 0 T)).size, (bytesRow s (grownCap w s.size 0 T)).size + 1))) w.heap.size w.heap.size (grownCap w s.size 0 T) (bytesN s) := by
  have hge := grownCap_ge w s.size 0 T
  have hle := grownCap_le_maxLen w s.size 0 T hs
  generalize grownCap w s.size 0 T = C at *
  have hsz : (bytesRow s C).size = C := by
    have : s.data.size = s.size := rfl
    simp [bytesRow, this]; omega
  have hat : (w.drew.alloc (.cells (bytesRow s C) T ((bytesRow s C).size, (bytesRow s C).size + 1))).heap[w.heap.size]? = some (.cells (bytesRow s C) T ((bytesRow s C).size, (bytesRow s C).size + 1)) := heap_alloc_new w.drew _
  refine ⟨Nat.le_refl _, by simp, by rw [bytesN_len]; exact hge, hle, fun j hj => ?_, fun j hj => ?_⟩
  · rw [hsz] at hat ⊢
    refine ⟨?_, ?_⟩
    · have : j < (bytesRow s C).size := by omega
      simp only [World.cell?, hat]
      simp [this]
    · simp only [World.frozen?, hat]
      simp; omega
  · rw [bytesN_len] at hj
    have h2 : j < s.data.size := hj
    simp only [World.cell?, hat]
    simp [bytesRow, bytesN, Array.getElem?_append, hj]

theorem append_b {P : Program} (w : World) (t ty e : TypeId) (i : TypeInfo) (ht : P.underlying t = some (.slice e)) (hi : P.info? e = some i) (hz : i.zero = some (.int .u8 0)) (hz1 : i.size = 1) (hz2 : i.bytes = 1)
    (base g cap : Nat) (xs : List Int) (h : OwnB w base g cap xs) (ad : Addr) (c : Nat) (x : Int) (hx : w.cell? (ad.add 0) = some (.int .u8 x)) (hlen : xs.length < 70368744177664) (hB : base ≤ w.heap.size) :
    ∃ g' cap' w', (Builtin.append_ #[t, t] ty #[.slice (some ⟨g, 0, none⟩) xs.length cap, .slice (some ad) 1 c]).run P w = .ok (.slice (some ⟨g', 0, none⟩) (xs.length + 1) cap') w' ∧
      OwnB w' base g' cap' (xs ++ [x]) ∧ ∀ w0, Below base w0 w → Below base w0 w' := by
  have hnews : ∀ j u, [Value.int .u8 x][j]? = some u → w.cell? (ad.add j) = some u := fun j u hj => by
    match j with
    | 0 => simp at hj; rw [hx, hj]
    | j + 1 => simp at hj
  by_cases hroom : xs.length + 1 ≤ cap
  · have hr := run_append_room_cells (P := P) w t ty e i ht hi g 0 xs.length cap ad 1 c [.int .u8 x] (by rw [hz1]; rfl) hnews (by simp [Value.oneCell']) hroom
      (fun j hj => by rw [hz1]; have : j = 0 := by simpa using hj
                      subst this; simpa using (h.room xs.length (by omega)).1)
      (fun j hj => by rw [hz1]; have : j = 0 := by simpa using hj
                      subst this; simpa using (h.room xs.length (by omega)).2)
    rw [hz1, Nat.zero_add, Nat.mul_one] at hr
    have e0 : (w.setCells g xs.length [.int .u8 x]) = w.setCell ⟨g, xs.length, none⟩ (.int .u8 x) := rfl
    rw [e0] at hr
    have hcs : (w.cell? ⟨g, xs.length, none⟩).isSome = true := (h.room xs.length (by omega)).1
    have hin := World.cell?_setCells_in g [.int .u8 x] xs.length w (fun j hj => by have : j = 0 := by simpa using hj
                                                                                   subst this; exact hcs) 0 (by simp)
    rw [e0] at hin
    have hout : ∀ j, j ≠ xs.length → (w.setCell ⟨g, xs.length, none⟩ (.int .u8 x)).cell? ⟨g, j, none⟩ = w.cell? ⟨g, j, none⟩ := fun j hj => by
      have := World.cell?_setCells_out g [.int .u8 x] xs.length w ⟨g, j, none⟩ (fun _ _ => by simp; omega)
      rwa [e0] at this
    have hfz : ∀ a, (w.setCell ⟨g, xs.length, none⟩ (.int .u8 x)).frozen? a = w.frozen? a := fun a => by
      have := World.frozen?_setCells g [.int .u8 x] xs.length w a
      rwa [e0] at this
    refine ⟨g, cap, _, hr, ⟨h.lo, by simpa using h.hi, by simpa using hroom, h.max, fun j hj => ?_, fun j hj => ?_⟩, fun w0 hb => hb.setCell h.lo _⟩
    · rw [hfz]
      refine ⟨?_, (h.room j hj).2⟩
      by_cases hjn : j = xs.length
      · subst hjn; simp at hin; simp [hin]
      · rw [hout j hjn]; exact (h.room j hj).1
    · by_cases hjn : j = xs.length
      · subst hjn; simp at hin; simp [hin]
      · have hj' : j < xs.length := by simp at hj; omega
        rw [hout j hjn, h.cells j hj', List.getElem_append_left hj']
  · obtain ⟨v', w', hr, hown, hgr⟩ := run_append_arg_grows (P := P) w t ty e i (.int .u8 0) 1 1 ht hi hz hz1 hz2 rfl (by omega) ⟨g, 0, none⟩ xs.length cap (xs.map (Value.int .u8)) (by simp)
      (fun j u hj => by
        have hjl : j < xs.length := by
          rcases Nat.lt_or_ge j xs.length with hh | hh
          · exact hh
          · rw [List.getElem?_eq_none (by simpa using hh)] at hj; cases hj
        have e : (⟨g, 0, none⟩ : Addr).add j = ⟨g, j, none⟩ := by unfold Addr.add; split <;> simp_all
        rw [e, h.cells j hjl]
        simp [List.getElem?_eq_getElem hjl] at hj
        rw [← hj]) ad 1 c [.int .u8 x] rfl hnews (by omega) (by unfold maxLen; omega) (by omega)
    obtain ⟨g', cap', rfl, hbg, hlt⟩ := hown.form (by omega)
    have ho2 := ownB_of_row (xs := xs ++ [x]) (by rw [List.map_append]; exact hown) (by simp)
    refine ⟨g', cap', w', hr, ⟨Nat.le_trans hB hbg, ho2.hi, ho2.fit, ho2.max, ho2.room, ho2.cells⟩, fun w0 hb => hb.grown hgr hB (fun k hk => by cases hk)⟩

theorem wpList_append_run {P : Program} {w : World} {ops : Array Oper} {rest : List Oper} {o : Oper} {a : Act} {Q : Exit → Act → World → Prop} (hgd : o.guard = none) (s x : Operand) (t : TypeId)
    (ho : o.op = .call { callee := .builtin .append, args := #[s, x], argTypes := #[t, t] }) (v1 v2 v' : Value) (w' : World) (hs : a.eval s = v1) (hx : a.eval x = v2)
    (hr : (Builtin.append_ #[t, t] o.type #[v1, v2]).run P w = .ok v' w') (h : wpList P ops Q rest (a.put o.dst v') w') : wpList P ops Q (o :: rest) a w :=
  wpList_plain hgd fun _ hK => by
    unfold Oper.wp execOp
    simp only [ho, resolve, invoke, builtin, Sem.run_bind, Sem.run_pure, Result.andThen_ok, List.map_toArray, List.map_cons, List.map_nil, hs, hx, hr]
    exact hK _ _ h

theorem conv_b {w : World} {base g cap : Nat} {xs : List Int} (h : OwnB w base g cap xs) (off len c : Nat) (hl : off + len ≤ xs.length) :
    (convert 167 9 (.slice (some ⟨g, off, none⟩) len c)).run Tryz.prog w = .ok (.string (strOfNums ((xs.drop off).take len))) w :=
  run_convert_bytes_arg (P := Tryz.prog) w 167 5 Tryz.underlying167 Tryz.underlying5 g off len c ((xs.drop off).take len) (by simp; omega) (fun i hi => by
    rw [h.cells (off + i) (by omega), List.getD_eq_getElem?_getD, List.getElem?_take_of_lt hi, List.getElem?_drop, List.getElem?_eq_getElem (by omega)]; rfl) 9 Tryz.underlying9
end Go.Proofs.YtokkeadbkeehgaaGreatDoor
/-
  The specification's small parts of SHA-256: a number of 32 bits turned right ('turnR x k'), the keys of the rounds and the first state, each in new memory.
  Conditions: the number is from 0 to 2^32 - 1, k from 0 to 32.
-/
namespace Go.Proofs.YtokkeadbkeehgaaGreatDoor
open Go.RowKit Go.Lib
set_option linter.unusedVariables false

set_option maxHeartbeats 400000 in
theorem specTurn_any (x : Int) (k : Nat) (w : World) (h0 : 0 ≤ x) (h1 : x ≤ 4294967295) (hk : k ≤ 32) :
    Calls Tryz.prog 176 #[.int .u32 x, .int .u64 k] w fun e w' => e = .returned (.int .u32 (turnR x k)) ∧ w' = w := by
  go_enter Tryz.func176, Tryz.ntmps176
  go_wp2
  go_ret
  exact ⟨rfl, rfl⟩

theorem specTurn_c (x c : Int) (w : World) (h0 : 0 ≤ x) (h1 : x ≤ 4294967295) (c0 : 0 ≤ c) (c1 : c ≤ 32) :
    Calls Tryz.prog 176 #[.int .u32 x, .int .u64 c] w fun e w' => e = .returned (.int .u32 (turnR x c.toNat)) ∧ w' = w := by
  obtain ⟨k, rfl⟩ : ∃ k : Nat, c = k := ⟨c.toNat, by omega⟩
  exact specTurn_any x k w h0 h1 (by omega)

set_option maxHeartbeats 1000000 in
set_option maxRecDepth 20000 in
theorem specStart_any (w : World) :
    Calls Tryz.prog 163 #[] w fun e w' => e = .returned (.slice (some ⟨w.heap.size, 0, none⟩) 8 8) ∧ w' = w.alloc (.cells (startN.map (Value.int .i64)).toArray 2) := by
  go_enter Tryz.func163, Tryz.ntmps163
  go_wp2
  go_ret
  exact ⟨rfl, rfl⟩

set_option maxHeartbeats 4000000 in
set_option maxRecDepth 20000 in
theorem specKeys_any (w : World) :
    Calls Tryz.prog 177 #[] w fun e w' => e = .returned (.slice (some ⟨w.heap.size, 0, none⟩) 64 64) ∧ w' = w.alloc (.cells (keysN.map (Value.int .u32)).toArray 162) := by
  go_enter Tryz.func177, Tryz.ntmps177
  go_wp2
  go_ret
  exact ⟨rfl, rfl⟩
end Go.Proofs.YtokkeadbkeehgaaGreatDoor
