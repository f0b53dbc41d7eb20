/-
  Parts of one proof, laid as one text: PolO, PolAns, FldIs, OwnB, Turn2; what each says stands at its head.
-/
import Derived.Test.YtifomfimfdgjjaaGreatDoorRows
import Derived.Test.YtifomfimfdgjjaaGreatDoorBytesDigMath
import Derived.Test.YtifomfimfdgjjaaGreatDoorSlASlBBxKTakesOwnS
import Derived.Test.YtifomfimfdgjjaaGreatDoorOpFOpLgBlNotRulMathIntKPolMath
import Derived.Test.YtifomfimfdgjjaaGreatDoorOpPAppSRulBlk
import Derived.Test.YtifomfimfdgjjaaGreatDoorLawRlLawILawOGLawIm
import Derived.Test.YtifomfimfdgjjaaGreatDoorLawPoLgAnsPolIdxRulIdxKeepMRowOps
import Derived.Handy
import Derived.OwnWalk
import Derived.Test.YtifomfimfdgjjaaGreatDoorNameRight
import Derived.Test.YtifomfimfdgjjaaGreatDoorTimeBPutMathPutNum
import Derived.WalkSpells
import Derived.WalkSmall
import Derived.ArgAppend
import Derived.Lib.LazyBuf
import Derived.Laws.BytesArg
import Derived.Laws.OwnMore
import Derived.Deep.AppendLies
/-
  A policy of its own two rows; what stays while other memory is written.
-/
namespace Go.Proofs.YtifomfimfdgjjaaGreatDoor
open Go.RowKit Go.Lib
set_option linter.unusedVariables false

theorem intRow_len (ks : List Int) : (intRow ks).length = ks.length := by simp [intRow]
theorem IntAt.cel {w : World} {p : Option Addr} {ks : List Int} (h : IntAt w p ks) : CelAt w p (intRow ks) := fun j hj => by
  obtain ⟨b, off, e, h1, h2⟩ := h j (by simpa [intRow] using hj)
  exact ⟨b, off, e, h1, by rw [h2]; simp [intRow]⟩
theorem intAt_cel {w : World} {p : Option Addr} {ks : List Int} (h : CelAt w p (intRow ks)) : IntAt w p ks := fun j hj => by
  obtain ⟨b, off, e, h1, h2⟩ := h j (by simpa [intRow] using hj)
  exact ⟨b, off, e, h1, by rw [h2]; simp [intRow]⟩
theorem rulRow_get (rs : List Rul) (j : Nat) (hj : j < (rulRow rs).length) : ∃ v, (rulRow rs)[j]? = some v := ⟨_, List.getElem?_eq_getElem hj⟩
theorem RulAt.cel {w : World} {p : Option Addr} {rs : List Rul} (h : RulAt w p rs) : CelAt w p (rulRow rs) := fun j hj => by
  have hl : j < rs.length * 4 := by rwa [rulRow_len] at hj
  obtain ⟨b, off, e, h1, h2, h3, h4, h5⟩ := h (j / 4) (by omega)
  refine ⟨b, off, e, h1, ?_⟩
  have hr := rulRow_at rs (j / 4) (by omega)
  rw [← List.getElem?_eq_getElem hj]
  have hm : j % 4 < 4 := Nat.mod_lt _ (by omega)
  have hd : j = j / 4 * 4 + j % 4 := by omega
  have key : ∀ t, t < 4 → w.cell? ⟨b, off + (j / 4 * 4 + t), none⟩ = (rulRow rs)[j / 4 * 4 + t]? := fun t ht => by
    match t, ht with
    | 0, _ => rw [Nat.add_zero, h2, hr.1]
    | 1, _ => rw [← Nat.add_assoc, h3, hr.2.1]
    | 2, _ => rw [← Nat.add_assoc, h4, hr.2.2.1]
    | 3, _ => rw [← Nat.add_assoc, h5, hr.2.2.2]
  have k := key (j % 4) hm
  rwa [← hd] at k
theorem rulAt_cel {w : World} {p : Option Addr} {rs : List Rul} (h : CelAt w p (rulRow rs)) : RulAt w p rs := fun i hi => by
  have hl := rulRow_len rs
  have hr := rulRow_at rs i hi
  obtain ⟨b, off, rfl, h1, h2⟩ := h (i * 4) (by omega)
  have g : ∀ j (hj : j < (rulRow rs).length), w.cell? ⟨b, off + j, none⟩ = (rulRow rs)[j]? := fun j hj => by
    obtain ⟨b', off', e, _, h3⟩ := h j hj
    cases e
    rw [h3, List.getElem?_eq_getElem hj]
  exact ⟨b, off, rfl, h1, (g (i * 4) (by omega)).trans hr.1, by rw [Nat.add_assoc]; exact (g (i * 4 + 1) (by omega)).trans hr.2.1, by rw [Nat.add_assoc]; exact (g (i * 4 + 2) (by omega)).trans hr.2.2.1, by rw [Nat.add_assoc]; exact (g (i * 4 + 3) (by omega)).trans hr.2.2.2⟩
theorem oneI (ks : List Int) : ∀ u ∈ intRow ks, u.oneCell' = true := fun u hu => by
  obtain ⟨x, _, rfl⟩ := List.mem_map.1 hu; rfl
theorem oneR (rs : List Rul) : ∀ u ∈ rulRow rs, u.oneCell' = true := fun u hu => by
  unfold rulRow at hu
  obtain ⟨r, _, h⟩ := List.mem_flatMap.1 hu
  simp [rulCells] at h
  rcases h with rfl | rfl | rfl | rfl <;> rfl
theorem rulRow_take (rs : List Rul) : ∀ k, (rulRow rs).take (k * 4) = rulRow (rs.take k) := by
  induction rs with
  | nil => intro k; simp [rulRow]
  | cons r rs ih =>
    intro k
    match k with
    | 0 => simp [rulRow]
    | k + 1 =>
      have e : rulRow (r :: rs) = .string r.k :: .string r.f :: .int .i64 r.l :: .int .i64 r.m :: rulRow rs := rfl
      rw [e, show (k + 1) * 4 = k * 4 + 1 + 1 + 1 + 1 by omega]
      simp only [List.take_succ_cons]
      rw [ih k]; rfl
theorem rulRow_drop (rs : List Rul) : ∀ k, (rulRow rs).drop (k * 4) = rulRow (rs.drop k) := by
  induction rs with
  | nil => intro k; simp [rulRow]
  | cons r rs ih =>
    intro k
    match k with
    | 0 => simp
    | k + 1 =>
      have e : rulRow (r :: rs) = .string r.k :: .string r.f :: .int .i64 r.l :: .int .i64 r.m :: rulRow rs := rfl
      rw [e, show (k + 1) * 4 = k * 4 + 1 + 1 + 1 + 1 by omega]
      simp only [List.drop_succ_cons]
      exact ih k
theorem intRow_take (ks : List Int) (k : Nat) : (intRow ks).take (k * 1) = intRow (ks.take k) := by rw [Nat.mul_one]; simp [intRow, List.map_take]
theorem intRow_drop (ks : List Int) (k : Nat) : (intRow ks).drop (k * 1) = intRow (ks.drop k) := by rw [Nat.mul_one]; simp [intRow, List.map_drop]
theorem intRow_app (a b : List Int) : intRow (a ++ b) = intRow a ++ intRow b := by simp [intRow]
theorem own_lower {w : World} {base base' : Nat} {e : TypeId} {s n : Nat} {v : Value} {xs : List Value} (h : w.ownsRow base e s v n xs) (hb : base' ≤ base) : w.ownsRow base' e s v n xs := by
  refine ⟨h.1, ?_⟩
  rcases h.2 with h0 | ⟨g, cap, cur, h1, h2, h3⟩
  · exact .inl h0
  · exact .inr ⟨g, cap, cur, h1, Nat.le_trans hb h2, h3⟩
theorem own_setO {w : World} {base : Nat} {e : TypeId} {s n : Nat} {v : Value} {xs : List Value} (h : w.ownsRow base e s v n xs) (g j : Nat) (hn : some g ≠ v.ownBlock) (x : Value) : (w.setCell ⟨g, j, none⟩ x).ownsRow base e s v n xs := by
  refine ⟨h.1, ?_⟩
  rcases h.2 with h0 | ⟨g', cap, cur, rfl, h2, h3, h4⟩
  · exact .inl h0
  · have hne : g ≠ g' := fun e => hn (by rw [e]; rfl)
    exact .inr ⟨g', cap, cur, rfl, h2, Bxs.other h3 g j hne x, h4⟩
theorem own_form {w : World} {base : Nat} {e : TypeId} {s n : Nat} {v : Value} {xs : List Value} (h : w.ownsRow base e s v n xs) : ∃ p c, v = .slice p n c ∧ n ≤ c := by
  rcases h.2 with ⟨h0, h1⟩ | ⟨g, cap, cur, h1, _, _, h4, _⟩
  · exact ⟨none, 0, by rw [h0, h1], by omega⟩
  · exact ⟨_, _, h1, h4⟩
/-- A policy of its own two rows. -/
structure PolO (base : Nat) (rs : List Rul) (hs : List Int) (v1 v2 : Value) (w : World) : Prop where
  own1 : w.ownsRow base 71 4 v1 rs.length (rulRow rs)
  own2 : w.ownsRow base 2 1 v2 hs.length (intRow hs)
  ne : v1.ownBlock = none ∨ v1.ownBlock ≠ v2.ownBlock
theorem PolO.nil (base : Nat) (w : World) : PolO base [] [] (.slice none 0 0) (.slice none 0 0) w := ⟨World.ownsRow_nil _ _ _ _, World.ownsRow_nil _ _ _ _, .inl rfl⟩
theorem PolO.below {base : Nat} {rs : List Rul} {hs : List Int} {v1 v2 : Value} {w w' : World} (h : PolO base rs hs v1 v2 w) (hb : Below w.heap.size w w') : PolO base rs hs v1 v2 w' := ⟨ownS_below h.own1 hb, ownS_below h.own2 hb, h.ne⟩
theorem PolO.lower {base base' : Nat} {rs : List Rul} {hs : List Int} {v1 v2 : Value} {w : World} (h : PolO base rs hs v1 v2 w) (hb : base' ≤ base) : PolO base' rs hs v1 v2 w := ⟨own_lower h.own1 hb, own_lower h.own2 hb, h.ne⟩
theorem PolO.lt {base : Nat} {rs : List Rul} {hs : List Int} {v1 v2 : Value} {w : World} (h : PolO base rs hs v1 v2 w) : (∀ j, v1.ownBlock = some j → base ≤ j ∧ j < w.heap.size) ∧ ∀ j, v2.ownBlock = some j → base ≤ j ∧ j < w.heap.size := ⟨fun j hj => h.own1.lt j hj, fun j hj => h.own2.lt j hj⟩
theorem PolO.set {base : Nat} {rs : List Rul} {hs : List Int} {v1 v2 : Value} {w : World} (h : PolO base rs hs v1 v2 w) {g : Nat} (hg : g < base) (j : Nat) (x : Value) : PolO base rs hs v1 v2 (w.setCell ⟨g, j, none⟩ x) := ⟨own_setO h.own1 g j (fun e => by have := (h.lt.1 g e.symm).1; omega) x, own_setO h.own2 g j (fun e => by have := (h.lt.2 g e.symm).1; omega) x, h.ne⟩
theorem PolO.setN {base : Nat} {rs : List Rul} {hs : List Int} {v1 v2 : Value} {w : World} (h : PolO base rs hs v1 v2 w) {g : Nat} (h1 : some g ≠ v1.ownBlock) (h2 : some g ≠ v2.ownBlock) (j : Nat) (x : Value) : PolO base rs hs v1 v2 (w.setCell ⟨g, j, none⟩ x) := ⟨own_setO h.own1 g j h1 x, own_setO h.own2 g j h2 x, h.ne⟩
theorem PolO.form {base : Nat} {rs : List Rul} {hs : List Int} {v1 v2 : Value} {w : World} (h : PolO base rs hs v1 v2 w) : ∃ p1 c1 p2 c2, v1 = .slice p1 rs.length c1 ∧ v2 = .slice p2 hs.length c2 ∧ rs.length ≤ c1 ∧ hs.length ≤ c2 := by
  obtain ⟨p1, c1, e1, m1⟩ := own_form h.own1
  obtain ⟨p2, c2, e2, m2⟩ := own_form h.own2
  exact ⟨p1, c1, p2, c2, e1, e2, m1, m2⟩
theorem PolO.read {base : Nat} {rs : List Rul} {hs : List Int} {p1 p2 : Option Addr} {c1 c2 : Nat} {w : World} (h : PolO base rs hs (.slice p1 rs.length c1) (.slice p2 hs.length c2) w) : RulAt w p1 rs ∧ IntAt w p2 hs := ⟨rulAt_cel (own_cel h.own1), intAt_cel (own_cel h.own2)⟩
end Go.Proofs.YtifomfimfdgjjaaGreatDoor
/-
  What the functions on policies answer, as plain functions; rows of a policy that are written anew.
-/
namespace Go.Proofs.YtifomfimfdgjjaaGreatDoor
open Go.RowKit Go.Lib
set_option linter.unusedVariables false

def hoT (hs : List Int) (r : Int) : Nat := twI (ltI r) hs
def hoB (hs : List Int) (r : Int) : Bool := thereB (ltI r) (eqI r) hs
def hoC (rs : List Rul) (hs : List Int) (r : Int) : Int := if polB rs hs = true ∧ heB r = true then (if hoB hs r = true then 7 else 0) else 1
def hoR (rs : List Rul) (hs : List Int) (r : Int) : List Rul := if hoC rs hs r = 0 then rs else []
def hoH (rs : List Rul) (hs : List Int) (r : Int) : List Int := if hoC rs hs r = 0 then hs.take (hoT hs r) ++ [r] ++ hs.drop (hoT hs r) else []
def frC (rs : List Rul) (hs : List Int) (r : Int) : Int := if polB rs hs = true ∧ heB r = true then (if hoB hs r = true then 0 else 6) else 1
def frR (rs : List Rul) (hs : List Int) (r : Int) : List Rul := if frC rs hs r = 0 then rs else []
def frH (rs : List Rul) (hs : List Int) (r : Int) : List Int := if frC rs hs r = 0 then hs.take (hoT hs r) ++ hs.drop (hoT hs r + 1) else []
def rpT (rs : List Rul) (R : Rul) : Nat := twI (ltR R.k R.f) rs
def rpB (rs : List Rul) (R : Rul) : Bool := thereB (ltR R.k R.f) (eqR R.k R.f) rs
def rpC (rs : List Rul) (hs : List Int) (R : Rul) : Int := if polB rs hs = true ∧ ruB R = true then (if rpB rs R = true then 0 else if rs.length = 6 then 9 else 0) else 1
def rpR (rs : List Rul) (hs : List Int) (R : Rul) : List Rul := if rpC rs hs R = 0 then (if rpB rs R = true then rs.set (rpT rs R) R else rs.take (rpT rs R) ++ [R] ++ rs.drop (rpT rs R)) else []
def rpH (rs : List Rul) (hs : List Int) (R : Rul) : List Int := if rpC rs hs R = 0 then hs else []
def rdT (rs : List Rul) (k f : ByteArray) : Nat := twI (ltR k f) rs
def rdB (rs : List Rul) (k f : ByteArray) : Bool := thereB (ltR k f) (eqR k f) rs
def rdC (rs : List Rul) (hs : List Int) (k f : ByteArray) : Int := if 8000 < k.size ∨ 8000 < f.size then 2 else if polB rs hs = true then (if rdB rs k f = true then 0 else 6) else 1
def rdR (rs : List Rul) (hs : List Int) (k f : ByteArray) : List Rul := if rdC rs hs k f = 0 then rs.take (rdT rs k f) ++ rs.drop (rdT rs k f + 1) else []
def rdH (rs : List Rul) (hs : List Int) (k f : ByteArray) : List Int := if rdC rs hs k f = 0 then hs else []
theorem nrB_len20 {s : ByteArray} (h : nrB s = true) : 1 ≤ s.size ∧ s.size ≤ 20 := by
  unfold nrB at h
  rw [decide_eq_true_iff] at h
  exact ⟨h.1, h.2.1⟩
theorem there_lt {α : Type} {lt q : α → Bool} {l : List α} (h : thereB lt q l = true) : twI lt l < l.length := by
  unfold thereB at h
  split at h
  · assumption
  · cases h
theorem polB_parts {rs : List Rul} {hs : List Int} (h : polB rs hs = true) : rs.length ≤ 6 ∧ okL ruB ruLt rs = true ∧ okL heB heLt hs = true ∧ hs.length ≤ 6 ∧ ∀ r ∈ rs, r.k.size ≤ 20 ∧ r.f.size ≤ 20 := by
  unfold polB at h
  simp only [Bool.and_eq_true, decide_eq_true_eq] at h
  obtain ⟨h1, h2, h3⟩ := h
  refine ⟨h1, h2, h3, held_len h3, fun r hr => ?_⟩
  have := (okL_parts h2).1 r hr
  unfold ruB rulB at this
  simp only [Bool.and_eq_true] at this
  exact ⟨(nrB_len20 this.1).2, (nrB_len20 this.2.1).2⟩
theorem ruB_le {R : Rul} (h : ruB R = true) : R.k.size ≤ 20 ∧ R.f.size ≤ 20 := by
  unfold ruB rulB at h
  simp only [Bool.and_eq_true] at h
  exact ⟨(nrB_len20 h.1).2, (nrB_len20 h.2.1).2⟩
/-- The second row of a policy was written anew. -/
theorem PolO.new2 {base : Nat} {rs : List Rul} {hs hs' : List Int} {v1 v2 v2' : Value} {w w' : World} (h : PolO base rs hs v1 v2 w) (hg : w.grownBy w' v2.ownBlock) (ho : w'.ownsRow base 2 1 v2' hs'.length (intRow hs')) (hl : Lies w v2 v2') : PolO base rs hs' v1 v2' w' := by
  refine ⟨h.own1.kept hg h.ne, ho, ?_⟩
  cases h1 : v1.ownBlock with
  | none => exact .inl rfl
  | some j =>
    refine .inr (fun e => ?_)
    rcases hl j e.symm with q | q
    · rcases h.ne with h0 | h0
      · rw [h1] at h0; cases h0
      · exact h0 (h1.trans q.symm)
    · have := (h.lt.1 j h1).2; omega
/-- The first row of a policy was written anew. -/
theorem PolO.new1 {base : Nat} {rs rs' : List Rul} {hs : List Int} {v1 v1' v2 : Value} {w w' : World} (h : PolO base rs hs v1 v2 w) (hg : w.grownBy w' v1.ownBlock) (ho : w'.ownsRow base 71 4 v1' rs'.length (rulRow rs')) (hl : Lies w v1 v1') : PolO base rs' hs v1' v2 w' := by
  have hn : v2.ownBlock = none ∨ v2.ownBlock ≠ v1.ownBlock := by
    rcases h.ne with h0 | h0
    · cases h2 : v2.ownBlock with
      | none => exact .inl rfl
      | some j => exact .inr (by rw [h0]; simp)
    · exact .inr (fun e => h0 e.symm)
  refine ⟨ho, h.own2.kept hg hn, ?_⟩
  cases h1 : v1'.ownBlock with
  | none => exact .inl rfl
  | some j =>
    refine .inr (fun e => ?_)
    rcases hl j h1 with q | q
    · rcases hn with h0 | h0
      · rw [h0] at e; cases e
      · exact h0 (e.symm.trans q.symm)
    · have := (h.lt.2 j e.symm).2; omega
/-- The second row replaced by another one, of memory that came later. -/
theorem PolO.put2 {base : Nat} {rs : List Rul} {hs hs' : List Int} {v1 v2 v2' : Value} {w w' : World} (h : PolO base rs hs v1 v2 w) (hb : Below w.heap.size w w') (ho : w'.ownsRow w.heap.size 2 1 v2' hs'.length (intRow hs')) (hw : base ≤ w.heap.size) : PolO base rs hs' v1 v2' w' := by
  refine ⟨ownS_below h.own1 hb, own_lower ho hw, ?_⟩
  cases h1 : v1.ownBlock with
  | none => exact .inl rfl
  | some j => exact .inr (fun e => by have := (h.lt.1 j h1).2; have := (ho.lt j e.symm).1; omega)
theorem PolO.put1 {base : Nat} {rs rs' : List Rul} {hs : List Int} {v1 v1' v2 : Value} {w w' : World} (h : PolO base rs hs v1 v2 w) (hb : Below w.heap.size w w') (ho : w'.ownsRow w.heap.size 71 4 v1' rs'.length (rulRow rs')) (hw : base ≤ w.heap.size) : PolO base rs' hs v1' v2 w' := by
  refine ⟨own_lower ho hw, ownS_below h.own2 hb, ?_⟩
  cases h1 : v1'.ownBlock with
  | none => exact .inl rfl
  | some j => exact .inr (fun e => by have := (ho.lt j h1).1; have := (h.lt.2 j e.symm).2; omega)
end Go.Proofs.YtifomfimfdgjjaaGreatDoor
/-
  What the specification's l07Is and l07Time answer.
-/
namespace Go.Proofs.YtifomfimfdgjjaaGreatDoor
open Go.RowKit Go.Lib
set_option linter.unusedVariables false
set_option maxRecDepth 20000

theorem l07Is_any (n lo hi : Int) (w : World) : Calls Tryz.prog 73 #[.int .i64 n, .int .i64 lo, .int .i64 hi] w fun e w' => e = .returned (.bool (decide (lo ≤ n ∧ n ≤ hi))) ∧ w' = w := by
  by_cases h1 : lo ≤ n
  · have d1 : decide (lo ≤ n) = true := decide_eq_true h1
    by_cases h2 : n ≤ hi
    · have d2 : decide (n ≤ hi) = true := decide_eq_true h2
      rw [decide_eq_true (And.intro h1 h2)]
      clear h1 h2
      go_enter Tryz.func73, Tryz.ntmps73
      go_wp2_with fail
      go_ret
      exact ⟨rfl, rfl⟩
    · have d2 : decide (n ≤ hi) = false := decide_eq_false h2
      rw [decide_eq_false (fun h => h2 h.2)]
      clear h1 h2
      go_enter Tryz.func73, Tryz.ntmps73
      go_wp2_with fail
      go_ret
      exact ⟨rfl, rfl⟩
  · have d1 : decide (lo ≤ n) = false := decide_eq_false h1
    rw [decide_eq_false (fun h => h1 h.1)]
    clear h1
    go_enter Tryz.func73, Tryz.ntmps73
    go_wp2_with fail
    go_ret
    exact ⟨rfl, rfl⟩
theorem l07Time_any (n : Int) (w : World) : Calls Tryz.prog 82 #[.int .i64 n] w fun e w' => e = .returned (.bool (timeB n)) ∧ w' = w := by
  have h := l07Is_any n 0 1000000 w
  unfold timeB
  generalize decide (0 ≤ n ∧ n ≤ 1000000) = bo at *
  go_enter Tryz.func82, Tryz.ntmps82
  go_wp2_with fail
  refine h.mono ?_
  rintro e w1 ⟨rfl, rfl⟩
  go_wp2_with fail
  go_ret
  exact ⟨rfl, rfl⟩
end Go.Proofs.YtifomfimfdgjjaaGreatDoor
/-
  A row of bytes that the call made, one byte more at a time, also where the row came of a string ('[]byte(s)': the run-time's mark behind its last cell).
  Conditions: the row stays below 2^46 bytes.
-/
namespace Go.Proofs.YtifomfimfdgjjaaGreatDoor
open Go.RowKit Go.Lib
set_option linter.unusedVariables false

structure OwnB (w : World) (base g cap : Nat) (xs : List Int) : Prop where
  lo : base ≤ g
  hi : g < w.heap.size
  fit : xs.length ≤ cap
  max : cap ≤ maxLen
  room : ∀ j, j < cap → (w.cell? ⟨g, j, none⟩).isSome = true ∧ w.frozen? ⟨g, j, none⟩ = false
  cells : ∀ j (h : j < xs.length), w.cell? ⟨g, j, none⟩ = some (.int .u8 xs[j])

theorem OwnB.carry {w w' : World} {base g cap : Nat} {xs : List Int} (h : OwnB w base g cap xs) (hs : w.heap.size ≤ w'.heap.size) (hb : w'.heap[g]? = w.heap[g]?) : OwnB w' base g cap xs :=
  ⟨h.lo, Nat.lt_of_lt_of_le h.hi hs, h.fit, h.max, fun j hj => by
    have e1 : w'.cell? ⟨g, j, none⟩ = w.cell? ⟨g, j, none⟩ := World.cell?_of_block hb
    have e2 : w'.frozen? ⟨g, j, none⟩ = w.frozen? ⟨g, j, none⟩ := World.frozen?_of_block hb
    rw [e1, e2]; exact h.room j hj, fun j hj => by
    have e1 : w'.cell? ⟨g, j, none⟩ = w.cell? ⟨g, j, none⟩ := World.cell?_of_block hb
    rw [e1]; exact h.cells j hj⟩
theorem OwnB.drew {w : World} {base g cap : Nat} {xs : List Int} (h : OwnB w base g cap xs) : OwnB w.drew base g cap xs := h.carry (Nat.le_refl _) rfl
theorem OwnB.alloc {w : World} {base g cap : Nat} {xs : List Int} (h : OwnB w base g cap xs) (o : Obj) : OwnB (w.alloc o) base g cap xs :=
  h.carry (by simp) (Below.heap_alloc w o g h.hi)
theorem OwnB.below {w w' : World} {base g cap : Nat} {xs : List Int} (h : OwnB w base g cap xs) (hb : Below w.heap.size w w') : OwnB w' base g cap xs :=
  h.carry hb.size (hb.block g h.hi)

theorem ownB_of_row {w : World} {base g n cap : Nat} {xs : List Int} {T : TypeId} (h : w.ownsRow base T 1 (.slice (some ⟨g, 0, none⟩) n cap) n (xs.map (Value.int .u8))) (hx : xs.length = n) : OwnB w base g cap xs := by
  have hlt := h.lt g rfl
  rcases h.2 with ⟨h0, _⟩ | ⟨g2, cap2, cur, hv, hb, hg, hn, hc, hs, ht⟩
  · cases h0
  · cases hv
    refine ⟨hb, hlt.2, by omega, hc, fun j hj => ?_, fun j hj => ?_⟩
    · have : j < cur.size := by omega
      simp [World.cell?, World.frozen?, hg, this]
    · rw [h.cellAt j (by omega)]
      simp [List.getElem?_eq_getElem hj]

theorem ownB_of_string (w : World) (s : ByteArray) (T : TypeId) (hs : s.size ≤ maxLen) :
    OwnB (w.drew.alloc (.cells (bytesRow s (grownCap w s.size 0 T)) T ((bytesRow s (grownCap w s.size 0 T)).size, (bytesRow s (grownCap w s.size 0 T)).size + 1))) w.heap.size w.heap.size (grownCap w s.size 0 T) (bytesN s) := by
  have hge := grownCap_ge w s.size 0 T
  have hle := grownCap_le_maxLen w s.size 0 T hs
  generalize grownCap w s.size 0 T = C at *
  have hsz : (bytesRow s C).size = C := by
    have : s.data.size = s.size := rfl
    simp [bytesRow, this]; omega
  have hat : (w.drew.alloc (.cells (bytesRow s C) T ((bytesRow s C).size, (bytesRow s C).size + 1))).heap[w.heap.size]? = some (.cells (bytesRow s C) T ((bytesRow s C).size, (bytesRow s C).size + 1)) := heap_alloc_new w.drew _
  refine ⟨Nat.le_refl _, by simp, by rw [bytesN_len]; exact hge, hle, fun j hj => ?_, fun j hj => ?_⟩
  · rw [hsz] at hat ⊢
    refine ⟨?_, ?_⟩
    · have : j < (bytesRow s C).size := by omega
      simp only [World.cell?, hat]
      simp [this]
    · simp only [World.frozen?, hat]
      simp; omega
  · rw [bytesN_len] at hj
    have h2 : j < s.data.size := hj
    simp only [World.cell?, hat]
    simp [bytesRow, bytesN, Array.getElem?_append, hj]

theorem append_b {P : Program} (w : World) (t ty e : TypeId) (i : TypeInfo) (ht : P.underlying t = some (.slice e)) (hi : P.info? e = some i) (hz : i.zero = some (.int .u8 0)) (hz1 : i.size = 1) (hz2 : i.bytes = 1)
    (base g cap : Nat) (xs : List Int) (h : OwnB w base g cap xs) (ad : Addr) (c : Nat) (x : Int) (hx : w.cell? (ad.add 0) = some (.int .u8 x)) (hlen : xs.length < 70368744177664) (hB : base ≤ w.heap.size) :
    ∃ g' cap' w', (Builtin.append_ #[t, t] ty #[.slice (some ⟨g, 0, none⟩) xs.length cap, .slice (some ad) 1 c]).run P w = .ok (.slice (some ⟨g', 0, none⟩) (xs.length + 1) cap') w' ∧
      OwnB w' base g' cap' (xs ++ [x]) ∧ ∀ w0, Below base w0 w → Below base w0 w' := by
  have hnews : ∀ j u, [Value.int .u8 x][j]? = some u → w.cell? (ad.add j) = some u := fun j u hj => by
    match j with
    | 0 => simp at hj; rw [hx, hj]
    | j + 1 => simp at hj
  by_cases hroom : xs.length + 1 ≤ cap
  · have hr := run_append_room_cells (P := P) w t ty e i ht hi g 0 xs.length cap ad 1 c [.int .u8 x] (by rw [hz1]; rfl) hnews (by simp [Value.oneCell']) hroom
      (fun j hj => by rw [hz1]; have : j = 0 := by simpa using hj
                      subst this; simpa using (h.room xs.length (by omega)).1)
      (fun j hj => by rw [hz1]; have : j = 0 := by simpa using hj
                      subst this; simpa using (h.room xs.length (by omega)).2)
    rw [hz1, Nat.zero_add, Nat.mul_one] at hr
    have e0 : (w.setCells g xs.length [.int .u8 x]) = w.setCell ⟨g, xs.length, none⟩ (.int .u8 x) := rfl
    rw [e0] at hr
    have hcs : (w.cell? ⟨g, xs.length, none⟩).isSome = true := (h.room xs.length (by omega)).1
    have hin := World.cell?_setCells_in g [.int .u8 x] xs.length w (fun j hj => by have : j = 0 := by simpa using hj
                                                                                   subst this; exact hcs) 0 (by simp)
    rw [e0] at hin
    have hout : ∀ j, j ≠ xs.length → (w.setCell ⟨g, xs.length, none⟩ (.int .u8 x)).cell? ⟨g, j, none⟩ = w.cell? ⟨g, j, none⟩ := fun j hj => by
      have := World.cell?_setCells_out g [.int .u8 x] xs.length w ⟨g, j, none⟩ (fun _ _ => by simp; omega)
      rwa [e0] at this
    have hfz : ∀ a, (w.setCell ⟨g, xs.length, none⟩ (.int .u8 x)).frozen? a = w.frozen? a := fun a => by
      have := World.frozen?_setCells g [.int .u8 x] xs.length w a
      rwa [e0] at this
    refine ⟨g, cap, _, hr, ⟨h.lo, by simpa using h.hi, by simpa using hroom, h.max, fun j hj => ?_, fun j hj => ?_⟩, fun w0 hb => hb.setCell h.lo _⟩
    · rw [hfz]
      refine ⟨?_, (h.room j hj).2⟩
      by_cases hjn : j = xs.length
      · subst hjn; simp at hin; simp [hin]
      · rw [hout j hjn]; exact (h.room j hj).1
    · by_cases hjn : j = xs.length
      · subst hjn; simp at hin; simp [hin]
      · have hj' : j < xs.length := by simp at hj; omega
        rw [hout j hjn, h.cells j hj', List.getElem_append_left hj']
  · obtain ⟨v', w', hr, hown, hgr⟩ := run_append_arg_grows (P := P) w t ty e i (.int .u8 0) 1 1 ht hi hz hz1 hz2 rfl (by omega) ⟨g, 0, none⟩ xs.length cap (xs.map (Value.int .u8)) (by simp)
      (fun j u hj => by
        have hjl : j < xs.length := by
          rcases Nat.lt_or_ge j xs.length with hh | hh
          · exact hh
          · rw [List.getElem?_eq_none (by simpa using hh)] at hj; cases hj
        have e : (⟨g, 0, none⟩ : Addr).add j = ⟨g, j, none⟩ := by unfold Addr.add; split <;> simp_all
        rw [e, h.cells j hjl]
        simp [List.getElem?_eq_getElem hjl] at hj
        rw [← hj]) ad 1 c [.int .u8 x] rfl hnews (by omega) (by unfold maxLen; omega) (by omega)
    obtain ⟨g', cap', rfl, hbg, hlt⟩ := hown.form (by omega)
    have ho2 := ownB_of_row (xs := xs ++ [x]) (by rw [List.map_append]; exact hown) (by simp)
    refine ⟨g', cap', w', hr, ⟨Nat.le_trans hB hbg, ho2.hi, ho2.fit, ho2.max, ho2.room, ho2.cells⟩, fun w0 hb => hb.grown hgr hB (fun k hk => by cases hk)⟩

theorem wpList_append_run {P : Program} {w : World} {ops : Array Oper} {rest : List Oper} {o : Oper} {a : Act} {Q : Exit → Act → World → Prop} (hgd : o.guard = none) (s x : Operand) (t : TypeId)
    (ho : o.op = .call { callee := .builtin .append, args := #[s, x], argTypes := #[t, t] }) (v1 v2 v' : Value) (w' : World) (hs : a.eval s = v1) (hx : a.eval x = v2)
    (hr : (Builtin.append_ #[t, t] o.type #[v1, v2]).run P w = .ok v' w') (h : wpList P ops Q rest (a.put o.dst v') w') : wpList P ops Q (o :: rest) a w :=
  wpList_plain hgd fun _ hK => by
    unfold Oper.wp execOp
    simp only [ho, resolve, invoke, builtin, Sem.run_bind, Sem.run_pure, Result.andThen_ok, List.map_toArray, List.map_cons, List.map_nil, hs, hx, hr]
    exact hK _ _ h

theorem conv_b {w : World} {base g cap : Nat} {xs : List Int} (h : OwnB w base g cap xs) (off len c : Nat) (hl : off + len ≤ xs.length) :
    (convert 58 9 (.slice (some ⟨g, off, none⟩) len c)).run Tryz.prog w = .ok (.string (strOfNums ((xs.drop off).take len))) w :=
  run_convert_bytes_arg (P := Tryz.prog) w 58 5 Tryz.underlying58 Tryz.underlying5 g off len c ((xs.drop off).take len) (by simp; omega) (fun i hi => by
    rw [h.cells (off + i) (by omega), List.getD_eq_getElem?_getD, List.getElem?_take_of_lt hi, List.getElem?_drop, List.getElem?_eq_getElem (by omega)]; rfl) 9 Tryz.underlying9
end Go.Proofs.YtifomfimfdgjjaaGreatDoor
/-
  The specification's small parts of SHA-256: a number of 32 bits turned right ('turnR x k'), the keys of the rounds and the first state, each in new memory.
  Conditions: the number is from 0 to 2^32 - 1, k from 0 to 32.
-/
namespace Go.Proofs.YtifomfimfdgjjaaGreatDoor
open Go.RowKit Go.Lib
set_option linter.unusedVariables false

set_option maxHeartbeats 400000 in
theorem specTurn_any (x : Int) (k : Nat) (w : World) (h0 : 0 ≤ x) (h1 : x ≤ 4294967295) (hk : k ≤ 32) :
    Calls Tryz.prog 217 #[.int .u32 x, .int .u64 k] w fun e w' => e = .returned (.int .u32 (turnR x k)) ∧ w' = w := by
  go_enter Tryz.func217, Tryz.ntmps217
  go_wp2
  go_ret
  exact ⟨rfl, rfl⟩

theorem specTurn_c (x c : Int) (w : World) (h0 : 0 ≤ x) (h1 : x ≤ 4294967295) (c0 : 0 ≤ c) (c1 : c ≤ 32) :
    Calls Tryz.prog 217 #[.int .u32 x, .int .u64 c] w fun e w' => e = .returned (.int .u32 (turnR x c.toNat)) ∧ w' = w := by
  obtain ⟨k, rfl⟩ : ∃ k : Nat, c = k := ⟨c.toNat, by omega⟩
  exact specTurn_any x k w h0 h1 (by omega)

set_option maxHeartbeats 1000000 in
set_option maxRecDepth 20000 in
theorem specStart_any (w : World) :
    Calls Tryz.prog 204 #[] w fun e w' => e = .returned (.slice (some ⟨w.heap.size, 0, none⟩) 8 8) ∧ w' = w.alloc (.cells (startN.map (Value.int .i64)).toArray 2) := by
  go_enter Tryz.func204, Tryz.ntmps204
  go_wp2
  go_ret
  exact ⟨rfl, rfl⟩

set_option maxHeartbeats 4000000 in
set_option maxRecDepth 20000 in
theorem specKeys_any (w : World) :
    Calls Tryz.prog 218 #[] w fun e w' => e = .returned (.slice (some ⟨w.heap.size, 0, none⟩) 64 64) ∧ w' = w.alloc (.cells (keysN.map (Value.int .u32)).toArray 183) := by
  go_enter Tryz.func218, Tryz.ntmps218
  go_wp2
  go_ret
  exact ⟨rfl, rfl⟩
end Go.Proofs.YtifomfimfdgjjaaGreatDoor
