/-
  A policy of its own two rows; what stays while other memory is written.
-/
import Derived.Test.YtbgpkngnlfafcaaRows
import Derived.Test.YtbgpkngnlfafcaaBytes
import Derived.Test.YtbgpkngnlfafcaaSlA
import Derived.Test.YtbgpkngnlfafcaaOwnS
import Derived.Test.YtbgpkngnlfafcaaBxK
import Derived.Test.YtbgpkngnlfafcaaIntK
import Derived.Test.YtbgpkngnlfafcaaRulMath
import Derived.Test.YtbgpkngnlfafcaaRulBlk
import Derived.Test.YtbgpkngnlfafcaaLawI
import Derived.Test.YtbgpkngnlfafcaaRowOps
import Derived.Handy
import Derived.OwnWalk
namespace Go.Proofs.Ytbgpkngnlfafcaa
open Go.RowKit Go.Lib
set_option linter.unusedVariables false

theorem intRow_len (ks : List Int) : (intRow ks).length = ks.length := by simp [intRow]
theorem IntAt.cel {w : World} {p : Option Addr} {ks : List Int} (h : IntAt w p ks) : CelAt w p (intRow ks) := fun j hj => by
  obtain ⟨b, off, e, h1, h2⟩ := h j (by simpa [intRow] using hj)
  exact ⟨b, off, e, h1, by rw [h2]; simp [intRow]⟩
theorem intAt_cel {w : World} {p : Option Addr} {ks : List Int} (h : CelAt w p (intRow ks)) : IntAt w p ks := fun j hj => by
  obtain ⟨b, off, e, h1, h2⟩ := h j (by simpa [intRow] using hj)
  exact ⟨b, off, e, h1, by rw [h2]; simp [intRow]⟩
theorem rulRow_get (rs : List Rul) (j : Nat) (hj : j < (rulRow rs).length) : ∃ v, (rulRow rs)[j]? = some v := ⟨_, List.getElem?_eq_getElem hj⟩
theorem RulAt.cel {w : World} {p : Option Addr} {rs : List Rul} (h : RulAt w p rs) : CelAt w p (rulRow rs) := fun j hj => by
  have hl : j < rs.length * 4 := by rwa [rulRow_len] at hj
  obtain ⟨b, off, e, h1, h2, h3, h4, h5⟩ := h (j / 4) (by omega)
  refine ⟨b, off, e, h1, ?_⟩
  have hr := rulRow_at rs (j / 4) (by omega)
  rw [← List.getElem?_eq_getElem hj]
  have hm : j % 4 < 4 := Nat.mod_lt _ (by omega)
  have hd : j = j / 4 * 4 + j % 4 := by omega
  have key : ∀ t, t < 4 → w.cell? ⟨b, off + (j / 4 * 4 + t), none⟩ = (rulRow rs)[j / 4 * 4 + t]? := fun t ht => by
    match t, ht with
    | 0, _ => rw [Nat.add_zero, h2, hr.1]
    | 1, _ => rw [← Nat.add_assoc, h3, hr.2.1]
    | 2, _ => rw [← Nat.add_assoc, h4, hr.2.2.1]
    | 3, _ => rw [← Nat.add_assoc, h5, hr.2.2.2]
  have k := key (j % 4) hm
  rwa [← hd] at k
theorem rulAt_cel {w : World} {p : Option Addr} {rs : List Rul} (h : CelAt w p (rulRow rs)) : RulAt w p rs := fun i hi => by
  have hl := rulRow_len rs
  have hr := rulRow_at rs i hi
  obtain ⟨b, off, rfl, h1, h2⟩ := h (i * 4) (by omega)
  have g : ∀ j (hj : j < (rulRow rs).length), w.cell? ⟨b, off + j, none⟩ = (rulRow rs)[j]? := fun j hj => by
    obtain ⟨b', off', e, _, h3⟩ := h j hj
    cases e
    rw [h3, List.getElem?_eq_getElem hj]
  exact ⟨b, off, rfl, h1, (g (i * 4) (by omega)).trans hr.1, by rw [Nat.add_assoc]; exact (g (i * 4 + 1) (by omega)).trans hr.2.1, by rw [Nat.add_assoc]; exact (g (i * 4 + 2) (by omega)).trans hr.2.2.1, by rw [Nat.add_assoc]; exact (g (i * 4 + 3) (by omega)).trans hr.2.2.2⟩
theorem oneI (ks : List Int) : ∀ u ∈ intRow ks, u.oneCell' = true := fun u hu => by
  obtain ⟨x, _, rfl⟩ := List.mem_map.1 hu; rfl
theorem oneR (rs : List Rul) : ∀ u ∈ rulRow rs, u.oneCell' = true := fun u hu => by
  unfold rulRow at hu
  obtain ⟨r, _, h⟩ := List.mem_flatMap.1 hu
  simp [rulCells] at h
  rcases h with rfl | rfl | rfl | rfl <;> rfl
theorem rulRow_take (rs : List Rul) : ∀ k, (rulRow rs).take (k * 4) = rulRow (rs.take k) := by
  induction rs with
  | nil => intro k; simp [rulRow]
  | cons r rs ih =>
    intro k
    match k with
    | 0 => simp [rulRow]
    | k + 1 =>
      have e : rulRow (r :: rs) = .string r.k :: .string r.f :: .int .i64 r.l :: .int .i64 r.m :: rulRow rs := rfl
      rw [e, show (k + 1) * 4 = k * 4 + 1 + 1 + 1 + 1 by omega]
      simp only [List.take_succ_cons]
      rw [ih k]; rfl
theorem rulRow_drop (rs : List Rul) : ∀ k, (rulRow rs).drop (k * 4) = rulRow (rs.drop k) := by
  induction rs with
  | nil => intro k; simp [rulRow]
  | cons r rs ih =>
    intro k
    match k with
    | 0 => simp
    | k + 1 =>
      have e : rulRow (r :: rs) = .string r.k :: .string r.f :: .int .i64 r.l :: .int .i64 r.m :: rulRow rs := rfl
      rw [e, show (k + 1) * 4 = k * 4 + 1 + 1 + 1 + 1 by omega]
      simp only [List.drop_succ_cons]
      exact ih k
theorem intRow_take (ks : List Int) (k : Nat) : (intRow ks).take (k * 1) = intRow (ks.take k) := by rw [Nat.mul_one]; simp [intRow, List.map_take]
theorem intRow_drop (ks : List Int) (k : Nat) : (intRow ks).drop (k * 1) = intRow (ks.drop k) := by rw [Nat.mul_one]; simp [intRow, List.map_drop]
theorem intRow_app (a b : List Int) : intRow (a ++ b) = intRow a ++ intRow b := by simp [intRow]
theorem own_lower {w : World} {base base' : Nat} {e : TypeId} {s n : Nat} {v : Value} {xs : List Value} (h : w.ownsRow base e s v n xs) (hb : base' ≤ base) : w.ownsRow base' e s v n xs := by
  refine ⟨h.1, ?_⟩
  rcases h.2 with h0 | ⟨g, cap, cur, h1, h2, h3⟩
  · exact .inl h0
  · exact .inr ⟨g, cap, cur, h1, Nat.le_trans hb h2, h3⟩
theorem own_setO {w : World} {base : Nat} {e : TypeId} {s n : Nat} {v : Value} {xs : List Value} (h : w.ownsRow base e s v n xs) (g j : Nat) (hn : some g ≠ v.ownBlock) (x : Value) : (w.setCell ⟨g, j, none⟩ x).ownsRow base e s v n xs := by
  refine ⟨h.1, ?_⟩
  rcases h.2 with h0 | ⟨g', cap, cur, rfl, h2, h3, h4⟩
  · exact .inl h0
  · have hne : g ≠ g' := fun e => hn (by rw [e]; rfl)
    exact .inr ⟨g', cap, cur, rfl, h2, Bxs.other h3 g j hne x, h4⟩
theorem own_form {w : World} {base : Nat} {e : TypeId} {s n : Nat} {v : Value} {xs : List Value} (h : w.ownsRow base e s v n xs) : ∃ p c, v = .slice p n c ∧ n ≤ c := by
  rcases h.2 with ⟨h0, h1⟩ | ⟨g, cap, cur, h1, _, _, h4, _⟩
  · exact ⟨none, 0, by rw [h0, h1], by omega⟩
  · exact ⟨_, _, h1, h4⟩
/-- A policy of its own two rows. -/
structure PolO (base : Nat) (rs : List Rul) (hs : List Int) (v1 v2 : Value) (w : World) : Prop where
  own1 : w.ownsRow base 28 4 v1 rs.length (rulRow rs)
  own2 : w.ownsRow base 2 1 v2 hs.length (intRow hs)
  ne : v1.ownBlock = none ∨ v1.ownBlock ≠ v2.ownBlock
theorem PolO.nil (base : Nat) (w : World) : PolO base [] [] (.slice none 0 0) (.slice none 0 0) w := ⟨World.ownsRow_nil _ _ _ _, World.ownsRow_nil _ _ _ _, .inl rfl⟩
theorem PolO.below {base : Nat} {rs : List Rul} {hs : List Int} {v1 v2 : Value} {w w' : World} (h : PolO base rs hs v1 v2 w) (hb : Below w.heap.size w w') : PolO base rs hs v1 v2 w' := ⟨ownS_below h.own1 hb, ownS_below h.own2 hb, h.ne⟩
theorem PolO.lower {base base' : Nat} {rs : List Rul} {hs : List Int} {v1 v2 : Value} {w : World} (h : PolO base rs hs v1 v2 w) (hb : base' ≤ base) : PolO base' rs hs v1 v2 w := ⟨own_lower h.own1 hb, own_lower h.own2 hb, h.ne⟩
theorem PolO.lt {base : Nat} {rs : List Rul} {hs : List Int} {v1 v2 : Value} {w : World} (h : PolO base rs hs v1 v2 w) : (∀ j, v1.ownBlock = some j → base ≤ j ∧ j < w.heap.size) ∧ ∀ j, v2.ownBlock = some j → base ≤ j ∧ j < w.heap.size := ⟨fun j hj => h.own1.lt j hj, fun j hj => h.own2.lt j hj⟩
theorem PolO.set {base : Nat} {rs : List Rul} {hs : List Int} {v1 v2 : Value} {w : World} (h : PolO base rs hs v1 v2 w) {g : Nat} (hg : g < base) (j : Nat) (x : Value) : PolO base rs hs v1 v2 (w.setCell ⟨g, j, none⟩ x) := ⟨own_setO h.own1 g j (fun e => by have := (h.lt.1 g e.symm).1; omega) x, own_setO h.own2 g j (fun e => by have := (h.lt.2 g e.symm).1; omega) x, h.ne⟩
theorem PolO.setN {base : Nat} {rs : List Rul} {hs : List Int} {v1 v2 : Value} {w : World} (h : PolO base rs hs v1 v2 w) {g : Nat} (h1 : some g ≠ v1.ownBlock) (h2 : some g ≠ v2.ownBlock) (j : Nat) (x : Value) : PolO base rs hs v1 v2 (w.setCell ⟨g, j, none⟩ x) := ⟨own_setO h.own1 g j h1 x, own_setO h.own2 g j h2 x, h.ne⟩
theorem PolO.form {base : Nat} {rs : List Rul} {hs : List Int} {v1 v2 : Value} {w : World} (h : PolO base rs hs v1 v2 w) : ∃ p1 c1 p2 c2, v1 = .slice p1 rs.length c1 ∧ v2 = .slice p2 hs.length c2 ∧ rs.length ≤ c1 ∧ hs.length ≤ c2 := by
  obtain ⟨p1, c1, e1, m1⟩ := own_form h.own1
  obtain ⟨p2, c2, e2, m2⟩ := own_form h.own2
  exact ⟨p1, c1, p2, c2, e1, e2, m1, m2⟩
theorem PolO.read {base : Nat} {rs : List Rul} {hs : List Int} {p1 p2 : Option Addr} {c1 c2 : Nat} {w : World} (h : PolO base rs hs (.slice p1 rs.length c1) (.slice p2 hs.length c2) w) : RulAt w p1 rs ∧ IntAt w p2 hs := ⟨rulAt_cel (own_cel h.own1), intAt_cel (own_cel h.own2)⟩
end Go.Proofs.Ytbgpkngnlfafcaa
