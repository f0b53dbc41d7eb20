/-
  What l05Disk draws: a disk of its own memory, of at most 64 sectors and 300 pendings, none greater than 100 bytes.
-/
import Derived.Test.YtkhffoailfnepabGreatDoorRows
import Derived.Test.YtkhffoailfnepabGreatDoorBytesDigMath
import Derived.Test.YtkhffoailfnepabGreatDoorSlASlBOwnSOwnBSrc
import Derived.Test.YtkhffoailfnepabGreatDoorDrawsDrawKitDskMath
import Derived.Test.YtkhffoailfnepabGreatDoorDskSDskCDskT
import Derived.Test.YtkhffoailfnepabGreatDoorDskRAppSStepAppDskA
import Derived.Test.YtkhffoailfnepabGreatDoorDskW
import Derived.Test.YtkhffoailfnepabGreatDoorDskFDskK
import Derived.Test.YtkhffoailfnepabGreatDoorDskLawLawSLawSGLawP
import Derived.Test.YtkhffoailfnepabGreatDoorLawDLwDskLwArLawIPutMathPutNum
import Derived.Test.YtkhffoailfnepabGreatDoorImplCrashSomeLawDGDrawDsk
import Derived.Handy
import Derived.WalkSpells
import Derived.OwnWalk
import Derived.Laws.OwnMore
import Derived.Deep.RegionWith
import Derived.Deep.RegionLaw
import Derived.Deep.Cut
import Derived.Deep.CutRange
namespace Go.Proofs.YtkhffoailfnepabGreatDoor
open Go.RowKit Go.Lib
set_option linter.unusedVariables false
set_option maxRecDepth 20000

theorem own_off {w : World} {base : Nat} {e : TypeId} {s : Nat} {v : Value} {n : Nat} {xs : List Value} (h : w.ownsRow base e s v n xs) {g : Nat} (hg : g < base ∨ w.heap.size ≤ g) : some g ≠ v.ownBlock := fun he => by have := h.lt g he.symm; omega
section
variable {w0 x x' : World} {B p : Nat} {a : Option Addr} {len cap X : Nat} {v1 v2 : Value} {ss : List ByteArray} {ps : List Pnd} {Yo : Option Nat}
/-- A disk beside the source, and, if it was made, the box of what a step will answer. -/
structure DrT (w0 : World) (B p : Nat) (a : Option Addr) (len cap X : Nat) (v1 v2 : Value) (ss : List ByteArray) (ps : List Pnd) (Yo : Option Nat) (x : World) : Prop where
  dr : DrS w0 B p a len cap X v1 v2 ss ps x
  y : ∀ Y, Yo = some Y → Bxs x Y 66 #[.slice none 0 0, .slice none 0 0, .string ⟨#[]⟩, .int .i64 0] ∧ w0.heap.size ≤ Y ∧ Y ≠ X ∧ some Y ≠ v1.ownBlock ∧ some Y ≠ v2.ownBlock
theorem DrT.of (h : DrS w0 B p a len cap X v1 v2 ss ps x) : DrT w0 B p a len cap X v1 v2 ss ps none x := ⟨h, fun Y e => by cases e⟩
theorem DrT.below (h : DrT w0 B p a len cap X v1 v2 ss ps Yo x) (hb : Below x.heap.size x x') : DrT w0 B p a len cap X v1 v2 ss ps Yo x' := ⟨h.dr.below hb, fun Y e => ⟨(h.y Y e).1.below hb, (h.y Y e).2⟩⟩
theorem DrT.drew (h : DrT w0 B p a len cap X v1 v2 ss ps Yo x) : DrT w0 B p a len cap X v1 v2 ss ps Yo x.drew := h.below (Below.refl _ _).drew
theorem DrT.step (h : DrT w0 B p a len cap X v1 v2 ss ps Yo x) (hs : Src 81 B p a len cap x') (hg : x.grownBy x' (some p)) : DrT w0 B p a len cap X v1 v2 ss ps Yo x' :=
  ⟨h.dr.step hs hg, fun Y e => by
    obtain ⟨h1, h2, h3⟩ := h.y Y e
    have hp := h.dr.hp
    exact ⟨(hg.block Y h1.lt (fun e => by cases e; omega)).trans h1, h2, h3⟩⟩
theorem DrT.al (h : DrT w0 B p a len cap X v1 v2 ss ps none x) : DrT w0 B p a len cap X v1 v2 ss ps (some x.heap.size) (x.alloc (.cells #[.slice none 0 0, .slice none 0 0, .string ⟨#[]⟩, .int .i64 0] 66)) :=
  ⟨h.dr.al _, fun Y e => by
    cases e
    have := h.dr.box.lt
    exact ⟨Bxs.new _ _ _, h.dr.gr.size, by omega, own_off h.dr.dsk.own1 (.inr (Nat.le_refl _)), own_off h.dr.dsk.own2 (.inr (Nat.le_refl _))⟩⟩
theorem DrT.alA (h : DrT w0 B p a len cap X v1 v2 ss ps Yo x) (o : Obj) : DrT w0 B p a len cap X v1 v2 ss ps Yo (x.alloc o) := h.below ((Below.refl _ _).alloc (Nat.le_refl _) o)
theorem grown_set4 (x : World) (Y : Nat) (u0 u1 u2 u3 : Value) : x.grownBy ((((x.setCell ⟨Y, 0, none⟩ u0).setCell ⟨Y, 1, none⟩ u1).setCell ⟨Y, 2, none⟩ u2).setCell ⟨Y, 3, none⟩ u3) (some Y) := by
  refine ⟨rfl, rfl, rfl, by simp [World.setCell], fun q hq hne => ?_⟩
  have hq' : Y ≠ q := fun e => hne (by rw [e])
  simp [World.setCell, Array.getElem?_modify, hq']
/-- The disk stays what it is while the box at Y is written. -/
theorem DrS.set4 (h : DrS w0 B p a len cap X v1 v2 ss ps x) {Y : Nat} (hY : w0.heap.size ≤ Y) (ne : Y ≠ X) (n1 : some Y ≠ v1.ownBlock) (n2 : some Y ≠ v2.ownBlock) (u0 u1 u2 u3 : Value) : DrS w0 B p a len cap X v1 v2 ss ps ((((x.setCell ⟨Y, 0, none⟩ u0).setCell ⟨Y, 1, none⟩ u1).setCell ⟨Y, 2, none⟩ u2).setCell ⟨Y, 3, none⟩ u3) := by
  have g := grown_set4 x Y u0 u1 u2 u3
  have hp := h.hp
  exact ⟨h.src.other g (fun j hj => by cases hj; omega), touch_own h.gr g (fun j hj => by cases hj; exact hY), hp, h.hX, (g.block X h.box.lt (fun e => by cases e; exact ne rfl)).trans h.box, ⟨h.dsk.own1.kept g (.inr (fun e => n1 e.symm)), h.dsk.own2.kept g (.inr (fun e => n2 e.symm)), h.dsk.ne⟩, h.n1, h.n2⟩
theorem DrT.set4 {Y : Nat} (h : DrT w0 B p a len cap X v1 v2 ss ps (some Y) x) (u0 u1 u2 u3 : Value) : DrS w0 B p a len cap X v1 v2 ss ps ((((x.setCell ⟨Y, 0, none⟩ u0).setCell ⟨Y, 1, none⟩ u1).setCell ⟨Y, 2, none⟩ u2).setCell ⟨Y, 3, none⟩ u3) := by
  obtain ⟨_, h2, h3, h4, h5⟩ := h.y Y rfl
  exact h.dr.set4 h2 h3 h4 h5 u0 u1 u2 u3
theorem DrT.cells4 {Y : Nat} (h : DrT w0 B p a len cap X v1 v2 ss ps (some Y) x) (u0 u1 u2 u3 : Value) : ((((x.setCell ⟨Y, 0, none⟩ u0).setCell ⟨Y, 1, none⟩ u1).setCell ⟨Y, 2, none⟩ u2).setCell ⟨Y, 3, none⟩ u3).cell? ⟨X, 0, none⟩ = some v1 ∧ ((((x.setCell ⟨Y, 0, none⟩ u0).setCell ⟨Y, 1, none⟩ u1).setCell ⟨Y, 2, none⟩ u2).setCell ⟨Y, 3, none⟩ u3).cell? ⟨X, 1, none⟩ = some v2 := ⟨(h.set4 u0 u1 u2 u3).cells.1, (h.set4 u0 u1 u2 u3).cells.2.1⟩
theorem DrT.cells (h : DrT w0 B p a len cap X v1 v2 ss ps Yo x) : x.cell? ⟨X, 0, none⟩ = some v1 ∧ x.cell? ⟨X, 1, none⟩ = some v2 := ⟨h.dr.cells.1, h.dr.cells.2.1⟩
theorem DrT.outs {Y : Nat} (h : DrT w0 B p a len cap X v1 v2 ss ps (some Y) x) : x.cell? ⟨Y, 0, none⟩ = some (.slice none 0 0) ∧ x.cell? ⟨Y, 1, none⟩ = some (.slice none 0 0) ∧ x.cell? ⟨Y, 2, none⟩ = some (.string ⟨#[]⟩) ∧ x.cell? ⟨Y, 3, none⟩ = some (.int .i64 0) ∧ x.frozen? ⟨Y, 0, none⟩ = false ∧ x.frozen? ⟨Y, 1, none⟩ = false ∧ x.frozen? ⟨Y, 2, none⟩ = false ∧ x.frozen? ⟨Y, 3, none⟩ = false := by
  obtain ⟨k, -⟩ := h.y Y rfl
  exact ⟨k.cell 0, k.cell 1, k.cell 2, k.cell 3, k.fr 0, k.fr 1, k.fr 2, k.fr 3⟩

/-- What a step answers, beside the disk: a right one, if it is one. -/
structure OutP (w0 : World) (X : Nat) (Yo : Option Nat) (u1 u2 : Value) (c : Int) (x : World) : Prop where
  ex : ∃ ss' ps', DskO w0.heap.size ss' ps' u1 u2 x ∧ (c = 0 → dskB ss' ps' = true)
  n1 : some X ≠ u1.ownBlock
  n2 : some X ≠ u2.ownBlock
  m1 : ∀ Y, Yo = some Y → some Y ≠ u1.ownBlock
  m2 : ∀ Y, Yo = some Y → some Y ≠ u2.ownBlock
/-- .. and in its box at Y. -/
structure OutS (w0 : World) (X Y : Nat) (x : World) : Prop where
  ex : ∃ u1 u2 c, Bxs x Y 66 #[u1, u2, .string ⟨#[]⟩, .int .i64 c] ∧ OutP w0 X (some Y) u1 u2 c x
  hY : w0.heap.size ≤ Y
  ne : Y ≠ X
theorem OutP.keep {u1 u2 : Value} {c : Int} {row : Option Nat} (h : OutP w0 X Yo u1 u2 c x) (hg : x.grownBy x' row) (r1 : row = none ∨ row ≠ u1.ownBlock) (r2 : row = none ∨ row ≠ u2.ownBlock) : OutP w0 X Yo u1 u2 c x' := by
  obtain ⟨ss', ps', h1, h2⟩ := h.ex
  have e : ∀ v : Value, (row = none ∨ row ≠ v.ownBlock) → (v.ownBlock = none ∨ v.ownBlock ≠ row) := fun v hv => by
    rcases hv with hv | hv
    · cases hb : v.ownBlock with
      | none => exact .inl rfl
      | some j => exact .inr (fun e => by rw [hv] at e; cases e)
    · exact .inr (fun e => hv e.symm)
  exact ⟨⟨ss', ps', ⟨h1.own1.kept hg (e _ r1), h1.own2.kept hg (e _ r2), h1.ne⟩, h2⟩, h.n1, h.n2, h.m1, h.m2⟩
theorem OutP.below {u1 u2 : Value} {c : Int} (h : OutP w0 X Yo u1 u2 c x) (hb : Below x.heap.size x x') : OutP w0 X Yo u1 u2 c x' := h.keep (grownBy_none_of_below hb none) (.inl rfl) (.inl rfl)
/-- The box was not made yet: it is made with what is answered. -/
theorem OutS.new {u1 u2 : Value} {c : Int} (h : DrT w0 B p a len cap X v1 v2 ss ps none x) (ho : OutP w0 X none u1 u2 c x) : OutS w0 X x.heap.size (x.alloc (.cells #[u1, u2, .string ⟨#[]⟩, .int .i64 c] 66)) := by
  have hb := (Below.refl x.heap.size x).alloc (Nat.le_refl _) (.cells #[u1, u2, .string ⟨#[]⟩, .int .i64 c] 66)
  have hX := h.dr.box.lt
  have h1 := ho.below hb
  obtain ⟨ss', ps', q1, q2⟩ := ho.ex
  exact ⟨⟨u1, u2, c, Bxs.new _ _ _, ⟨h1.ex, h1.n1, h1.n2, fun Y e => by cases e; exact own_off q1.own1 (.inr (Nat.le_refl _)), fun Y e => by cases e; exact own_off q1.own2 (.inr (Nat.le_refl _))⟩⟩, h.dr.gr.size, by omega⟩
theorem OutS.put {Y : Nat} {u1 u2 : Value} {c : Int} {cs : Array Value} (k : Bxs x Y 66 #[cs[0]!, cs[1]!, cs[2]!, cs[3]!]) (hY : w0.heap.size ≤ Y) (ne : Y ≠ X) (ho : OutP w0 X (some Y) u1 u2 c x) : OutS w0 X Y ((((x.setCell ⟨Y, 0, none⟩ u1).setCell ⟨Y, 1, none⟩ u2).setCell ⟨Y, 2, none⟩ (.string ⟨#[]⟩)).setCell ⟨Y, 3, none⟩ (.int .i64 c)) := by
  have k4 := (((k.set 0 u1).set 1 u2).set 2 (.string ⟨#[]⟩)).set 3 (.int .i64 c)
  exact ⟨⟨u1, u2, c, k4, ho.keep (grown_set4 x Y _ _ _ _) (.inr (ho.m1 Y rfl)) (.inr (ho.m2 Y rfl))⟩, hY, ne⟩
theorem OutS.ofT {Y : Nat} {u1 u2 : Value} {c : Int} (h : DrT w0 B p a len cap X v1 v2 ss ps (some Y) x) (ho : OutP w0 X (some Y) u1 u2 c x) : OutS w0 X Y ((((x.setCell ⟨Y, 0, none⟩ u1).setCell ⟨Y, 1, none⟩ u2).setCell ⟨Y, 2, none⟩ (.string ⟨#[]⟩)).setCell ⟨Y, 3, none⟩ (.int .i64 c)) := by
  obtain ⟨k, h2, h3, h4, h5⟩ := h.y Y rfl
  exact OutS.put (cs := #[.slice none 0 0, .slice none 0 0, .string ⟨#[]⟩, .int .i64 0]) k h2 h3 ho
/-- One cell of the disk's box is written. -/
theorem DrS.set1 (h : DrS w0 B p a len cap X v1 v2 ss ps x) (i : Nat) (u : Value) {u1 u2 : Value} {ss' : List ByteArray} {ps' : List Pnd} (hb : Bxs (x.setCell ⟨X, i, none⟩ u) X 26 #[u1, u2]) (ho : DskO w0.heap.size ss' ps' u1 u2 x) (m1 : some X ≠ u1.ownBlock) (m2 : some X ≠ u2.ownBlock) : DrS w0 B p a len cap X u1 u2 ss' ps' (x.setCell ⟨X, i, none⟩ u) := by
  have g : x.grownBy (x.setCell ⟨X, i, none⟩ u) (some X) := by
    refine ⟨rfl, rfl, rfl, by simp [World.setCell], fun q hq hne => ?_⟩
    have hq' : X ≠ q := fun e => hne (by rw [e])
    simp [World.setCell, Array.getElem?_modify, hq']
  have hX := h.hX
  have hp := h.hp
  exact ⟨h.src.other g (fun j hj => by cases hj; omega), touch_own h.gr g (fun j hj => by cases hj; exact hX), hp, hX, hb, ⟨ho.own1.kept g (.inr (fun e => m1 e.symm)), ho.own2.kept g (.inr (fun e => m2 e.symm)), ho.ne⟩, m1, m2⟩
/-- The sectors are struck. -/
theorem DrS.nil0 (h : DrS w0 B p a len cap X v1 v2 ss ps x) : DrS w0 B p a len cap X (.slice none 0 0) v2 [] ps (x.setCell ⟨X, 0, none⟩ (.slice none 0 0)) :=
  h.set1 0 (.slice none 0 0) (h.box.set 0 (.slice none 0 0)) ⟨World.ownsRow_nil _ _ _ _, h.dsk.own2, .inl rfl⟩ (by simp [Value.ownBlock]) h.n2
/-- A sector is written. -/
theorem DrS.sec {g n d : Nat} (h : DrS w0 B p a len cap X (.slice (some ⟨g, 0, none⟩) n d) v2 ss ps x) (A : Nat) (t : ByteArray) : DrS w0 B p a len cap X (.slice (some ⟨g, 0, none⟩) n d) v2 (ss.set A t) ps (x.setCell ⟨g, A, none⟩ (.string t)) := by
  have gr : x.grownBy (x.setCell ⟨g, A, none⟩ (.string t)) (some g) := by
    refine ⟨rfl, rfl, rfl, by simp [World.setCell], fun q hq hne => ?_⟩
    have hq' : g ≠ q := fun e => hne (by rw [e])
    simp [World.setCell, Array.getElem?_modify, hq']
  have hg := h.dsk.own1.lt g rfl
  have hp := h.hp
  have hn : n = ss.length := by
    obtain ⟨_, _, e, _⟩ := ownS_form h.dsk.own1
    cases e; rfl
  subst hn
  have o1 := (h.dsk.own1.stored A (.string t)).1
  have e : (strRow ss).set A (.string t) = strRow (ss.set A t) := by simp [strRow, List.map_set]
  rw [e] at o1
  refine ⟨h.src.other gr (fun j hj => by cases hj; omega), touch_own h.gr gr (fun j hj => by cases hj; omega), hp, h.hX, (gr.block X h.box.lt h.n1).trans h.box, ⟨by rw [List.length_set]; exact o1, h.dsk.own2.kept gr ?_, h.dsk.ne⟩, h.n1, h.n2⟩
  rcases h.dsk.ne with q | q
  · cases q
  · exact .inr (fun e => q e.symm)
/-- One more is pending. -/
theorem DrS.app (h : DrS w0 B p a len cap X v1 v2 ss ps x) (q1 : Int) (q2 : ByteArray) (hl : ps.length + 1 ≤ 1048576) :
    ∃ g c x3, (Builtin.append_ #[24, 24] 24 #[v2, .slice (some ⟨x.heap.size, 0, none⟩) 1 1]).run Tryz.prog (x.alloc (.cells #[.int .i64 q1, .string q2] 76)) = .ok (.slice (some ⟨g, 0, none⟩) (ps.length + 1) c) x3 ∧
      (x3.cell? ⟨X, 0, none⟩ = some v1 ∧ x3.cell? ⟨X, 1, none⟩ = some v2 ∧ x3.frozen? ⟨X, 1, none⟩ = false) ∧
      DrS w0 B p a len cap X v1 (.slice (some ⟨g, 0, none⟩) (ps.length + 1) c) ss (ps ++ [(q1, q2)]) (x3.setCell ⟨X, 1, none⟩ (.slice (some ⟨g, 0, none⟩) (ps.length + 1) c)) := by
  obtain ⟨g, c, x3, r1, r2, r3, r4⟩ := app_pend x w0.heap.size v2 ps h.dsk.own2 (q1, q2) hl h.gr.size
  have hp := h.hp
  have hX := h.box.lt
  have h1 := h.al (.cells #[.int .i64 q1, .string q2] 76)
  have lt2 : ∀ j, v2.ownBlock = some j → w0.heap.size ≤ j := fun j hj => (h.dsk.own2.lt j hj).1
  have hgX : some X ≠ (Value.slice (some ⟨g, 0, none⟩) (ps.length + 1) c).ownBlock := fun e => by
    have e : X = g := by simpa [Value.ownBlock] using e
    subst e
    rcases r4 with q | q
    · exact h.n2 q.symm
    · omega
  have hne : v1.ownBlock = none ∨ v1.ownBlock ≠ (Value.slice (some ⟨g, 0, none⟩) (ps.length + 1) c).ownBlock := by
    rcases h.dsk.ne with q | q
    · exact .inl q
    · refine .inr (fun e => ?_)
      have e : v1.ownBlock = some g := e
      rcases r4 with k | k
      · exact q (e.trans k.symm)
      · have := (h.dsk.own1.lt g e).2; omega
  have hb3 : Bxs x3 X 26 #[v1, v2] := (r3.block X h1.box.lt h.n2).trans h1.box
  have ho : DskO w0.heap.size ss (ps ++ [(q1, q2)]) v1 (.slice (some ⟨g, 0, none⟩) (ps.length + 1) c) x3 := ⟨h1.dsk.own1.kept r3 h.dsk.ne, r2, hne⟩
  refine ⟨g, c, x3, r1, ⟨hb3.cell 0, hb3.cell 1, hb3.fr 1⟩, ?_⟩
  have g4 : x3.grownBy (x3.setCell ⟨X, 1, none⟩ (.slice (some ⟨g, 0, none⟩) (ps.length + 1) c)) (some X) := by
    refine ⟨rfl, rfl, rfl, by simp [World.setCell], fun q hq hne => ?_⟩
    have hq' : X ≠ q := fun e => hne (by rw [e])
    simp [World.setCell, Array.getElem?_modify, hq']
  have hXw := h.hX
  exact ⟨(h1.src.other r3 (fun j hj => by have := lt2 j hj; omega)).other g4 (fun j hj => by cases hj; omega), touch_own (touch_own h1.gr r3 lt2) g4 (fun j hj => by cases hj; exact hXw), hp, hXw, hb3.set 1 _, ⟨ho.own1.kept g4 (.inr (fun e => h.n1 e.symm)), ho.own2.kept g4 (.inr (fun e => hgX e.symm)), ho.ne⟩, h.n1, hgX⟩
theorem OutS.touch {Y : Nat} (h : OutS w0 X Y x) (hg : x.grownBy x' (some p)) (hp : p < w0.heap.size) : OutS w0 X Y x' := by
  obtain ⟨u1, u2, c, k, o⟩ := h.ex
  have hY := h.hY
  obtain ⟨ss', ps', q1, q2⟩ := o.ex
  exact ⟨⟨u1, u2, c, (hg.block Y k.lt (fun e => by cases e; omega)).trans k, o.keep hg (.inr (own_off q1.own1 (.inl hp))) (.inr (own_off q1.own2 (.inl hp)))⟩, hY, h.ne⟩
theorem OutS.below {Y : Nat} (h : OutS w0 X Y x) (hb : Below x.heap.size x x') : OutS w0 X Y x' := by
  obtain ⟨u1, u2, c, k, o⟩ := h.ex
  exact ⟨⟨u1, u2, c, k.below hb, o.below hb⟩, h.hY, h.ne⟩
theorem DrT.nY {Y : Nat} (h : DrT w0 B p a len cap X v1 v2 ss ps (some Y) x) : some Y ≠ v1.ownBlock ∧ some Y ≠ v2.ownBlock := (h.y Y rfl).2.2.2
theorem DrT.nN (h : DrT w0 B p a len cap X v1 v2 ss ps none x) : some x.heap.size ≠ v1.ownBlock ∧ some x.heap.size ≠ v2.ownBlock := ⟨own_off h.dr.dsk.own1 (.inr (Nat.le_refl _)), own_off h.dr.dsk.own2 (.inr (Nat.le_refl _))⟩
/-- How many are pending in the box at X. -/
def pendAt (w : World) (X : Nat) : Nat := match w.cell? ⟨X, 1, none⟩ with | some (.slice _ n _) => n | _ => 0
end
end Go.Proofs.YtkhffoailfnepabGreatDoor
