/-
  What DeskWords answers: six words, in memory of their own.
-/
import Derived.Test.YteiffjpmccbcoaaGreatDoorRows
import Derived.Test.YteiffjpmccbcoaaGreatDoorBytes
import Derived.Test.YteiffjpmccbcoaaGreatDoorSlA
import Derived.Test.YteiffjpmccbcoaaGreatDoorSlB
import Derived.Test.YteiffjpmccbcoaaGreatDoorOwnS
import Derived.Test.YteiffjpmccbcoaaGreatDoorOwnB
import Derived.Test.YteiffjpmccbcoaaGreatDoorBxK
import Derived.Test.YteiffjpmccbcoaaGreatDoorShwK
import Derived.Handy
import Derived.WalkSpells
import Derived.OwnWalk
import Derived.Deep.Cut
import Derived.Laws.EntriesVeiled
namespace Go.Proofs.YteiffjpmccbcoaaGreatDoor
open Go.RowKit Go.Lib
set_option linter.unusedVariables false
set_option maxRecDepth 20000

/-- ask, do, head, off, size, traces -/
def dkL : List ByteArray := [⟨#[97, 115, 107]⟩, ⟨#[100, 111]⟩, ⟨#[104, 101, 97, 100]⟩, ⟨#[111, 102, 102]⟩, ⟨#[115, 105, 122, 101]⟩, ⟨#[116, 114, 97, 99, 101, 115]⟩]
theorem dk_six : dkL.length = 6 := rfl
def dkA (w : World) : World := w.alloc (.cells #[.string ⟨#[97, 115, 107]⟩, .string ⟨#[100, 111]⟩, .string ⟨#[104, 101, 97, 100]⟩, .string ⟨#[111, 102, 102]⟩, .string ⟨#[115, 105, 122, 101]⟩, .string ⟨#[116, 114, 97, 99, 101, 115]⟩] 9)
theorem dk_own (w : World) : (dkA w).ownsRow w.heap.size 9 1 (.slice (some ⟨w.heap.size, 0, none⟩) 6 6) 6 (strRow dkL) :=
  ⟨rfl, .inr ⟨w.heap.size, 6, _, rfl, Nat.le_refl _, (MapKept.heap_alloc w _).1, Nat.le_refl _, by unfold maxLen; omega, rfl, rfl⟩⟩
theorem specDeskWords_any (w : World) :
    Calls Tryz.prog 4 #[] w fun e w' => ∃ p c, e = .returned (.slice p 6 c) ∧ w'.ownsRow w.heap.size 9 1 (.slice p 6 c) 6 (strRow dkL) ∧ Below w.heap.size w w' := by
  have HO : Hid ((dkA w).ownsRow w.heap.size 9 1 (.slice (some ⟨w.heap.size, 0, none⟩) 6 6) 6 (strRow dkL) ∧ Below w.heap.size w (dkA w)) := ⟨dk_own w, (Below.refl _ _).alloc (Nat.le_refl _) _⟩
  go_enter Tryz.func4, Tryz.ntmps4
  go_wp2_with fail
  go_ret
  exact ⟨_, 6, rfl, HO.out⟩
/-- The forms of a line, as their block holds them. -/
def dkC : Array Value := #[.string ⟨#[97, 115, 107]⟩, .int .i64 2, .bool false, .func (.func 11) #[] #[],
  .string ⟨#[100, 111]⟩, .int .i64 0, .bool true, .func (.func 12) #[] #[],
  .string ⟨#[104, 101, 97, 100]⟩, .int .i64 0, .bool false, .func (.func 13) #[] #[],
  .string ⟨#[111, 102, 102]⟩, .int .i64 1, .bool true, .func (.func 14) #[] #[],
  .string ⟨#[115, 105, 122, 101]⟩, .int .i64 0, .bool false, .func (.func 15) #[] #[],
  .string ⟨#[116, 114, 97, 99, 101, 115]⟩, .int .i64 0, .bool false, .func (.func 16) #[] #[]]
theorem deskForms_any (w : World) :
    Calls Tryz.prog 9 #[] w fun e w' => e = .returned (.slice (some ⟨w.heap.size, 0, none⟩) 6 6) ∧ Bxs w' w.heap.size 31 dkC ∧ Below w.heap.size w w' := by
  have HO : Hid (Bxs (w.alloc (.cells dkC 31)) w.heap.size 31 dkC ∧ Below w.heap.size w (w.alloc (.cells dkC 31))) := ⟨Bxs.new _ _ _, (Below.refl _ _).alloc (Nat.le_refl _) _⟩
  go_enter Tryz.func9, Tryz.ntmps9
  go_wp2_with fail
  go_ret
  exact ⟨rfl, HO.out⟩
theorem dk_at {w : World} {B : Nat} (h : Bxs w B 31 dkC) (k : Nat) (hk : k < 6) : ∃ n b f, w.cell? ⟨B, k * 4, none⟩ = some (.string (dkL[k]'hk)) ∧ w.cell? ⟨B, k * 4 + 1, none⟩ = some (.int .i64 n) ∧ w.cell? ⟨B, k * 4 + 2, none⟩ = some (.bool b) ∧ w.cell? ⟨B, k * 4 + 3, none⟩ = some (.func (.func f) #[] #[]) := by
  match k, hk with
  | 0, _ => exact ⟨2, false, _, h.cell 0, h.cell 1, h.cell 2, h.cell 3⟩
  | 1, _ => exact ⟨0, true, _, h.cell 4, h.cell 5, h.cell 6, h.cell 7⟩
  | 2, _ => exact ⟨0, false, _, h.cell 8, h.cell 9, h.cell 10, h.cell 11⟩
  | 3, _ => exact ⟨1, true, _, h.cell 12, h.cell 13, h.cell 14, h.cell 15⟩
  | 4, _ => exact ⟨0, false, _, h.cell 16, h.cell 17, h.cell 18, h.cell 19⟩
  | 5, _ => exact ⟨0, false, _, h.cell 20, h.cell 21, h.cell 22, h.cell 23⟩
/-- The words so far, beside the forms. -/
structure DkS (w : World) (k : Nat) (v : Value) (x : World) : Prop where
  own : x.ownsRow w.heap.size 9 1 v (dkL.take k).length (strRow (dkL.take k))
  box : Bxs x w.heap.size 31 dkC
  bel : Below w.heap.size w x
theorem DkS.app {w x : World} {k : Nat} {v : Value} (h : DkS w k v x) (hk : k < 6) (o : Obj) : ∃ g c y, (Builtin.append_ #[22, 22] 22 #[v, .slice (some ⟨x.heap.size + 1, 0, none⟩) 1 1]).run Tryz.prog ((x.alloc o).alloc (.cells #[.string (dkL[k]'hk)] 9)) = .ok (.slice (some ⟨g, 0, none⟩) (k + 1) c) y ∧ DkS w (k + 1) (.slice (some ⟨g, 0, none⟩) (k + 1) c) y := by
  have hl : (dkL.take k).length = k := by rw [List.length_take, dk_six]; omega
  have hb : Below w.heap.size w (x.alloc o) := alB h.bel _
  obtain ⟨g, c, y, h1, h2, h3, h4⟩ := app_str (x.alloc o) w.heap.size v (dkL.take k) (h.own.alloc _) (dkL[k]'hk) (by omega) hb.size
  have e : dkL.take k ++ [dkL[k]'hk] = dkL.take (k + 1) := (List.take_succ_eq_append_getElem (l := dkL) hk).symm
  rw [e] at h2
  rw [hl] at h1 h2
  rw [szA] at h1
  have hbx : Bxs ((x.alloc o).alloc (.cells #[.string (dkL[k]'hk)] 9)) w.heap.size 31 dkC := (h.box.alloc _).alloc _
  have own1 := (h.own.alloc o).alloc (.cells #[.string (dkL[k]'hk)] 9)
  exact ⟨g, c, y, h1, h2, hbx.grown h3 (fun e => ownR_ne own1 hbx (by decide) e.symm), (alB hb _).grown h3 (alB hb _).size (fun j hj => (own1.lt j hj).1)⟩
set_option maxHeartbeats 1000000 in
theorem implDeskWords_any (w : World) :
    Calls Tryz.prog 5 #[] w fun e w' => ∃ p c, e = .returned (.slice p 6 c) ∧ w'.ownsRow w.heap.size 9 1 (.slice p 6 c) 6 (strRow dkL) ∧ Below w.heap.size w w' := by
  have hF := deskForms_any w
  go_enter Tryz.func5, Tryz.ntmps5
  go_wp2_with fail
  refine hF.mono ?_
  rintro e y ⟨rfl, hb, hB⟩
  have HS : Hid (DkS w 0 (.slice none 0 0) y) := ⟨World.ownsRow_nil _ _ _ _, hb, hB⟩
  clear hF hb hB
  go_wp2_with fail
  go_loopw [6, 1] (fun i v wr => ∃ k : Nat, k ≤ 6 ∧ i = .int .i64 k ∧ Hid (DkS w k v wr) ∧ (∃ p c, v = .slice p k c)) (fun i _ _ => 6 - (intOf i).toNat)
  case atStart => exact ⟨0, Nat.zero_le _, rfl, HS, _, _, rfl⟩
  case round =>
    obtain ⟨k, hk, rfl, HK, p, c, rfl⟩ := hrel
    by_cases hlt : k < 6
    · have i1 : (k : Int) < 6 := by omega
      obtain ⟨n, b, f, c0, c1, c2, c3⟩ := dk_at HK.out.box k hlt
      obtain ⟨g, cc, y2, hrun, hS2⟩ := HK.out.app hlt (.cells #[.string (dkL[k]'hlt), .int .i64 n, .bool b, .func (.func f) #[] #[]] 31)
      have HS2 : Hid (DkS w (k + 1) (.slice (some ⟨g, 0, none⟩) (k + 1) cc) y2) := hS2
      clear hS2
      generalize dkL[k] = t at *
      go_wp2_with (at_builtin; refine wpList_append_run rfl _ _ _ rfl (.slice p k c) (.slice (some ⟨wr.heap.size + 1, 0, none⟩) 1 1) _ _ rfl rfl hrun ?_)
      go_roundw
      case rel => exact ⟨k + 1, by omega, by go_num, HS2, _, _, rfl⟩
      case measure => simp [intOf]; omega
    · obtain rfl : k = 6 := by omega
      have HO : Hid (wr.ownsRow w.heap.size 9 1 (.slice p 6 c) 6 (strRow dkL) ∧ Below w.heap.size w wr) := ⟨HK.out.own, HK.out.bel⟩
      go_wp2_with fail
      go_ret
      exact ⟨p, c, rfl, HO.out⟩
end Go.Proofs.YteiffjpmccbcoaaGreatDoor
