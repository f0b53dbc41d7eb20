/-
  What slices.Clone of numbers, the program's copiedRule and copiedPolicy answer.
  Conditions: the cells hold the numbers and rules.
-/
import Derived.Test.YtbgpkngnlfafcaaRows
import Derived.Test.YtbgpkngnlfafcaaBytes
import Derived.Test.YtbgpkngnlfafcaaSlA
import Derived.Test.YtbgpkngnlfafcaaOwnS
import Derived.Test.YtbgpkngnlfafcaaStepApp
import Derived.Test.YtbgpkngnlfafcaaBxK
import Derived.Test.YtbgpkngnlfafcaaTakesL
import Derived.Test.YtbgpkngnlfafcaaTillTwo
import Derived.Test.YtbgpkngnlfafcaaPhaseK
import Derived.Test.YtbgpkngnlfafcaaJoined
import Derived.Test.YtbgpkngnlfafcaaIntK
import Derived.Test.YtbgpkngnlfafcaaRulMath
import Derived.Test.YtbgpkngnlfafcaaRulBlk
import Derived.Test.YtbgpkngnlfafcaaPolMath
import Derived.Test.YtbgpkngnlfafcaaLawI
import Derived.Test.YtbgpkngnlfafcaaRowOps
import Derived.Test.YtbgpkngnlfafcaaDelI
import Derived.Test.YtbgpkngnlfafcaaDelR
import Derived.Test.YtbgpkngnlfafcaaPolO
import Derived.Handy
import Derived.WalkSpells
import Derived.OwnWalk
import Derived.Lib.SliceRun
import Derived.Deep.RegionLaw
import Derived.Deep.Cut
import Derived.Deep.CutRange
namespace Go.Proofs.Ytbgpkngnlfafcaa
open Go.RowKit Go.Lib
set_option linter.unusedVariables false
set_option maxRecDepth 20000

theorem clone_any (p : Option Addr) (cap : Nat) (hs : List Int) (w : World) (hp : IntAt w p hs) (hn : hs.length ≤ 1048576) :
    Calls Try.prog 50 #[.slice p hs.length cap] w fun e w' => ∃ v, e = .returned v ∧ w'.ownsRow w.heap.size 2 1 v hs.length (intRow hs) ∧ Below w.heap.size w w' := by
  cases p with
  | none =>
    obtain rfl : hs = [] := by
      cases hs with
      | nil => rfl
      | cons a l => obtain ⟨b, off, e, -⟩ := hp 0 (by simp); cases e
    clear hp
    have hq := fun y => run_eql_slice_nil (P := Try.prog) y 24 2 none 0 cap 0 0 Try.underlying24
    simp only [Option.isNone_none] at hq
    rw [List.length_nil]
    go_enter Try.func50, Try.ntmps50
    go_wp2_with fail
    go_ret
    exact ⟨_, rfl, World.ownsRow_nil _ _ _ _, Below.refl _ _⟩
  | some a =>
    obtain ⟨i0, E⟩ := elI
    have o1 : (w.alloc (.cells #[] 2)).ownsRow w.heap.size 2 1 (.slice (some ⟨w.heap.size, 0, none⟩) 0 0) 0 [] := bxs_own (cur := #[]) (Bxs.new _ _ _) (Nat.le_refl _) (Nat.le_refl _) (by unfold maxLen; omega) rfl rfl
    obtain ⟨v', w', AP, HO, HG, -⟩ := app_cel E 24 (w.alloc (.cells #[] 2)) w.heap.size _ 0 [] o1 (some a) hs.length cap (intRow hs) (hp.cel.below ((Below.refl _ _).alloc (Nat.le_refl _) _)) (by rw [intRow_len]; omega) (oneI hs) (by omega) (by unfold maxLen; omega) (by simp)
    rw [Nat.zero_add, List.nil_append] at HO
    have HO : Hid (w'.ownsRow w.heap.size 2 1 v' hs.length (intRow hs)) := HO
    have HB : Hid (Below w.heap.size w w') := ((Below.refl _ _).alloc (Nat.le_refl _) _).grown HG (by simp) (fun k hk => by have : some w.heap.size = some k := hk; cases this; exact Nat.le_refl _)
    have hq := fun y => run_eql_slice_nil (P := Try.prog) y 24 2 (some a) hs.length cap 0 0 Try.underlying24
    simp only [Option.isNone_some] at hq
    clear hp E o1 HG
    go_enter Try.func50, Try.ntmps50
    go_wp2_with (at_builtin; refine wpList_app rfl _ _ _ _ rfl _ _ _ _ rfl rfl AP ?_)
    go_ret
    exact ⟨_, rfl, HO.out, HB.out⟩
set_option maxHeartbeats 8000000 in
theorem copiedRule_any (k f : ByteArray) (l m : Int) (w : World) (hk : k.size ≤ 1048576) (hf : f.size ≤ 1048576) :
    Calls Try.prog 25 #[.agg #[.string k, .string f, .int .i64 l, .int .i64 m]] w fun e w' => e = .returned (.agg #[.string k, .string f, .int .i64 l, .int .i64 m]) ∧ Below w.heap.size w w' := by
  obtain ⟨W2, hW2⟩ : ∃ W2, W2 = (w.alloc (.cells #[.string k, .string f, .int .i64 l, .int .i64 m] 28)).alloc (.cells #[.string ⟨#[]⟩, .string ⟨#[]⟩, .int .i64 0, .int .i64 0] 28) := ⟨_, rfl⟩
  have HW2 : Hid (W2 = (w.alloc (.cells #[.string k, .string f, .int .i64 l, .int .i64 m] 28)).alloc (.cells #[.string ⟨#[]⟩, .string ⟨#[]⟩, .int .i64 0, .int .i64 0] 28)) := hW2
  have hs1 : (w.alloc (.cells #[.string k, .string f, .int .i64 l, .int .i64 m] 28)).heap.size = w.heap.size + 1 := by simp
  have K0 : Bxs W2 w.heap.size 28 #[.string k, .string f, .int .i64 l, .int .i64 m] := by rw [hW2]; exact (Bxs.new _ _ _).alloc _
  have K1 : Bxs W2 (w.heap.size + 1) 28 #[.string ⟨#[]⟩, .string ⟨#[]⟩, .int .i64 0, .int .i64 0] := by rw [hW2, ← hs1]; exact Bxs.new _ _ _
  have B2 : Hid (Below w.heap.size w W2) := by rw [hW2]; exact ((Below.refl _ _).alloc (Nat.le_refl _) _).alloc (by rw [hs1]; omega) _
  have HX : Hid (∀ x, Below W2.heap.size W2 x → x.cell? ⟨w.heap.size, 0, none⟩ = some (.string k) ∧ x.cell? ⟨w.heap.size, 1, none⟩ = some (.string f) ∧ x.cell? ⟨w.heap.size, 2, none⟩ = some (.int .i64 l) ∧ x.cell? ⟨w.heap.size, 3, none⟩ = some (.int .i64 m)) := fun x hb => (K0.below hb).four
  have HZ : Hid (∀ x, Below W2.heap.size W2 x → x.cell? ⟨w.heap.size + 1, 0, none⟩ = some (.string ⟨#[]⟩) ∧ x.cell? ⟨w.heap.size + 1, 1, none⟩ = some (.string ⟨#[]⟩) ∧ x.cell? ⟨w.heap.size + 1, 2, none⟩ = some (.int .i64 0) ∧ x.cell? ⟨w.heap.size + 1, 3, none⟩ = some (.int .i64 0) ∧ x.frozen? ⟨w.heap.size + 1, 0, none⟩ = false ∧ x.frozen? ⟨w.heap.size + 1, 1, none⟩ = false ∧ x.frozen? ⟨w.heap.size + 1, 2, none⟩ = false ∧ x.frozen? ⟨w.heap.size + 1, 3, none⟩ = false) := fun x hb => ⟨(K1.below hb).cell 0, (K1.below hb).cell 1, (K1.below hb).cell 2, (K1.below hb).cell 3, (K1.below hb).fr 0, (K1.below hb).fr 1, (K1.below hb).fr 2, (K1.below hb).fr 3⟩
  have HEnd : Hid (∀ x, Below W2.heap.size W2 x → Below w.heap.size w ((((x.setCell ⟨w.heap.size + 1, 0, none⟩ (.string k)).setCell ⟨w.heap.size + 1, 1, none⟩ (.string f)).setCell ⟨w.heap.size + 1, 2, none⟩ (.int .i64 l)).setCell ⟨w.heap.size + 1, 3, none⟩ (.int .i64 m))) := fun x hb => ((((chainB B2.out hb).setCell (by show w.heap.size ≤ w.heap.size + 1; omega) _).setCell (by show w.heap.size ≤ w.heap.size + 1; omega) _).setCell (by show w.heap.size ≤ w.heap.size + 1; omega) _).setCell (by show w.heap.size ≤ w.heap.size + 1; omega) _
  have BR : Hid (Below W2.heap.size W2 W2.drew) := (Below.refl _ _).drew
  have JA : Hid (Sl1 (W2.alloc (.cells #[.string k] 9)).drew (.slice (some ⟨W2.heap.size, 0, none⟩) 1 1) k) := (Sl1.new W2 k).below ((Below.refl _ _).drew)
  have JAk : Hid (Sl1 ((W2.alloc (.cells #[.string k] 9)).alloc (.cells #[.string f] 9)).drew (.slice (some ⟨W2.heap.size, 0, none⟩) 1 1) k) := ((Sl1.new W2 k).below ((Below.refl _ _).alloc (Nat.le_refl _) _)).below ((Below.refl _ _).drew)
  have JAf : Hid (Sl1 ((W2.alloc (.cells #[.string k] 9)).alloc (.cells #[.string f] 9)).drew (.slice (some ⟨W2.heap.size + 1, 0, none⟩) 1 1) f) := by
    have := (Sl1.new (W2.alloc (.cells #[.string k] 9)) f).below ((Below.refl _ _).drew)
    rwa [szA] at this
  have JBf : Hid (Sl1 ((W2.alloc (.cells #[.string f] 9)).alloc (.cells #[.string k] 9)).drew (.slice (some ⟨W2.heap.size, 0, none⟩) 1 1) f) := ((Sl1.new W2 f).below ((Below.refl _ _).alloc (Nat.le_refl _) _)).below ((Below.refl _ _).drew)
  have JBk : Hid (Sl1 ((W2.alloc (.cells #[.string f] 9)).alloc (.cells #[.string k] 9)).drew (.slice (some ⟨W2.heap.size + 1, 0, none⟩) 1 1) k) := by
    have := (Sl1.new (W2.alloc (.cells #[.string f] 9)) k).below ((Below.refl _ _).drew)
    rwa [szA] at this
  clear K0 K1 hW2 hs1
  go_enter Try.func25, Try.ntmps25
  go_wp2_with fail
  rw [← HW2.out]
  refine region_till (fun w' => w'.cell? ⟨w.heap.size, 0, none⟩ = some (.string k) ∧ w'.cell? ⟨w.heap.size, 1, none⟩ = some (.string f) ∧ w'.cell? ⟨w.heap.size, 2, none⟩ = some (.int .i64 l) ∧ w'.cell? ⟨w.heap.size, 3, none⟩ = some (.int .i64 m)) 13 (by kernel_rfl) (HX.out _ BR.out) (fun hHeld => ?_)
  refine till_take 0 (v := ?_) rfl (by kernel_rfl) (by kernel_rfl) (by kernel_rfl) (by kernel_rfl) (fun _ _ _ h => h) hHeld (Or.inl ⟨by rfl, ?_⟩) ?_
  rotate_left
  · (intro w hSw; (try dsimp only at hSw); go_simp; try with_reducible rfl)
  simp only [Act.put, List.setIfInBounds_toArray, List.set_cons_zero, List.set_cons_succ]
  refine till_take 1 (v := ?_) rfl (by kernel_rfl) (by kernel_rfl) (by kernel_rfl) (by kernel_rfl) (fun _ _ _ h => h) hHeld (Or.inl ⟨by rfl, ?_⟩) ?_
  rotate_left
  · (intro w hSw; (try dsimp only at hSw); go_simp; try with_reducible rfl)
  simp only [Act.put, List.setIfInBounds_toArray, List.set_cons_zero, List.set_cons_succ]
  refine till_take 4 (v := ?_) rfl (by kernel_rfl) (by kernel_rfl) (by kernel_rfl) (by kernel_rfl) (fun _ _ _ h => h) hHeld (Or.inl ⟨by rfl, ?_⟩) ?_
  rotate_left
  · (intro w hSw; (try dsimp only at hSw); go_simp; try with_reducible rfl)
  simp only [Act.put, List.setIfInBounds_toArray, List.set_cons_zero, List.set_cons_succ]
  refine till_take 5 (v := ?_) rfl (by kernel_rfl) (by kernel_rfl) (by kernel_rfl) (by kernel_rfl) (fun _ _ _ h => h) hHeld (Or.inl ⟨by rfl, ?_⟩) ?_
  rotate_left
  · (intro w hSw; (try dsimp only at hSw); go_simp; try with_reducible rfl)
  simp only [Act.put, List.setIfInBounds_toArray, List.set_cons_zero, List.set_cons_succ]
  refine till_take 8 (v := ?_) rfl (by kernel_rfl) (by kernel_rfl) (by kernel_rfl) (by kernel_rfl) (fun _ _ _ h => h) hHeld (Or.inl ⟨by rfl, ?_⟩) ?_
  rotate_left
  · (intro w hSw; (try dsimp only at hSw); go_simp; try with_reducible rfl)
  simp only [Act.put, List.setIfInBounds_toArray, List.set_cons_zero, List.set_cons_succ]
  refine till_take 9 (v := ?_) rfl (by kernel_rfl) (by kernel_rfl) (by kernel_rfl) (by kernel_rfl) (fun _ _ _ h => h) hHeld (Or.inl ⟨by rfl, ?_⟩) ?_
  rotate_left
  · (intro w hSw; (try dsimp only at hSw); go_simp; try with_reducible rfl)
  simp only [Act.put, List.setIfInBounds_toArray, List.set_cons_zero, List.set_cons_succ]
  refine till_take 10 (v := ?_) rfl (by kernel_rfl) (by kernel_rfl) (by kernel_rfl) (by kernel_rfl) (fun _ _ _ h => h) hHeld (Or.inl ⟨by rfl, ?_⟩) ?_
  rotate_left
  · (intro w hSw; (try dsimp only at hSw); go_simp; try with_reducible rfl)
  simp only [Act.put, List.setIfInBounds_toArray, List.set_cons_zero, List.set_cons_succ]
  refine till_take 11 (v := ?_) rfl (by kernel_rfl) (by kernel_rfl) (by kernel_rfl) (by kernel_rfl) (fun _ _ _ h => h) hHeld (Or.inl ⟨by rfl, ?_⟩) ?_
  rotate_left
  · (intro w hSw; (try dsimp only at hSw); go_simp; try with_reducible rfl)
  simp only [Act.put, List.setIfInBounds_toArray, List.set_cons_zero, List.set_cons_succ]
  refine till_ready2 2 6 rfl rfl (by kernel_rfl) (fun K hK => ?_) (fun K hK => ?_)
  · go_simp
    refine hK.out _ _ (HX.out _ (alB BR.out _)) (fun hHeld => ?_)
    clear hK K
    try simp only [Act.put, List.setIfInBounds_toArray, List.set_cons_zero, List.set_cons_succ]
    refine till_ready2 3 6 rfl rfl (by kernel_rfl) (fun K hK => ?_) (fun K hK => ?_)
    · go_simp
      (go_at_call 51; with_reducible refine (joinedAt JA.out (by omega)).mono ?_; rintro e y1 ⟨rfl, z1⟩)
      have b1 : Below W2.heap.size W2 y1 := chainB ((alB (Below.refl _ _) _).drew) z1
      refine hK.out _ _ (HX.out _ b1) (fun hHeld => ?_)
      clear hK K
      try simp only [Act.put, List.setIfInBounds_toArray, List.set_cons_zero, List.set_cons_succ]
      refine till_ready 6 rfl (by kernel_rfl) (fun K hK => ?_)
      go_simp
      refine hK.out _ _ (HX.out _ (alB b1 _)) (fun hHeld => ?_)
      clear hK K
      try simp only [Act.put, List.setIfInBounds_toArray, List.set_cons_zero, List.set_cons_succ]
      refine till_ready 7 rfl (by kernel_rfl) (fun K hK => ?_)
      go_simp
      (go_at_call 51; with_reducible refine (joinedAt (Sl1.new _ f) (by omega)).mono ?_; rintro e y2 ⟨rfl, z2⟩)
      have b2 : Below W2.heap.size W2 y2 := chainB (alB b1 _) z2
      refine hK.out _ _ (HX.out _ b2) (fun hHeld => ?_)
      clear hK K
      try simp only [Act.put, List.setIfInBounds_toArray, List.set_cons_zero, List.set_cons_succ]
      refine till_take 12 (v := ?_) rfl (by kernel_rfl) (by kernel_rfl) (by kernel_rfl) (by kernel_rfl) (fun _ _ _ h => h) hHeld (Or.inl ⟨by rfl, ?_⟩) ?_
      rotate_left
      · (intro w hSw; (try dsimp only at hSw); go_simp; try with_reducible rfl)
      simp only [Act.put, List.setIfInBounds_toArray, List.set_cons_zero, List.set_cons_succ]
      refine till_last rfl (by kernel_rfl) (by kernel_rfl) (fun K hK => ?_)
      obtain ⟨r0, r1, r2, r3, f0, f1, f2, f3⟩ := HZ.out _ b2
      go_simp
      refine hK.out _ _ ?_
      clear hK K hHeld
      have HE := HEnd.out _ b2
      go_wp2_with fail
      refine bodyPost_ret (v := .agg #[.string k, .string f, .int .i64 l, .int .i64 m]) (by simp [results, Try.results25, go_sem, r0, r1, r2, r3]) rfl ?_
      exact ⟨rfl, HE⟩
    · go_simp
      refine hK.out _ _ (HX.out _ (alB (alB BR.out _) _)) (fun hHeld => ?_)
      clear hK K
      try simp only [Act.put, List.setIfInBounds_toArray, List.set_cons_zero, List.set_cons_succ]
      refine till_ready 3 rfl (by kernel_rfl) (fun K hK => ?_)
      go_simp
      (go_at_call 51; with_reducible refine (joinedAt JAk.out (by omega)).mono ?_; rintro e y1 ⟨rfl, z1⟩)
      have b1 : Below W2.heap.size W2 y1 := chainB ((alB (alB (Below.refl _ _) _) _).drew) z1
      refine hK.out _ _ (HX.out _ b1) (fun hHeld => ?_)
      clear hK K
      try simp only [Act.put, List.setIfInBounds_toArray, List.set_cons_zero, List.set_cons_succ]
      refine till_ready 7 rfl (by kernel_rfl) (fun K hK => ?_)
      go_simp
      (go_at_call 51; with_reducible refine (joinedAt (JAf.out.below z1) (by omega)).mono ?_; rintro e y2 ⟨rfl, z2⟩)
      have b2 : Below W2.heap.size W2 y2 := chainB (b1) z2
      refine hK.out _ _ (HX.out _ b2) (fun hHeld => ?_)
      clear hK K
      try simp only [Act.put, List.setIfInBounds_toArray, List.set_cons_zero, List.set_cons_succ]
      refine till_take 12 (v := ?_) rfl (by kernel_rfl) (by kernel_rfl) (by kernel_rfl) (by kernel_rfl) (fun _ _ _ h => h) hHeld (Or.inl ⟨by rfl, ?_⟩) ?_
      rotate_left
      · (intro w hSw; (try dsimp only at hSw); go_simp; try with_reducible rfl)
      simp only [Act.put, List.setIfInBounds_toArray, List.set_cons_zero, List.set_cons_succ]
      refine till_last rfl (by kernel_rfl) (by kernel_rfl) (fun K hK => ?_)
      obtain ⟨r0, r1, r2, r3, f0, f1, f2, f3⟩ := HZ.out _ b2
      go_simp
      refine hK.out _ _ ?_
      clear hK K hHeld
      have HE := HEnd.out _ b2
      go_wp2_with fail
      refine bodyPost_ret (v := .agg #[.string k, .string f, .int .i64 l, .int .i64 m]) (by simp [results, Try.results25, go_sem, r0, r1, r2, r3]) rfl ?_
      exact ⟨rfl, HE⟩
  · go_simp
    refine hK.out _ _ (HX.out _ (alB BR.out _)) (fun hHeld => ?_)
    clear hK K
    try simp only [Act.put, List.setIfInBounds_toArray, List.set_cons_zero, List.set_cons_succ]
    refine till_ready 2 rfl (by kernel_rfl) (fun K hK => ?_)
    go_simp
    refine hK.out _ _ (HX.out _ (alB (alB BR.out _) _)) (fun hHeld => ?_)
    clear hK K
    try simp only [Act.put, List.setIfInBounds_toArray, List.set_cons_zero, List.set_cons_succ]
    refine till_ready 3 rfl (by kernel_rfl) (fun K hK => ?_)
    go_simp
    (go_at_call 51; with_reducible refine (joinedAt JBk.out (by omega)).mono ?_; rintro e y1 ⟨rfl, z1⟩)
    have b1 : Below W2.heap.size W2 y1 := chainB ((alB (alB (Below.refl _ _) _) _).drew) z1
    refine hK.out _ _ (HX.out _ b1) (fun hHeld => ?_)
    clear hK K
    try simp only [Act.put, List.setIfInBounds_toArray, List.set_cons_zero, List.set_cons_succ]
    refine till_ready 7 rfl (by kernel_rfl) (fun K hK => ?_)
    go_simp
    (go_at_call 51; with_reducible refine (joinedAt (JBf.out.below z1) (by omega)).mono ?_; rintro e y2 ⟨rfl, z2⟩)
    have b2 : Below W2.heap.size W2 y2 := chainB (b1) z2
    refine hK.out _ _ (HX.out _ b2) (fun hHeld => ?_)
    clear hK K
    try simp only [Act.put, List.setIfInBounds_toArray, List.set_cons_zero, List.set_cons_succ]
    refine till_take 12 (v := ?_) rfl (by kernel_rfl) (by kernel_rfl) (by kernel_rfl) (by kernel_rfl) (fun _ _ _ h => h) hHeld (Or.inl ⟨by rfl, ?_⟩) ?_
    rotate_left
    · (intro w hSw; (try dsimp only at hSw); go_simp; try with_reducible rfl)
    simp only [Act.put, List.setIfInBounds_toArray, List.set_cons_zero, List.set_cons_succ]
    refine till_last rfl (by kernel_rfl) (by kernel_rfl) (fun K hK => ?_)
    obtain ⟨r0, r1, r2, r3, f0, f1, f2, f3⟩ := HZ.out _ b2
    go_simp
    refine hK.out _ _ ?_
    clear hK K hHeld
    have HE := HEnd.out _ b2
    go_wp2_with fail
    refine bodyPost_ret (v := .agg #[.string k, .string f, .int .i64 l, .int .i64 m]) (by simp [results, Try.results25, go_sem, r0, r1, r2, r3]) rfl ?_
    exact ⟨rfl, HE⟩
/-- What holds in the midst of copying a policy: the copy's box (Z), the answer's box (R), the rows so far. -/
structure CpP (w : World) (B R Z : Nat) (rs : List Rul) (hs : List Int) (vh : Value) (k : Nat) (v : Value) (wr : World) : Prop where
  box : Bxs wr Z 26 #[v, vh]
  rbox : Bxs wr R 26 #[.slice none 0 0, .slice none 0 0]
  own1 : wr.ownsRow B 28 4 v k (rulRow (rs.take k))
  own2 : wr.ownsRow B 2 1 vh hs.length (intRow hs)
  bel : Below w.heap.size w wr
  vz : ∀ j, v.ownBlock = some j → Z < j
  hz : ∀ j, vh.ownBlock = some j → j < Z
  rb : R < B
  bz : B ≤ Z
  wb : w.heap.size ≤ B
theorem CpP.below {w : World} {B R Z : Nat} {rs : List Rul} {hs : List Int} {vh : Value} {k : Nat} {v : Value} {wr wr' : World} (h : CpP w B R Z rs hs vh k v wr) (hb : Below wr.heap.size wr wr') : CpP w B R Z rs hs vh k v wr' :=
  ⟨h.box.below hb, h.rbox.below hb, ownS_below h.own1 hb, ownS_below h.own2 hb, chainB h.bel hb, h.vz, h.hz, h.rb, h.bz, h.wb⟩
theorem CpP.step {w : World} {B R Z : Nat} {rs : List Rul} {hs : List Int} {vh : Value} {k : Nat} {v : Value} {wr : World} (h : CpP w B R Z rs hs vh k v wr) (hk : k < rs.length) (hl : rs.length ≤ 1048576) :
    ∃ v' y, (Builtin.append_ #[23, 23] 23 #[v, .slice (some ⟨wr.heap.size, 0, none⟩) 1 1]).run Try.prog (wr.alloc (.cells #[.string rs[k].k, .string rs[k].f, .int .i64 rs[k].l, .int .i64 rs[k].m] 28)) = .ok v' y ∧ y.cell? ⟨Z, 0, none⟩ = some v ∧ y.frozen? ⟨Z, 0, none⟩ = false ∧ CpP w B R Z rs hs vh (k + 1) v' (y.setCell ⟨Z, 0, none⟩ v') ∧ wr.grownBy y v.ownBlock := by
  obtain ⟨i0, E⟩ := elR
  obtain ⟨W, hW⟩ : ∃ W, W = wr.alloc (.cells #[.string rs[k].k, .string rs[k].f, .int .i64 rs[k].l, .int .i64 rs[k].m] 28) := ⟨_, rfl⟩
  have hb : Below wr.heap.size wr W := by rw [hW]; exact (Below.refl _ _).alloc (Nat.le_refl _) _
  have hn : Bxs W wr.heap.size 28 #[.string rs[k].k, .string rs[k].f, .int .i64 rs[k].l, .int .i64 rs[k].m] := by rw [hW]; exact Bxs.new _ _ _
  have h2 := h.below hb
  have hc : CelAt W (some ⟨wr.heap.size, 0, none⟩) (rulRow [rs[k]]) := (show BlkU W wr.heap.size [rs[k]] from hn).at.cel
  obtain ⟨v', y, hr, ho, hg, hlies⟩ := app_cel E 23 W B v k (rulRow (rs.take k)) h2.own1 (some ⟨wr.heap.size, 0, none⟩) 1 1 (rulRow [rs[k]]) hc rfl (oneR _) (by omega) (by unfold maxLen; omega) (by have := h2.box.lt; have := h.bz; omega)
  rw [← rulRow_append, ← List.take_succ_eq_append_getElem hk] at ho
  have zl := h2.box.lt
  have nz : some Z ≠ v.ownBlock := fun e => by have := h.vz Z e.symm; omega
  have nr : some R ≠ v.ownBlock := fun e => by have := h.vz R e.symm; have := h.rb; have := h.bz; omega
  have hyb := h2.box.grown hg nz
  have hsz : wr.heap.size ≤ W.heap.size := hb.size
  refine ⟨v', y, by rw [← hW]; exact hr, hyb.cell 0, hyb.fr 0, ⟨hyb.set 0 v', (h2.rbox.grown hg nr).other _ _ (by have := h.rb; have := h.bz; omega) _, own_setO ho _ _ ?_ _, own_setO (h2.own2.kept hg ?_) _ _ ?_ _, ?_, ?_, h.hz, h.rb, h.bz, h.wb⟩, ?_⟩
  · intro e
    rcases hlies Z e.symm with q | q
    · have := h.vz Z q; omega
    · have := h.box.lt; omega
  · cases hvh : vh.ownBlock with
    | none => exact .inl rfl
    | some j => exact .inr (fun e => by have := h.hz j hvh; have := h.vz j e.symm; omega)
  · intro e; have := h.hz Z e.symm; omega
  · refine ((h2.bel).grown hg (Nat.le_trans h.wb (by have := h.bz; omega)) (fun j hj => by have := h.vz j hj; have := h.wb; have := h.bz; omega)).setCell (by show w.heap.size ≤ Z; have := h.wb; have := h.bz; omega) _
  · intro j hj
    rcases hlies j hj with q | q
    · exact h.vz j q
    · have := h.box.lt; omega
  · exact ⟨hg.os.trans hb.os, hg.tape.trans hb.tape, hg.output.trans hb.output, Nat.le_trans hb.size hg.size, fun q hq hne => (hg.block q (Nat.lt_of_lt_of_le hq hb.size) hne).trans (hb.block q hq)⟩
set_option maxHeartbeats 8000000 in
theorem copiedPolicy_any (p1 p2 : Option Addr) (c1 c2 : Nat) (rs : List Rul) (hs : List Int) (w : World) (hr : RulAt w p1 rs) (hh : IntAt w p2 hs) (n1 : rs.length ≤ 1048576) (n2 : hs.length ≤ 1048576) (m1 : rs.length ≤ c1) (hz : ∀ r ∈ rs, r.k.size ≤ 1048576 ∧ r.f.size ≤ 1048576) :
    Calls Try.prog 24 #[.agg #[.slice p1 rs.length c1, .slice p2 hs.length c2]] w fun e w' => ∃ v1 v2, e = .returned (.agg #[v1, v2]) ∧ PolO w.heap.size rs hs v1 v2 w' ∧ Below w.heap.size w w' := by
  obtain ⟨W2, hW2⟩ : ∃ W2, W2 = (w.alloc (.cells #[.slice p1 rs.length c1, .slice p2 hs.length c2] 26)).alloc (.cells #[.slice none 0 0, .slice none 0 0] 26) := ⟨_, rfl⟩
  have HW2 : Hid (W2 = (w.alloc (.cells #[.slice p1 rs.length c1, .slice p2 hs.length c2] 26)).alloc (.cells #[.slice none 0 0, .slice none 0 0] 26)) := hW2
  have hs1 : (w.alloc (.cells #[.slice p1 rs.length c1, .slice p2 hs.length c2] 26)).heap.size = w.heap.size + 1 := by simp
  have HS2 : Hid (W2.heap.size = w.heap.size + 2) := by rw [hW2]; show _ = _; simp
  have K0 : Hid (Bxs W2 w.heap.size 26 #[.slice p1 rs.length c1, .slice p2 hs.length c2]) := by rw [hW2]; exact (Bxs.new _ _ _).alloc _
  have K1 : Hid (Bxs W2 (w.heap.size + 1) 26 #[.slice none 0 0, .slice none 0 0]) := by rw [hW2, ← hs1]; exact Bxs.new _ _ _
  have B2 : Hid (Below w.heap.size w W2) := by rw [hW2]; exact ((Below.refl _ _).alloc (Nat.le_refl _) _).alloc (by rw [hs1]; omega) _
  have HR : Hid (RulAt w p1 rs) := hr
  have hC := clone_any p2 c2 hs W2 (hh.below B2.out) n2
  have HZ : Hid (∀ r ∈ rs, r.k.size ≤ 1048576 ∧ r.f.size ≤ 1048576) := hz
  have x1 : W2.cell? ⟨w.heap.size, 1, none⟩ = some (.slice p2 hs.length c2) := K0.out.cell 1
  have y1 := x1
  rw [hW2] at y1
  clear hW2 hs1 hr hh hz
  go_enter Try.func24, Try.ntmps24
  go_wp2_with fail
  rw [← HW2.out]
  refine hC.mono ?_
  rintro e w3 ⟨vh, rfl, oh, b3⟩
  obtain ⟨ph, ch, rfl, mh⟩ := own_form oh
  obtain ⟨W4, hW4⟩ : ∃ W4, W4 = w3.alloc (.cells #[.slice none 0 0, .slice ph hs.length ch] 26) := ⟨_, rfl⟩
  have HW4 : Hid (W4 = w3.alloc (.cells #[.slice none 0 0, .slice ph hs.length ch] 26)) := hW4
  have b4 : Below w3.heap.size w3 W4 := by rw [hW4]; exact (Below.refl _ _).alloc (Nat.le_refl _) _
  have CP : Hid (CpP w W2.heap.size (w.heap.size + 1) w3.heap.size rs hs (.slice ph hs.length ch) 0 (.slice none 0 0) W4) := by
    have hS2 := HS2.out
    refine ⟨by rw [hW4]; exact Bxs.new _ _ _, (K1.out.below b3).below b4, World.ownsRow_nil _ _ _ _, ownS_below oh b4, chainB (chainB B2.out b3) b4, fun j hj => (by cases hj), fun j hj => (oh.lt j hj).2, by omega, b3.size, by omega⟩
  have HX0 : Hid (∀ x, Below w3.heap.size w3 x → x.cell? ⟨w.heap.size, 0, none⟩ = some (.slice p1 rs.length c1)) := fun x hx => ((K0.out.below b3).below hx).cell 0
  have hx0 := HX0.out W4 b4
  have hx1 := hx0
  rw [hW4] at hx1
  have HB4 : Hid (Below w3.heap.size w3 W4) := b4
  clear hW4 b4 oh hC x1 y1 b3 K0 K1
  go_wp2_with fail
  rw [← HW4.out]
  go_loopw [13] (fun i wr => ∃ (k : Nat) (v : Value), k ≤ rs.length ∧ i = .int .i64 k ∧ Hid (CpP w W2.heap.size (w.heap.size + 1) w3.heap.size rs hs (.slice ph hs.length ch) k v wr)) (fun i _ => rs.length - (intOf i).toNat)
  case atStart => exact ⟨0, _, Nat.zero_le _, rfl, CP⟩
  case round =>
    clear CP hx0 hx1
    obtain ⟨k, v, hk, rfl, hcp⟩ := hrel
    by_cases hlt : k < rs.length
    · have i1 : (k : Int) < rs.length := by omega
      obtain ⟨b, off, rfl, hb, q1, q2, q3, q4⟩ := (HR.out.below hcp.out.bel) k hlt
      have hzk := HZ.out _ (List.getElem_mem hlt)
      have HQ : Hid (∀ x, Calls Try.prog 25 #[.agg #[.string rs[k].k, .string rs[k].f, .int .i64 rs[k].l, .int .i64 rs[k].m]] x fun e w' => e = .returned (.agg #[.string rs[k].k, .string rs[k].f, .int .i64 rs[k].l, .int .i64 rs[k].m]) ∧ Below x.heap.size x w') := fun x => copiedRule_any _ _ _ _ x hzk.1 hzk.2
      have HST : Hid (∀ x, Below wr.heap.size wr x → ∃ v' y, (Builtin.append_ #[23, 23] 23 #[v, .slice (some ⟨x.heap.size, 0, none⟩) 1 1]).run Try.prog (x.alloc (.cells #[.string rs[k].k, .string rs[k].f, .int .i64 rs[k].l, .int .i64 rs[k].m] 28)) = .ok v' y ∧ y.cell? ⟨w3.heap.size, 0, none⟩ = some v ∧ y.frozen? ⟨w3.heap.size, 0, none⟩ = false ∧ CpP w W2.heap.size (w.heap.size + 1) w3.heap.size rs hs (.slice ph hs.length ch) (k + 1) v' (y.setCell ⟨w3.heap.size, 0, none⟩ v') ∧ x.grownBy y v.ownBlock) := fun x hx => (hcp.out.below hx).step hlt n1
      have hvl : ∀ j, v.ownBlock = some j → j < wr.heap.size := fun j hj => (hcp.out.own1.lt j hj).2
      have HVL : Hid (∀ j, v.ownBlock = some j → j < wr.heap.size) := hvl
      have HZB : Hid (∀ x, Below wr.heap.size wr x → x.cell? ⟨w3.heap.size, 0, none⟩ = some v) := fun x hx => (hcp.out.box.below hx).cell 0
      generalize rs[k].k = fk at *
      generalize rs[k].f = ff at *
      generalize rs[k].l = fl at *
      generalize rs[k].m = fm at *
      clear hvl hzk hcp
      go_upto_region 5 with fail
      obtain ⟨y0, hy0⟩ : ∃ y0, y0 = wr.alloc (.cells #[.string fk, .string ff, .int .i64 fl, .int .i64 fm] 28) := ⟨_, rfl⟩
      rw [← hy0]
      have BY : Hid (Below wr.heap.size wr y0) := by rw [hy0]; exact (Below.refl _ _).alloc (Nat.le_refl _) _
      have KY : Hid (Bxs y0 wr.heap.size 28 #[.string fk, .string ff, .int .i64 fl, .int .i64 fm]) := by rw [hy0]; exact Bxs.new _ _ _
      have HYS : Hid (∀ x, Below y0.heap.size y0 x → x.cell? ⟨w3.heap.size, 0, none⟩ = some v ∧ (x.cell? ⟨wr.heap.size, 0, none⟩ = some (.string fk) ∧ x.cell? ⟨wr.heap.size, 1, none⟩ = some (.string ff) ∧ x.cell? ⟨wr.heap.size, 2, none⟩ = some (.int .i64 fl) ∧ x.cell? ⟨wr.heap.size, 3, none⟩ = some (.int .i64 fm))) := fun x hx => ⟨HZB.out x (chainB BY.out hx), (KY.out.below hx).four⟩
      have BYR : Hid (Below y0.heap.size y0 y0.drew) := (Below.refl _ _).drew
      have HAP : Hid (∀ x, Below y0.heap.size y0 x → ∃ p' c' y, (Builtin.append_ #[23, 23] 23 #[v, .slice (some ⟨x.heap.size, 0, none⟩) 1 1]).run Try.prog (x.alloc (.cells #[.string fk, .string ff, .int .i64 fl, .int .i64 fm] 28)) = .ok (.slice p' (k + 1) c') y ∧ y.cell? ⟨w3.heap.size, 0, none⟩ = some v ∧ y.frozen? ⟨w3.heap.size, 0, none⟩ = false ∧ Hid (CpP w W2.heap.size (w.heap.size + 1) w3.heap.size rs hs (.slice ph hs.length ch) (k + 1) (.slice p' (k + 1) c') (y.setCell ⟨w3.heap.size, 0, none⟩ (.slice p' (k + 1) c'))) ∧ (y.cell? ⟨w3.heap.size, 0, none⟩ = some v ∧ (y.cell? ⟨wr.heap.size, 0, none⟩ = some (.string fk) ∧ y.cell? ⟨wr.heap.size, 1, none⟩ = some (.string ff) ∧ y.cell? ⟨wr.heap.size, 2, none⟩ = some (.int .i64 fl) ∧ y.cell? ⟨wr.heap.size, 3, none⟩ = some (.int .i64 fm)))) := fun x hx => by
        obtain ⟨v', y, h1, h2, h3, h4, h5⟩ := HST.out x (chainB BY.out hx)
        obtain ⟨p', c', rfl, -⟩ := own_form h4.own1
        exact ⟨p', c', y, h1, h2, h3, h4, h2, ((KY.out.below hx).grown h5 (fun e => by have := HVL.out _ e.symm; omega)).four⟩
      clear hy0 HST q1 q2 q3 q4 HZB HVL
      refine region_till (fun w' => w'.cell? ⟨w3.heap.size, 0, none⟩ = some v ∧ (w'.cell? ⟨wr.heap.size, 0, none⟩ = some (.string fk) ∧ w'.cell? ⟨wr.heap.size, 1, none⟩ = some (.string ff) ∧ w'.cell? ⟨wr.heap.size, 2, none⟩ = some (.int .i64 fl) ∧ w'.cell? ⟨wr.heap.size, 3, none⟩ = some (.int .i64 fm))) 7 (by kernel_rfl) (HYS.out _ BYR.out) (fun hHeld => ?_)
      refine till_take 0 (v := ?_) rfl (by kernel_rfl) (by kernel_rfl) (by kernel_rfl) (by kernel_rfl) (fun _ _ _ h => h) hHeld (Or.inl ⟨by rfl, ?_⟩) ?_
      rotate_left
      · (intro w hSw; (try dsimp only at hSw); go_simp; try with_reducible rfl)
      simp only [Act.put, List.setIfInBounds_toArray, List.set_cons_zero, List.set_cons_succ]
      refine till_take 1 (v := ?_) rfl (by kernel_rfl) (by kernel_rfl) (by kernel_rfl) (by kernel_rfl) (fun _ _ _ h => h) hHeld (Or.inl ⟨by rfl, ?_⟩) ?_
      rotate_left
      · (intro w hSw; (try dsimp only at hSw); go_simp; try with_reducible rfl)
      simp only [Act.put, List.setIfInBounds_toArray, List.set_cons_zero, List.set_cons_succ]
      refine till_take 2 (v := ?_) rfl (by kernel_rfl) (by kernel_rfl) (by kernel_rfl) (by kernel_rfl) (fun _ _ _ h => h) hHeld (Or.inl ⟨by rfl, ?_⟩) ?_
      rotate_left
      · (intro w hSw; (try dsimp only at hSw); go_simp; try with_reducible rfl)
      simp only [Act.put, List.setIfInBounds_toArray, List.set_cons_zero, List.set_cons_succ]
      refine till_ready 3 rfl (by kernel_rfl) (fun K hK => ?_)
      go_simp
      (go_at_call 25; with_reducible refine (HQ.out _).mono ?_; rintro e y1 ⟨rfl, z0⟩)
      have z1 : Below y0.heap.size y0 y1 := chainB BYR.out z0
      refine hK.out _ _ (HYS.out _ z1) (fun hHeld => ?_)
      clear hK K
      try simp only [Act.put, List.setIfInBounds_toArray, List.set_cons_zero, List.set_cons_succ]
      refine till_ready 4 rfl (by kernel_rfl) (fun K hK => ?_)
      go_simp
      refine hK.out _ _ (HYS.out _ (alB z1 _)) (fun hHeld => ?_)
      clear hK K
      try simp only [Act.put, List.setIfInBounds_toArray, List.set_cons_zero, List.set_cons_succ]
      obtain ⟨p', c', y, hrun, c7, f7, T8, B7⟩ := HAP.out y1 z1
      refine till_ready 5 rfl (by kernel_rfl) (fun K hK => ?_)
      refine step_append_run rfl _ _ 23 rfl v (.slice (some ⟨y1.heap.size, 0, none⟩) 1 1) _ _ rfl rfl hrun ?_
      refine hK.out _ _ (B7) (fun hHeld => ?_)
      clear hK K
      try simp only [Act.put, List.setIfInBounds_toArray, List.set_cons_zero, List.set_cons_succ]
      refine till_take 6 (v := ?_) rfl (by kernel_rfl) (by kernel_rfl) (by kernel_rfl) (by kernel_rfl) (fun _ _ _ h => h) hHeld (Or.inl ⟨by rfl, ?_⟩) ?_
      rotate_left
      · (intro w hSw; (try dsimp only at hSw); go_simp; try with_reducible rfl)
      simp only [Act.put, List.setIfInBounds_toArray, List.set_cons_zero, List.set_cons_succ]
      refine till_last rfl (by kernel_rfl) (by kernel_rfl) (fun K hK => ?_)
      go_simp
      refine hK.out _ _ ?_
      clear hK K
      have HA : Hid (CpP w W2.heap.size (w.heap.size + 1) w3.heap.size rs hs (.slice ph hs.length ch) (k + 1) (.slice p' (k + 1) c') (y.setCell ⟨w3.heap.size, 0, none⟩ (.slice p' (k + 1) c'))) := T8
      clear T8 hHeld B7 HAP HYS z1 z0
      go_wp2_with fail
      go_roundw
      case rel => exact ⟨k + 1, _, by omega, by go_num, HA⟩
      case measure => simp [intOf]; omega
    · obtain rfl : k = rs.length := by omega
      obtain ⟨bx, rx, o1, o2, bel, vz, hz, rb, bz, wb⟩ := hcp.out
      rw [List.take_length] at o1
      obtain ⟨pv, cv, rfl, mv⟩ := own_form o1
      have v0 : wr.cell? ⟨w3.heap.size, 0, none⟩ = some (.slice pv rs.length cv) := bx.cell 0
      have v1 : wr.cell? ⟨w3.heap.size, 1, none⟩ = some (.slice ph hs.length ch) := bx.cell 1
      have r0 : wr.cell? ⟨w.heap.size + 1, 0, none⟩ = some (.slice none 0 0) := rx.cell 0
      have r1 : wr.cell? ⟨w.heap.size + 1, 1, none⟩ = some (.slice none 0 0) := rx.cell 1
      have g0 := rx.fr 0
      have g1 := rx.fr 1
      have HE : Hid (PolO w.heap.size rs hs (.slice pv rs.length cv) (.slice ph hs.length ch) ((wr.setCell ⟨w.heap.size + 1, 0, none⟩ (.slice pv rs.length cv)).setCell ⟨w.heap.size + 1, 1, none⟩ (.slice ph hs.length ch)) ∧ Below w.heap.size w ((wr.setCell ⟨w.heap.size + 1, 0, none⟩ (.slice pv rs.length cv)).setCell ⟨w.heap.size + 1, 1, none⟩ (.slice ph hs.length ch))) := by
        have hp : PolO W2.heap.size rs hs (.slice pv rs.length cv) (.slice ph hs.length ch) wr := ⟨o1, o2, by
          cases h : (Value.slice pv rs.length cv).ownBlock with
          | none => exact .inl rfl
          | some j => exact .inr (fun e => by have := vz j h; have := hz j e.symm; omega)⟩
        exact ⟨((hp.set rb 0 _).set rb 1 _).lower wb, (bel.setCell (by show w.heap.size ≤ w.heap.size + 1; omega) _).setCell (by show w.heap.size ≤ w.heap.size + 1; omega) _⟩
      clear hcp bx rx o1 o2 bel vz hz
      go_wp2_with fail
      refine bodyPost_ret (v := .agg #[.slice pv rs.length cv, .slice ph hs.length ch]) (by simp [results, Try.results24, go_sem, r0, r1]) rfl ?_
      exact ⟨_, _, rfl, HE.out⟩
end Go.Proofs.Ytbgpkngnlfafcaa
