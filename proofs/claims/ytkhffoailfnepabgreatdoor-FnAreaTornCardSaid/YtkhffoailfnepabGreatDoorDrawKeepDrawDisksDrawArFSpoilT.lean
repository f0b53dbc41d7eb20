/-
  Parts of one proof, laid as one text: DrawKeep, DrawDisks, DrawArF, SpoilT; what each says stands at its head.
-/
import Derived.Test.YtkhffoailfnepabGreatDoorRows
import Derived.Test.YtkhffoailfnepabGreatDoorBytesDigMath
import Derived.Test.YtkhffoailfnepabGreatDoorSlASlBOwnSOwnBSrc
import Derived.Test.YtkhffoailfnepabGreatDoorDrawsDrawKitDskMath
import Derived.Test.YtkhffoailfnepabGreatDoorImplCrashSomeLawDGDrawDsk
import Derived.Test.YtkhffoailfnepabGreatDoorDskFDskK
import Derived.Test.YtkhffoailfnepabGreatDoorLawDLwDskLwArLawIPutMathPutNum
import Derived.Handy
import Derived.WalkSpells
import Derived.OwnWalk
import Derived.Deep.AppendLies
import Derived.Test.YtkhffoailfnepabGreatDoorDskSDskCDskT
import Derived.Test.YtkhffoailfnepabGreatDoorDrawDskF
import Derived.Test.YtkhffoailfnepabGreatDoorDrawDskG
import Derived.Deep.RegionWith
import Derived.Deep.RegionLaw
import Derived.BigQuiet
import Derived.Deep.RegionHeld3
import Derived.Deep.Cut
import Derived.Deep.CutRange
/-
  What l05Keep draws: at most 13 numbers, in a row of its own.
-/
namespace Go.Proofs.YtkhffoailfnepabGreatDoor
open Go.RowKit Go.Lib
set_option linter.unusedVariables false
set_option maxRecDepth 20000

theorem ownI_form {w : World} {base : Nat} {v : Value} {l : List Int} (h : w.ownsRow base 2 1 v l.length (intRow l)) : ∃ p cap, v = .slice p l.length cap ∧ l.length ≤ cap ∧ IntAt w p l := by
  rcases h.2 with ⟨rfl, h0⟩ | ⟨g, cap, cur, rfl, h2, h3, h4, h5, h6, h7⟩
  · have hl : l = [] := List.length_eq_zero_iff.1 h0
    subst hl
    exact ⟨none, 0, rfl, Nat.le_refl _, IntAt.nil _ _⟩
  · refine ⟨some ⟨g, 0, none⟩, cap, rfl, h4, fun i hi => ⟨g, 0, rfl, lt_of_block h3, ?_⟩⟩
    have h8 : (cur.toList.take (l.length * 1))[i]? = some (.int .i64 l[i]) := by rw [h7]; simp [intRow, hi]
    rw [List.getElem?_take_of_lt (by omega)] at h8
    rw [Nat.zero_add]
    simpa [World.cell?, h3] using h8
set_option maxHeartbeats 4000000 in
theorem keep_any (B p : Nat) (a : Option Addr) (len cap : Nat) (w : World) (hs : Src 81 B p a len cap w) :
    Calls Tryz.prog 45 #[.pointer (some ⟨p, 0, none⟩)] w fun e w' =>
      (∃ (v : Value) (L : List Int), e = .returned v ∧ w'.ownsRow w.heap.size 2 1 v L.length (intRow L) ∧ L.length ≤ 13) ∧ Src 81 B p a len cap w' ∧ w.grownBy w' (some p) := by
  have hp := hs.lt
  obtain ⟨i0, hi, hy0, hy1, hy2⟩ := info_parts infoI64k
  have HS : Hid (Src 81 B p a len cap (w.alloc (.cells #[] 2))) := hs.below ((Below.refl _ _).alloc (Nat.le_refl _) _)
  clear hs
  go_enter Tryz.func45, Tryz.ntmps45
  go_wp2_with fail
  refine (n_any B p a len cap 14 _ HS.out (by omega)).mono ?_
  rintro e w1 ⟨⟨r, rfl, hr0, hr1, hr2⟩, hs1, hg1⟩
  have hr : r ≤ 13 := by
    have := hr1 (by omega)
    omega
  have HS1 : Hid (Src 81 B p a len cap w1) := hs1
  have hg0 := hg1
  have hg1 := touch_trans (World.grownBy_alloc w (.cells #[] 2) (some p)) hg1
  have hsz1 := hg1.size
  have ho0 : (w.alloc (.cells #[] 2)).ownsRow w.heap.size 2 1 (.slice (some ⟨w.heap.size, 0, none⟩) 0 0) ([] : List Int).length (intRow []) := World.ownsRow_made w #[] 0 (Nat.le_refl _) (by unfold maxLen; omega) rfl
  have ho1 : w1.ownsRow w.heap.size 2 1 (.slice (some ⟨w.heap.size, 0, none⟩) 0 0) ([] : List Int).length (intRow []) := ho0.kept hg0 (.inr (by show some w.heap.size ≠ some p; simp; omega))
  obtain ⟨k1, rfl⟩ := Int.eq_ofNat_of_zero_le hr0
  clear hs1 HS hr1 hr2 hg0 ho0
  go_wp2_with fail
  go_loopw [3, 4] (fun v i wr => ∃ (k : Nat) (L : List Int) (v0 : Value), v0 = v ∧ i = .int .i64 k ∧ L.length + k ≤ 13 ∧ Hid (wr.ownsRow w.heap.size 2 1 v L.length (intRow L)) ∧ Hid (Src 81 B p a len cap wr) ∧ Hid (w.grownBy wr (some p))) (fun _ i _ => (intOf i).toNat)
  case atStart => exact ⟨k1, [], _, rfl, rfl, by simp; omega, ho1, HS1, hg1⟩
  case round =>
    clear ho1 HS1 hg1 hsz1
    obtain ⟨k, L, v, rfl, rfl, hk, HO, HS, HG⟩ := hrel
    have hsz := HG.out.size
    obtain ⟨q, cq, rfl, hcq, _⟩ := ownI_form HO.out
    by_cases hlt : 0 < (k : Int)
    · go_wp2_with fail
      refine (n_any B p a len cap 2 _ HS.out (by omega)).mono ?_
      rintro e w4 ⟨⟨r, rfl, r0, r1, _⟩, hs4, hg4⟩
      have hgw := touch_trans HG.out hg4
      have HO4 := HO.out.kept hg4 (.inr (fun e => by have := (HO.out.lt p e).1; omega))
      have hsz4 := hgw.size
      have HGW : Hid (w.grownBy w4 (some p)) := hgw
      have HS4 : Hid (Src 81 B p a len cap w4) := hs4
      clear hs4 hg4 hgw r0 r1
      go_wp2_with (at_builtin; refine wpList_append_lies _ rfl _ _ 37 rfl w.heap.size 2 i0 (.int .i64 0) 1 8 Tryz.underlying37 hi hy0 hy1 hy2 rfl (by omega) _ L.length (intRow L) rfl (HO4.alloc _) ⟨w4.heap.size, 0, none⟩ 1 1 [.int .i64 r] rfl rfl (World.news_of_block (cs := #[.int .i64 r]) (t := 2) (fr := (0, 0)) (MapKept.heap_alloc w4 _).1) (by simp [Value.oneCell']) (by omega) (by unfold maxLen; omega) (by omega) (by simp; omega) (w4.heap.size + 1) (by simp) ?_; intro g2 cap2 w5 hown2 hgrow hat hltg)
      obtain ⟨hs5, hg6⟩ := app_leaves HO4 HS4.out hp HGW.out hgrow
      have e1 : (L ++ [r]).length = L.length + 1 := by simp
      have e2 : intRow (L ++ [r]) = intRow L ++ [.int .i64 r] := by simp [intRow]
      go_roundw
      case rel => exact ⟨k - 1, L ++ [r], _, rfl, by go_num, by simp; omega, by show World.ownsRow _ _ _ _ _ _ _; rw [e1, e2]; exact hown2, hs5, hg6⟩
      case measure => simp [intOf]; omega
    · go_wp2_with fail
      go_ret
      exact ⟨⟨_, rfl, L, HO.out, by omega⟩, HS.out, HG.out⟩
end Go.Proofs.YtkhffoailfnepabGreatDoor
/-
  What DrawDiskCrash, DrawDiskRead, DrawDiskNew draw.
-/
namespace Go.Proofs.YtkhffoailfnepabGreatDoor
open Go.RowKit Go.Lib
set_option linter.unusedVariables false
set_option maxRecDepth 20000

/-- A drawn disk's bounds. -/
structure SmallD (ss : List ByteArray) (ps : List Pnd) : Prop where
  l1 : ss.length ≤ 64
  l2 : ps.length ≤ 300
  l3 : ∀ x ∈ ss, x.size ≤ 100
  l4 : ∀ q ∈ ps, q.2.size ≤ 100
theorem DrS.boxed {w1 w2 : World} {B p : Nat} {a : Option Addr} {len cap : Nat} {v1 v2 : Value} {ss : List ByteArray} {ps : List Pnd} (hs : Src 81 B p a len cap w2) (hg : w1.grownBy w2 (some p)) (hp : p < w1.heap.size) (ho : DskO w1.heap.size ss ps v1 v2 w2) :
    DrS w1 B p a len cap w2.heap.size v1 v2 ss ps (w2.alloc (.cells #[v1, v2] 26)) := by
  have hb := (Below.refl w2.heap.size w2).alloc (Nat.le_refl _) (.cells #[v1, v2] 26)
  exact ⟨hs.below hb, touch_trans hg (grownBy_none_of_below hb _), hp, hg.size, Bxs.new _ _ _, ho.below hb, own_off ho.own1 (.inr (Nat.le_refl _)), own_off ho.own2 (.inr (Nat.le_refl _))⟩

def DrawnC (w : World) (e : Ending) (w' : World) : Prop :=
  (∃ (q1 : Option Addr) (c1 : Nat) (q2 : Option Addr) (c2 : Nat) (q3 : Option Addr) (c3 : Nat) (ss : List ByteArray) (ps : List Pnd) (L : List Int), e = .returned (.tuple #[.agg #[.slice q1 ss.length c1, .slice q2 ps.length c2], .slice q3 L.length c3]) ∧ TxtAt w' q1 ss ∧ PndAt w' q2 ps ∧ IntAt w' q3 L ∧ ss.length ≤ c1 ∧ ps.length ≤ c2 ∧ L.length ≤ c3 ∧ L.length ≤ 13 ∧ SmallD ss ps) ∧ Below w.heap.size w w'
def DrawnR (w : World) (e : Ending) (w' : World) : Prop :=
  (∃ (q1 : Option Addr) (c1 : Nat) (q2 : Option Addr) (c2 : Nat) (ss : List ByteArray) (ps : List Pnd) (k : Int), e = .returned (.tuple #[.agg #[.slice q1 ss.length c1, .slice q2 ps.length c2], .int .i64 k]) ∧ TxtAt w' q1 ss ∧ PndAt w' q2 ps ∧ ss.length ≤ c1 ∧ ps.length ≤ c2 ∧ SmallD ss ps) ∧ Below w.heap.size w w'
def DrawnN (w : World) (e : Ending) (w' : World) : Prop := (∃ k : Int, e = .returned (.int .i64 k)) ∧ Below w.heap.size w w'

set_option maxHeartbeats 4000000 in
theorem drawCrash_any (B : Nat) (a : Option Addr) (len cap : Nat) (w : World) (hlen : len ≤ 1048576) (hB : B ≤ w.heap.size) (hc : CodeAt B a len w) :
    Calls Tryz.prog 17 #[.slice a len cap] w (DrawnC w) := by
  obtain ⟨W1, hW1⟩ : ∃ W1, W1 = w.alloc (.cells #[.slice none 0 0, .slice none 0 0] 26) := ⟨_, rfl⟩
  have HW1 : Hid (W1 = w.alloc (.cells #[.slice none 0 0, .slice none 0 0] 26)) := hW1
  have B1 : Hid (Below w.heap.size w W1) := by rw [hW1]; exact (Below.refl _ _).alloc (Nat.le_refl _) _
  have R1 : Hid (Bxs W1 w.heap.size 26 #[.slice none 0 0, .slice none 0 0]) := by rw [hW1]; exact Bxs.new _ _ _
  have z1 : W1.heap.size = w.heap.size + 1 := by rw [hW1]; simp
  have HZ1 : Hid (W1.heap.size = w.heap.size + 1) := z1
  have HC : Hid (CodeAt B a len W1) := hc.below (B1.out.mono hB)
  have hB1 : B ≤ W1.heap.size := by omega
  clear hW1 hc z1
  go_enter Tryz.func17, Tryz.ntmps17
  go_wp2_with fail
  rw [← HW1.out]
  refine (source_any B a len cap W1 hlen hB1 HC.out).mono ?_
  rintro e w1 ⟨rfl, hs1, hb1⟩
  have HB1 : Hid (Below W1.heap.size W1 w1) := hb1
  have H1 : Hid (Src 81 B W1.heap.size a len cap w1) := hs1
  clear hs1 hb1
  go_wp2_with fail
  refine (l05Disk_any B W1.heap.size a len cap w1 H1.out).mono ?_
  rintro e w2 ⟨⟨v1, v2, ss, ps, rfl, ho, l1, l2, l3, l4⟩, hs2, hg2⟩
  obtain ⟨q1, c1, rfl, m1, -⟩ := ownS_form ho.own1
  obtain ⟨q2, c2, rfl, m2, -⟩ := ownP_form ho.own2
  have HSm : Hid (SmallD ss ps) := ⟨l1, l2, l3, l4⟩
  have hpw := H1.out.lt
  have HD : Hid (DrS w1 B W1.heap.size a len cap w2.heap.size (.slice q1 ss.length c1) (.slice q2 ps.length c2) ss ps (w2.alloc (.cells #[.slice q1 ss.length c1, .slice q2 ps.length c2] 26))) := DrS.boxed hs2 hg2 hpw ho
  obtain ⟨X, hX⟩ : ∃ X, X = w2.heap.size := ⟨_, rfl⟩
  obtain ⟨W3, hW3⟩ : ∃ W3, W3 = w2.alloc (.cells #[.slice q1 ss.length c1, .slice q2 ps.length c2] 26) := ⟨_, rfl⟩
  have HW3 : Hid (W3 = w2.alloc (.cells #[.slice q1 ss.length c1, .slice q2 ps.length c2] 26)) := hW3
  rw [← hW3, ← hX] at HD
  have HXe : Hid (X = w2.heap.size) := hX
  have HRes : Hid (∀ x, w1.grownBy x (some W1.heap.size) → x.cell? ⟨w.heap.size, 0, none⟩ = some (.slice none 0 0) ∧ x.cell? ⟨w.heap.size, 1, none⟩ = some (.slice none 0 0) ∧ x.frozen? ⟨w.heap.size, 0, none⟩ = false ∧ x.frozen? ⟨w.heap.size, 1, none⟩ = false) := fun x hg => by
    have hz := HZ1.out
    have k : Bxs x w.heap.size 26 #[.slice none 0 0, .slice none 0 0] := (hg.block w.heap.size (by have := HB1.out.size; omega) (fun e => by simp at e; omega)).trans ((HB1.out.block w.heap.size (by omega)).trans R1.out)
    exact ⟨k.cell 0, k.cell 1, k.fr 0, k.fr 1⟩
  have HEnd : Hid (∀ (x : World) (vk : Value) (L : List Int) (y0 y1 : Value), DrS w1 B W1.heap.size a len cap X (.slice q1 ss.length c1) (.slice q2 ps.length c2) ss ps x → x.ownsRow w1.heap.size 2 1 vk L.length (intRow L) → L.length ≤ 13 → DrawnC w (.returned (.tuple #[.agg #[.slice q1 ss.length c1, .slice q2 ps.length c2], vk])) ((x.setCell ⟨w.heap.size, 0, none⟩ y0).setCell ⟨w.heap.size, 1, none⟩ y1)) := by
    intro x vk L y0 y1 h hk hL
    have hz := HZ1.out
    have hz1 := HB1.out.size
    obtain ⟨q3, c3, rfl, m3, -⟩ := ownI_form hk
    have o1 := (h.dsk.set2 (g := w.heap.size) (by omega) y0 y1)
    have o3 : ((x.setCell ⟨w.heap.size, 0, none⟩ y0).setCell ⟨w.heap.size, 1, none⟩ y1).ownsRow w1.heap.size 2 1 (.slice q3 L.length c3) L.length (intRow L) := ownsRow_setCell_below (ownsRow_setCell_below hk (by show w.heap.size < _; omega) _) (by show w.heap.size < _; omega) _
    obtain ⟨_, _, e1, -, t1⟩ := ownS_form o1.own1
    obtain ⟨_, _, e2, -, t2⟩ := ownP_form o1.own2
    obtain ⟨_, _, e3, -, t3⟩ := ownI_form o3
    cases e1; cases e2; cases e3
    refine ⟨⟨q1, c1, q2, c2, q3, c3, ss, ps, L, rfl, t1, t2, t3, m1, m2, m3, hL, HSm.out⟩, ?_⟩
    have b := below_touch (chainB B1.out HB1.out) h.gr (by omega)
    exact (b.setCell (Nat.le_refl _) _).setCell (Nat.le_refl _) _
  have QK : Hid (∀ x, DrS w1 B W1.heap.size a len cap X (.slice q1 ss.length c1) (.slice q2 ps.length c2) ss ps x → Calls Tryz.prog 45 #[.pointer (some ⟨W1.heap.size, 0, none⟩)] x fun e x1 => ∃ (q3 : Option Addr) (c3 : Nat) (L : List Int), e = .returned (.slice q3 L.length c3) ∧ x1.ownsRow w1.heap.size 2 1 (.slice q3 L.length c3) L.length (intRow L) ∧ L.length ≤ 13 ∧ DrS w1 B W1.heap.size a len cap X (.slice q1 ss.length c1) (.slice q2 ps.length c2) ss ps x1) := fun x h => (keep_any B W1.heap.size a len cap x h.src).mono (by
    rintro e x1 ⟨⟨v, L, rfl, hk, hL⟩, s1, g1⟩
    obtain ⟨q3, c3, rfl, -, -⟩ := ownI_form hk
    exact ⟨q3, c3, L, rfl, ownS_mono hk h.gr.size, hL, h.step s1 g1⟩)
  obtain ⟨k0, k1, -, -⟩ := HD.out.cells
  obtain ⟨r0, r1, f0, f1⟩ := HRes.out _ HD.out.gr
  rw [hW3, hX] at k0 k1
  rw [hW3] at r0 r1 f0 f1
  clear hW3 hX ho hs2 hg2 hpw l1 l2 l3 l4
  go_wp2_with fail
  rw [← HXe.out] at k0 k1 ⊢
  rw [← HW3.out] at k0 k1 r0 r1 f0 f1 ⊢
  go_region_with (first
    | (go_at_call 45; refine (QK.out _ (by first | exact HD.out | exact HD.out.drew)).mono ?_; rintro e x1 ⟨q3, c3, L, rfl, hk, hL, t1⟩; obtain ⟨k2, k3, -, -⟩ := t1.cells; obtain ⟨u0, u1, g0, g1⟩ := HRes.out _ t1.gr))
  all_goals
    have HE : Hid _ := fun y0 y1 => HEnd.out x1 _ L y0 y1 t1 hk hL
    clear HEnd HRes QK t1 hk
    go_wp2_with fail
    refine bodyPost_ret (v := .tuple #[.agg #[.slice q1 ss.length c1, .slice q2 ps.length c2], .slice q3 L.length c3]) (by simp [results, Tryz.results17, go_sem, u0, u1]) rfl ?_
    exact HE.out _ _
def DrawnW (w : World) (e : Ending) (w' : World) : Prop :=
  (∃ (q1 : Option Addr) (c1 : Nat) (q2 : Option Addr) (c2 : Nat) (ss : List ByteArray) (ps : List Pnd) (k : Int) (t : ByteArray), e = .returned (.tuple #[.agg #[.slice q1 ss.length c1, .slice q2 ps.length c2], .int .i64 k, .string t]) ∧ TxtAt w' q1 ss ∧ PndAt w' q2 ps ∧ ss.length ≤ c1 ∧ ps.length ≤ c2 ∧ t.size ≤ 100 ∧ SmallD ss ps) ∧ Below w.heap.size w w'
theorem setSz (w : World) (a : Addr) (v : Value) : (w.setCell a v).heap.size = w.heap.size := by simp [World.setCell]
theorem zconvS2 (n : Nat) (w : World) (g : Nat) (hg : g ≠ w.heap.size) (x y : Value) :
    (convert 22 9 (.slice (some ⟨w.heap.size, 0, none⟩) n n)).run Tryz.prog (((w.alloc (.cells (zrow n).toArray 5)).setCell ⟨g, 0, none⟩ x).setCell ⟨g, 1, none⟩ y) = .ok (.string (strOfNums (List.replicate n 0))) (((w.alloc (.cells (zrow n).toArray 5)).setCell ⟨g, 0, none⟩ x).setCell ⟨g, 1, none⟩ y) :=
  run_convert_bytes_arg (P := Tryz.prog) _ 22 5 Tryz.underlying22 Tryz.underlying5 w.heap.size 0 n n (List.replicate n 0) (by simp) (fun i hi => by
    rw [World.cell?_setCell_other _ _ _ _ (by intro e; have h := congrArg Addr.block e; exact hg (by first | exact h | exact h.symm)), World.cell?_setCell_other _ _ _ _ (by intro e; have h := congrArg Addr.block e; exact hg (by first | exact h | exact h.symm)), World.cell?_alloc_mark]; simp [zrow, hi]) 9 Tryz.underlying9
end Go.Proofs.YtkhffoailfnepabGreatDoor
/-
  What l06Disk draws, its parts: the disk beside the source, and the box of what AreaPut answers.
-/
namespace Go.Proofs.YtkhffoailfnepabGreatDoor
open Go.RowKit Go.Lib
set_option linter.unusedVariables false

section
variable {w0 x x' : World} {B p : Nat} {a : Option Addr} {len cap X : Nat} {v1 v2 : Value} {ss : List ByteArray} {ps : List Pnd} {Yo : Option Nat}
/-- A disk beside the source, and, if it was made, the box of what a step will answer. -/
structure DrA (w0 : World) (B p : Nat) (a : Option Addr) (len cap X : Nat) (v1 v2 : Value) (ss : List ByteArray) (ps : List Pnd) (Yo : Option Nat) (x : World) : Prop where
  dr : DrS w0 B p a len cap X v1 v2 ss ps x
  y : ∀ Y, Yo = some Y → Bxs x Y 31 #[.slice none 0 0, .slice none 0 0, .string ⟨#[]⟩, .int .i64 0, .int .i64 0] ∧ w0.heap.size ≤ Y ∧ Y ≠ X ∧ some Y ≠ v1.ownBlock ∧ some Y ≠ v2.ownBlock
theorem DrA.of (h : DrS w0 B p a len cap X v1 v2 ss ps x) : DrA w0 B p a len cap X v1 v2 ss ps none x := ⟨h, fun Y e => by cases e⟩
theorem DrA.below (h : DrA w0 B p a len cap X v1 v2 ss ps Yo x) (hb : Below x.heap.size x x') : DrA w0 B p a len cap X v1 v2 ss ps Yo x' := ⟨h.dr.below hb, fun Y e => ⟨(h.y Y e).1.below hb, (h.y Y e).2⟩⟩
theorem DrA.drew (h : DrA w0 B p a len cap X v1 v2 ss ps Yo x) : DrA w0 B p a len cap X v1 v2 ss ps Yo x.drew := h.below (Below.refl _ _).drew
theorem DrA.step (h : DrA w0 B p a len cap X v1 v2 ss ps Yo x) (hs : Src 81 B p a len cap x') (hg : x.grownBy x' (some p)) : DrA w0 B p a len cap X v1 v2 ss ps Yo x' :=
  ⟨h.dr.step hs hg, fun Y e => by
    obtain ⟨h1, h2, h3⟩ := h.y Y e
    have hp := h.dr.hp
    exact ⟨(hg.block Y h1.lt (fun e => by cases e; omega)).trans h1, h2, h3⟩⟩
theorem DrA.al (h : DrA w0 B p a len cap X v1 v2 ss ps none x) : DrA w0 B p a len cap X v1 v2 ss ps (some x.heap.size) (x.alloc (.cells #[.slice none 0 0, .slice none 0 0, .string ⟨#[]⟩, .int .i64 0, .int .i64 0] 31)) :=
  ⟨h.dr.al _, fun Y e => by
    cases e
    have := h.dr.box.lt
    exact ⟨Bxs.new _ _ _, h.dr.gr.size, by omega, own_off h.dr.dsk.own1 (.inr (Nat.le_refl _)), own_off h.dr.dsk.own2 (.inr (Nat.le_refl _))⟩⟩
theorem DrA.alA (h : DrA w0 B p a len cap X v1 v2 ss ps Yo x) (o : Obj) : DrA w0 B p a len cap X v1 v2 ss ps Yo (x.alloc o) := h.below ((Below.refl _ _).alloc (Nat.le_refl _) o)
theorem grown_set5 (x : World) (Y : Nat) (u0 u1 u2 u3 u4 : Value) : x.grownBy (((((x.setCell ⟨Y, 0, none⟩ u0).setCell ⟨Y, 1, none⟩ u1).setCell ⟨Y, 2, none⟩ u2).setCell ⟨Y, 3, none⟩ u3).setCell ⟨Y, 4, none⟩ u4) (some Y) :=
  touch_set (grown_set4 x Y u0 u1 u2 u3) 4 u4
/-- The disk stays what it is while the box at Y is written. -/
theorem DrS.set5 (h : DrS w0 B p a len cap X v1 v2 ss ps x) {Y : Nat} (hY : w0.heap.size ≤ Y) (ne : Y ≠ X) (n1 : some Y ≠ v1.ownBlock) (n2 : some Y ≠ v2.ownBlock) (u0 u1 u2 u3 u4 : Value) : DrS w0 B p a len cap X v1 v2 ss ps (((((x.setCell ⟨Y, 0, none⟩ u0).setCell ⟨Y, 1, none⟩ u1).setCell ⟨Y, 2, none⟩ u2).setCell ⟨Y, 3, none⟩ u3).setCell ⟨Y, 4, none⟩ u4) := by
  have g := grown_set5 x Y u0 u1 u2 u3 u4
  have hp := h.hp
  exact ⟨h.src.other g (fun j hj => by cases hj; omega), touch_own h.gr g (fun j hj => by cases hj; exact hY), hp, h.hX, (g.block X h.box.lt (fun e => by cases e; exact ne rfl)).trans h.box, ⟨h.dsk.own1.kept g (.inr (fun e => n1 e.symm)), h.dsk.own2.kept g (.inr (fun e => n2 e.symm)), h.dsk.ne⟩, h.n1, h.n2⟩
theorem DrA.set5 {Y : Nat} (h : DrA w0 B p a len cap X v1 v2 ss ps (some Y) x) (u0 u1 u2 u3 u4 : Value) : DrS w0 B p a len cap X v1 v2 ss ps (((((x.setCell ⟨Y, 0, none⟩ u0).setCell ⟨Y, 1, none⟩ u1).setCell ⟨Y, 2, none⟩ u2).setCell ⟨Y, 3, none⟩ u3).setCell ⟨Y, 4, none⟩ u4) := by
  obtain ⟨_, h2, h3, h4, h5⟩ := h.y Y rfl
  exact h.dr.set5 h2 h3 h4 h5 u0 u1 u2 u3 u4
theorem DrA.cells5 {Y : Nat} (h : DrA w0 B p a len cap X v1 v2 ss ps (some Y) x) (u0 u1 u2 u3 u4 : Value) : (((((x.setCell ⟨Y, 0, none⟩ u0).setCell ⟨Y, 1, none⟩ u1).setCell ⟨Y, 2, none⟩ u2).setCell ⟨Y, 3, none⟩ u3).setCell ⟨Y, 4, none⟩ u4).cell? ⟨X, 0, none⟩ = some v1 ∧ (((((x.setCell ⟨Y, 0, none⟩ u0).setCell ⟨Y, 1, none⟩ u1).setCell ⟨Y, 2, none⟩ u2).setCell ⟨Y, 3, none⟩ u3).setCell ⟨Y, 4, none⟩ u4).cell? ⟨X, 1, none⟩ = some v2 := ⟨(h.set5 u0 u1 u2 u3 u4).cells.1, (h.set5 u0 u1 u2 u3 u4).cells.2.1⟩
theorem DrA.cells (h : DrA w0 B p a len cap X v1 v2 ss ps Yo x) : x.cell? ⟨X, 0, none⟩ = some v1 ∧ x.cell? ⟨X, 1, none⟩ = some v2 := ⟨h.dr.cells.1, h.dr.cells.2.1⟩
theorem DrA.outs {Y : Nat} (h : DrA w0 B p a len cap X v1 v2 ss ps (some Y) x) : x.cell? ⟨Y, 0, none⟩ = some (.slice none 0 0) ∧ x.cell? ⟨Y, 1, none⟩ = some (.slice none 0 0) ∧ x.cell? ⟨Y, 2, none⟩ = some (.string ⟨#[]⟩) ∧ x.cell? ⟨Y, 3, none⟩ = some (.int .i64 0) ∧ x.cell? ⟨Y, 4, none⟩ = some (.int .i64 0) ∧ x.frozen? ⟨Y, 0, none⟩ = false ∧ x.frozen? ⟨Y, 1, none⟩ = false ∧ x.frozen? ⟨Y, 2, none⟩ = false ∧ x.frozen? ⟨Y, 3, none⟩ = false ∧ x.frozen? ⟨Y, 4, none⟩ = false := by
  obtain ⟨k, -⟩ := h.y Y rfl
  exact ⟨k.cell 0, k.cell 1, k.cell 2, k.cell 3, k.cell 4, k.fr 0, k.fr 1, k.fr 2, k.fr 3, k.fr 4⟩

/-- .. and in its box at Y. -/
structure OuA (w0 : World) (X Y : Nat) (x : World) : Prop where
  ex : ∃ u1 u2 c, Bxs x Y 31 #[u1, u2, .string ⟨#[]⟩, .int .i64 0, .int .i64 c] ∧ OutP w0 X (some Y) u1 u2 c x
  hY : w0.heap.size ≤ Y
  ne : Y ≠ X
/-- The box was not made yet: it is made with what is answered. -/
theorem OuA.new {u1 u2 : Value} {c : Int} (h : DrA w0 B p a len cap X v1 v2 ss ps none x) (ho : OutP w0 X none u1 u2 c x) : OuA w0 X x.heap.size (x.alloc (.cells #[u1, u2, .string ⟨#[]⟩, .int .i64 0, .int .i64 c] 31)) := by
  have hb := (Below.refl x.heap.size x).alloc (Nat.le_refl _) (.cells #[u1, u2, .string ⟨#[]⟩, .int .i64 0, .int .i64 c] 31)
  have hX := h.dr.box.lt
  have h1 := ho.below hb
  obtain ⟨ss', ps', q1, q2⟩ := ho.ex
  exact ⟨⟨u1, u2, c, Bxs.new _ _ _, ⟨h1.ex, h1.n1, h1.n2, fun Y e => by cases e; exact own_off q1.own1 (.inr (Nat.le_refl _)), fun Y e => by cases e; exact own_off q1.own2 (.inr (Nat.le_refl _))⟩⟩, h.dr.gr.size, by omega⟩
theorem OuA.put {Y : Nat} {u1 u2 : Value} {c : Int} {cs : Array Value} (k : Bxs x Y 31 #[cs[0]!, cs[1]!, cs[2]!, cs[3]!, cs[4]!]) (hY : w0.heap.size ≤ Y) (ne : Y ≠ X) (ho : OutP w0 X (some Y) u1 u2 c x) : OuA w0 X Y (((((x.setCell ⟨Y, 0, none⟩ u1).setCell ⟨Y, 1, none⟩ u2).setCell ⟨Y, 2, none⟩ (.string ⟨#[]⟩)).setCell ⟨Y, 3, none⟩ (.int .i64 0)).setCell ⟨Y, 4, none⟩ (.int .i64 c)) := by
  have k4 := ((((k.set 0 u1).set 1 u2).set 2 (.string ⟨#[]⟩)).set 3 (.int .i64 0)).set 4 (.int .i64 c)
  exact ⟨⟨u1, u2, c, k4, ho.keep (grown_set5 x Y _ _ _ _ _) (.inr (ho.m1 Y rfl)) (.inr (ho.m2 Y rfl))⟩, hY, ne⟩
theorem OuA.ofT {Y : Nat} {u1 u2 : Value} {c : Int} (h : DrA w0 B p a len cap X v1 v2 ss ps (some Y) x) (ho : OutP w0 X (some Y) u1 u2 c x) : OuA w0 X Y (((((x.setCell ⟨Y, 0, none⟩ u1).setCell ⟨Y, 1, none⟩ u2).setCell ⟨Y, 2, none⟩ (.string ⟨#[]⟩)).setCell ⟨Y, 3, none⟩ (.int .i64 0)).setCell ⟨Y, 4, none⟩ (.int .i64 c)) := by
  obtain ⟨k, h2, h3, h4, h5⟩ := h.y Y rfl
  exact OuA.put (cs := #[.slice none 0 0, .slice none 0 0, .string ⟨#[]⟩, .int .i64 0, .int .i64 0]) k h2 h3 ho
theorem OuA.touch {Y : Nat} (h : OuA w0 X Y x) (hg : x.grownBy x' (some p)) (hp : p < w0.heap.size) : OuA w0 X Y x' := by
  obtain ⟨u1, u2, c, k, o⟩ := h.ex
  have hY := h.hY
  obtain ⟨ss', ps', q1, q2⟩ := o.ex
  exact ⟨⟨u1, u2, c, (hg.block Y k.lt (fun e => by cases e; omega)).trans k, o.keep hg (.inr (own_off q1.own1 (.inl hp))) (.inr (own_off q1.own2 (.inl hp)))⟩, hY, h.ne⟩
theorem OuA.below {Y : Nat} (h : OuA w0 X Y x) (hb : Below x.heap.size x x') : OuA w0 X Y x' := by
  obtain ⟨u1, u2, c, k, o⟩ := h.ex
  exact ⟨⟨u1, u2, c, k.below hb, o.below hb⟩, h.hY, h.ne⟩
theorem DrA.nY {Y : Nat} (h : DrA w0 B p a len cap X v1 v2 ss ps (some Y) x) : some Y ≠ v1.ownBlock ∧ some Y ≠ v2.ownBlock := (h.y Y rfl).2.2.2
theorem DrA.nN (h : DrA w0 B p a len cap X v1 v2 ss ps none x) : some x.heap.size ≠ v1.ownBlock ∧ some x.heap.size ≠ v2.ownBlock := ⟨own_off h.dr.dsk.own1 (.inr (Nat.le_refl _)), own_off h.dr.dsk.own2 (.inr (Nat.le_refl _))⟩
/-- A disk beside the source, and the box with what AreaPut answered. -/
structure DrO (w0 : World) (B p : Nat) (a : Option Addr) (len cap X Y : Nat) (v1 v2 : Value) (ss : List ByteArray) (ps : List Pnd) (x : World) : Prop where
  dr : DrS w0 B p a len cap X v1 v2 ss ps x
  ou : OuA w0 X Y x
theorem DrO.below {Y : Nat} (h : DrO w0 B p a len cap X Y v1 v2 ss ps x) (hb : Below x.heap.size x x') : DrO w0 B p a len cap X Y v1 v2 ss ps x' := ⟨h.dr.below hb, h.ou.below hb⟩
theorem DrO.drew {Y : Nat} (h : DrO w0 B p a len cap X Y v1 v2 ss ps x) : DrO w0 B p a len cap X Y v1 v2 ss ps x.drew := h.below (Below.refl _ _).drew
theorem DrO.step {Y : Nat} (h : DrO w0 B p a len cap X Y v1 v2 ss ps x) (hs : Src 81 B p a len cap x') (hg : x.grownBy x' (some p)) (hp : p < w0.heap.size) : DrO w0 B p a len cap X Y v1 v2 ss ps x' := ⟨h.dr.step hs hg, h.ou.touch hg hp⟩
theorem DrO.ltY {Y : Nat} (h : DrO w0 B p a len cap X Y v1 v2 ss ps x) : Y < x.heap.size := by
  obtain ⟨_, _, _, k, -⟩ := h.ou.ex
  exact k.lt
theorem DrO.outs {Y : Nat} (h : DrO w0 B p a len cap X Y v1 v2 ss ps x) : ∃ (u1 u2 : Value) (c : Int), x.cell? ⟨Y, 0, none⟩ = some u1 ∧ x.cell? ⟨Y, 1, none⟩ = some u2 ∧ x.cell? ⟨Y, 2, none⟩ = some (.string ⟨#[]⟩) ∧ x.cell? ⟨Y, 3, none⟩ = some (.int .i64 0) ∧ x.cell? ⟨Y, 4, none⟩ = some (.int .i64 c) ∧ x.frozen? ⟨Y, 0, none⟩ = false ∧ x.frozen? ⟨Y, 1, none⟩ = false ∧ x.frozen? ⟨Y, 2, none⟩ = false ∧ x.frozen? ⟨Y, 3, none⟩ = false ∧ x.frozen? ⟨Y, 4, none⟩ = false := by
  obtain ⟨u1, u2, c, k, -⟩ := h.ou.ex
  exact ⟨u1, u2, c, k.cell 0, k.cell 1, k.cell 2, k.cell 3, k.cell 4, k.fr 0, k.fr 1, k.fr 2, k.fr 3, k.fr 4⟩
end
end Go.Proofs.YtkhffoailfnepabGreatDoor
/-
  What spoil draws of a text: some text that is at most one byte longer.
-/
namespace Go.Proofs.YtkhffoailfnepabGreatDoor
open Go.RowKit Go.Lib
set_option linter.unusedVariables false
set_option maxRecDepth 20000

theorem conv_one (n : Int) (w : World) : (convert 22 9 (.slice (some ⟨w.heap.size, 0, none⟩) 1 1)).run Tryz.prog (w.alloc (.cells #[.int .u8 n] 5)) = .ok (.string (strOfNums [n])) (w.alloc (.cells #[.int .u8 n] 5)) :=
  own_convD (base := w.heap.size) (xs := [n]) ⟨by simp, .inr ⟨w.heap.size, 1, #[.int .u8 n], rfl, Nat.le_refl _, heap_alloc_new w _, Nat.le_refl _, by unfold maxLen; omega, rfl, by simp⟩⟩ rfl
theorem size_app3 (a b c : ByteArray) : (a ++ b ++ c).size = a.size + b.size + c.size := by simp [ByteArray.size_append]
theorem belowDN {B : Nat} {a w : World} (h : Below B a w) (n : Nat) : Below B a (w.drewN n) := ⟨h.os, h.tape, h.output, h.size, h.block⟩
def SpoiltT (B p : Nat) (a : Option Addr) (len cap : Nat) (t : ByteArray) (w : World) (e : Ending) (w' : World) : Prop :=
  (∃ u : ByteArray, e = .returned (.string u) ∧ u.size ≤ t.size + 1) ∧ Src 81 B p a len cap w' ∧ w.grownBy w' (some p)
set_option maxHeartbeats 4000000 in
theorem spoilT_any (B p : Nat) (a : Option Addr) (len cap : Nat) (t : ByteArray) (w : World) (hs : Src 81 B p a len cap w) (ht : t.size ≤ 1000) :
    Calls Tryz.prog 51 #[.pointer (some ⟨p, 0, none⟩), .string t] w (SpoiltT B p a len cap t w) := by
  go_enter Tryz.func51, Tryz.ntmps51
  go_wp2_with fail
  refine (n_any B p a len cap ((t.size : Int) + 1) w hs (by omega)).mono ?_
  rintro e w2 ⟨⟨r, rfl, hr0, hr1, hr2⟩, hs2, G2⟩
  obtain ⟨K, rfl⟩ := Int.eq_ofNat_of_zero_le hr0
  have hK : K ≤ t.size := by
    rcases Nat.eq_zero_or_pos t.size with h | h
    · have := hr2 (by omega); omega
    · have := hr1 (by omega); omega
  clear hr0 hr1 hr2 hs
  go_wp2_with fail
  refine (n_any B p a len cap 17 w2 hs2 (by omega)).mono ?_
  rintro e w3 ⟨⟨r, rfl, hr0, hr1, -⟩, hs3, G3⟩
  obtain ⟨R, rfl⟩ := Int.eq_ofNat_of_zero_le hr0
  have hR : R < 17 := by have := hr1 (by omega); omega
  have G3' : Hid (w.grownBy w3 (some p)) := touch_trans G2 G3
  have H3 : Hid (Src 81 B p a len cap w3) := hs3
  clear hr0 hr1 hs2 hs3 G2 G3
  have hcv := fun n => conv_one n w3
  obtain ⟨W4, hW4⟩ : ∃ W4, W4 = fun n : Int => w3.alloc (.cells #[.int .u8 n] 5) := ⟨_, rfl⟩
  have HB : Hid (∀ n, Src 81 B p a len cap (W4 n) ∧ w.grownBy (W4 n) (some p)) := fun n => by
    rw [hW4]
    have b : Below w3.heap.size w3 (w3.alloc (.cells #[.int .u8 n] 5)) := (Below.refl _ _).alloc (Nat.le_refl _) _
    exact ⟨H3.out.below b, touch_below G3'.out b⟩
  have HW4 : Hid (∀ n, w3.alloc (.cells #[.int .u8 n] 5) = W4 n) := fun n => by rw [hW4]
  have hz1 : ∀ n : Int, (strOfNums [n]).size = 1 := fun n => by rw [strOfNums_size]; rfl
  clear hW4 H3 G3'
  go_upto_region 3 with fail
  rw [HW4.out]
  generalize (⟨#[32, 10, 48, 97, 45, 110, 44, 58, 93, 255, 40, 120, 126, 49, 128, 225, 59]⟩ : ByteArray)[R] = cb at *
  obtain ⟨x4, hx4⟩ : ∃ x4, x4 = W4 (cb.toNat : Int) := ⟨_, rfl⟩
  obtain ⟨hs4, hg4⟩ := HB.out (cb.toNat : Int)
  obtain ⟨c1, hc1⟩ : ∃ c1, c1 = strOfNums [(cb.toNat : Int)] := ⟨_, rfl⟩
  have hzc := hz1 (cb.toNat : Int)
  rw [← hx4] at hs4 hg4 ⊢
  rw [← hc1] at hzc ⊢
  clear hx4 HB HW4 hz1 hc1 hcv
  have HK : Hid (K ≤ t.size) := hK
  have hKi : (K : Int) ≤ (t.size : Int) := by omega
  have HZ : Hid (c1.size = 1) := hzc
  have HEnd : Hid (∀ (x : World) (u : ByteArray) (m : Nat), Src 81 B p a len cap x → w.grownBy x (some p) → u.size ≤ t.size + 1 → SpoiltT B p a len cap t w (.returned (.string u)) (x.drewN m)) := fun x u m h1 h2 h3 => ⟨⟨u, rfl, h3⟩, h1.below (belowDN (Below.refl _ _) m), touch_below h2 (belowDN (Below.refl _ _) m)⟩
  have hmz : t.size ≤ 9223372036854775807 := by omega
  have v1 : (t.extract 0 K).size ≤ 1000 := by simp; omega
  have v2 : c1.size ≤ 10 := by omega
  have v3 : (t.extract 0 K ++ c1).size ≤ 1010 := by rw [ByteArray.size_append]; omega
  have v4 : (t.extract K t.size).size ≤ 1000 := by simp; omega
  have v5 : (t.extract (K + 1) t.size).size ≤ 1000 := by simp; omega
  clear hzc
  by_cases hk : K = t.size
  · have e1 : ((K : Int) == (t.size : Int)) = true := beq_iff_eq.2 (by omega)
    have HE : Hid _ := fun m => HEnd.out x4 (t.extract 0 K ++ c1 ++ t.extract K t.size) m hs4 hg4 (by rw [size_app3, HZ.out]; simp; omega)
    clear HEnd hs4 hg4 hk
    go_wp2_with fail
    go_quiet (fail)
    go_wp2_with fail
    go_ret
    exact HE.out _
  have e1 : ((K : Int) == (t.size : Int)) = false := beq_eq_false_iff_ne.2 (by omega)
  have hlt : K < t.size := by omega
  have H4 : Hid (Src 81 B p a len cap x4) := hs4
  have G4 : Hid (w.grownBy x4 (some p)) := hg4
  clear hs4 hg4 hk
  go_wp2_with fail
  refine (one_any B p a len cap 3 x4 H4.out (by omega)).mono ?_
  rintro e x5 ⟨⟨bo, rfl⟩, hs5, hg5⟩
  have hg5 := touch_trans G4.out hg5
  cases bo
  · have H5 : Hid (Src 81 B p a len cap x5) := hs5
    have G5 : Hid (w.grownBy x5 (some p)) := hg5
    clear hs5 hg5 H4 G4
    go_wp2_with fail
    refine (one_any B p a len cap 2 x5 H5.out (by omega)).mono ?_
    rintro e x6 ⟨⟨bo, rfl⟩, hs6, hg6⟩
    have hg6 := touch_trans G5.out hg6
    have hw1 : IntKind.i64.wrap ((K : Int) + 1) = (K : Int) + 1 := by rw [IntKind.wrap_i64]; omega
    have hk1 : (K : Int) + 1 ≤ (t.size : Int) := by omega
    have hk2 : K + 1 ≤ t.size := by omega
    cases bo
    · have HE : Hid _ := fun m => HEnd.out x6 (t.extract 0 K ++ c1 ++ t.extract (K + 1) t.size) m hs6 hg6 (by rw [size_app3, HZ.out]; simp; omega)
      clear HEnd hs6 hg6 H5 G5
      go_wp2_with fail
      go_quiet (fail)
      go_wp2_with fail
      go_ret
      exact HE.out _
    · have HE : Hid _ := fun m => HEnd.out x6 (t.extract 0 K ++ t.extract (K + 1) t.size) m hs6 hg6 (by simp [ByteArray.size_append]; omega)
      clear HEnd hs6 hg6 H5 G5
      go_wp2_with fail
      go_quiet (fail)
      go_wp2_with fail
      go_ret
      exact HE.out _
  · have HE : Hid _ := fun m => HEnd.out x5 (t.extract 0 K ++ c1 ++ t.extract K t.size) m hs5 hg5 (by rw [size_app3, HZ.out]; simp; omega)
    clear HEnd hs5 hg5 H4 G4
    go_wp2_with fail
    go_quiet (fail)
    go_wp2_with fail
    go_ret
    exact HE.out _
end Go.Proofs.YtkhffoailfnepabGreatDoor
