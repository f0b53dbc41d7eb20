/-
  Parts of one proof, laid as one text: TakesN, DrawFld, FldOM, FldO; what each says stands at its head.
-/
import Derived.Test.YtonleickhincgaaGreatDoorRows
import Derived.Test.YtonleickhincgaaGreatDoorBytesDigMath
import Derived.Test.YtonleickhincgaaGreatDoorLgLawTakesTakesLPutterPathI
import Derived.Handy
import Derived.Deep.RegionHeld3
import Derived.Test.YtonleickhincgaaGreatDoorTreeMathSlABxKSlBOwnS
import Derived.Test.YtonleickhincgaaGreatDoorMac2AppSSrcDrawsDrawKitSomeIsInSignSSignDWide2StepAppPath2DigestDrawTreeSpoil
import Derived.WalkSpells
import Derived.OwnWalk
import Derived.Test.YtonleickhincgaaGreatDoorNameRight
import Derived.Test.YtonleickhincgaaGreatDoorTimeBPutMathPutNumJoinedPutTextFldMath
import Derived.Test.YtonleickhincgaaGreatDoorImplVerInc2SignRSignWFldRiseScanMath
import Derived.Test.YtonleickhincgaaGreatDoorLgAtKLgAnsLgRtAudMathHdMathClaMathHearMathFldGOneKFldBlkRwBlkRowOps
import Derived.Test.YtonleickhincgaaGreatDoorImplLgFldC
import Derived.Test.YtonleickhincgaaGreatDoorFldRSpecTgFldL
import Derived.Deep.AppendLies
import Derived.Deep.Cut
/-
  Two or three operations of a drawing region that are ready at once, each order written out.
-/
namespace Go.Proofs.YtonleickhincgaaGreatDoor
open Go.RowKit Go.Lib
set_option linter.unusedVariables false

theorem ready_at2 {P : Program} {md : Region.Mode} {ops : Array Oper} {Q : Exit → Act → World → Prop} {S : World → Prop} (i j : Nat) {oi oj : Oper} {fuel : Nat} {listed : Array Bool} {a : Act} {w : World} (hi : ops.toList[i]? = some oi) (hj : ops.toList[j]? = some oj) (hr : Region.ready md ops listed = [i, j])
    (h1 : ∀ K' : Act → World → Prop, Shut (∀ a w, S w → (S w → wpAnyH P md ops Q S fuel (listed.setIfInBounds i true) a w) → K' a w) → if Region.wanted oi (yielded ops a.tmps) = true then Oper.wp P oi a w K' Q else K' (a.put oi.dst undef) w)
    (h2 : ∀ K' : Act → World → Prop, Shut (∀ a w, S w → (S w → wpAnyH P md ops Q S fuel (listed.setIfInBounds j true) a w) → K' a w) → if Region.wanted oj (yielded ops a.tmps) = true then Oper.wp P oj a w K' Q else K' (a.put oj.dst undef) w) : wpAnyH P md ops Q S (fuel + 1) listed a w :=
  wpAnyH_ready hr (by simp) (AllReadyH.cons (by rw [← hi]; simp) h1 (AllReadyH.cons (by rw [← hj]; simp) h2 AllReadyH.nil))
theorem ready_at3 {P : Program} {md : Region.Mode} {ops : Array Oper} {Q : Exit → Act → World → Prop} {S : World → Prop} (i j l : Nat) {oi oj ol : Oper} {fuel : Nat} {listed : Array Bool} {a : Act} {w : World} (hi : ops.toList[i]? = some oi) (hj : ops.toList[j]? = some oj) (hl : ops.toList[l]? = some ol) (hr : Region.ready md ops listed = [i, j, l])
    (h1 : ∀ K' : Act → World → Prop, Shut (∀ a w, S w → (S w → wpAnyH P md ops Q S fuel (listed.setIfInBounds i true) a w) → K' a w) → if Region.wanted oi (yielded ops a.tmps) = true then Oper.wp P oi a w K' Q else K' (a.put oi.dst undef) w)
    (h2 : ∀ K' : Act → World → Prop, Shut (∀ a w, S w → (S w → wpAnyH P md ops Q S fuel (listed.setIfInBounds j true) a w) → K' a w) → if Region.wanted oj (yielded ops a.tmps) = true then Oper.wp P oj a w K' Q else K' (a.put oj.dst undef) w)
    (h3 : ∀ K' : Act → World → Prop, Shut (∀ a w, S w → (S w → wpAnyH P md ops Q S fuel (listed.setIfInBounds l true) a w) → K' a w) → if Region.wanted ol (yielded ops a.tmps) = true then Oper.wp P ol a w K' Q else K' (a.put ol.dst undef) w) : wpAnyH P md ops Q S (fuel + 1) listed a w :=
  wpAnyH_ready hr (by simp) (AllReadyH.cons (by rw [← hi]; simp) h1 (AllReadyH.cons (by rw [← hj]; simp) h2 (AllReadyH.cons (by rw [← hl]; simp) h3 AllReadyH.nil)))
end Go.Proofs.YtonleickhincgaaGreatDoor
/-
  What l07Name, l07Salt and l07Value draw: texts of at most 21, 9 and 17 bytes. The source's block alone is written.
  Conditions: the source is one ('Src').
-/
namespace Go.Proofs.YtonleickhincgaaGreatDoor
open Go.RowKit Go.Lib
set_option linter.unusedVariables false
set_option maxRecDepth 20000

def nameS3 : List ByteArray := [⟨#[]⟩, ⟨#[65]⟩, ⟨#[49, 50, 51, 52, 53, 54, 55, 56, 57, 48, 49, 50, 51, 52, 53, 54, 55, 56, 57, 48, 49]⟩]
def nameS4 : List ByteArray := [⟨#[110, 97, 109, 101]⟩, ⟨#[109, 97, 105, 108]⟩, ⟨#[97, 103, 101]⟩, ⟨#[116, 111, 119, 110]⟩]
def valS4 : List ByteArray := [⟨#[]⟩, ⟨#[97, 110, 110]⟩, ⟨#[52, 50]⟩, ⟨#[120, 32, 121]⟩]
theorem nameS3_small : ∀ t ∈ nameS3, t.size ≤ 21 := by decide
theorem nameS4_small : ∀ t ∈ nameS4, t.size ≤ 21 := by decide
theorem valS4_small : ∀ t ∈ valS4, t.size ≤ 17 := by decide

set_option maxHeartbeats 1000000 in
theorem l07Name_any (B p : Nat) (a : Option Addr) (len cap : Nat) (w : World) (hs : Src 126 B p a len cap w) :
    Calls Tryz.prog 147 #[.pointer (some ⟨p, 0, none⟩)] w fun e w' =>
      (∃ t : ByteArray, e = .returned (.string t) ∧ t.size ≤ 21) ∧ Src 126 B p a len cap w' ∧ w.grownBy w' (some p) := by
  have HS : Hid (Src 126 B p a len cap w) := hs
  clear hs
  go_enter Tryz.func147, Tryz.ntmps147
  go_wp2_with fail
  refine (one_any B p a len cap 25 _ HS.out (by omega)).mono ?_
  rintro e w1 ⟨⟨r, rfl⟩, hs1, hg1⟩
  have hp := hs1.lt
  cases r with
  | true =>
    have HB : Hid (BlkS (w1.alloc (.cells (strRow nameS3).toArray 9)) w1.heap.size nameS3) := alloc_str w1 nameS3
    have H1 : Hid (Src 126 B p a len cap (w1.alloc (.cells (strRow nameS3).toArray 9))) := hs1.below ((Below.refl _ _).alloc (Nat.le_refl _) _)
    clear hs1
    go_wp2_with fail
    refine (pick_any B p a len cap w1.heap.size nameS3 _ H1.out HB.out (by omega) (by decide) (by decide)).mono ?_
    rintro e w2 ⟨⟨t, ht, rfl⟩, hs2, hg2⟩
    have HG : Hid (w.grownBy w2 (some p)) := touch_trans hg1 (touch_trans (World.grownBy_alloc w1 _ (some p)) hg2)
    have HS2 : Hid (Src 126 B p a len cap w2) := hs2
    have h5 := nameS3_small t ht
    clear hs2 hg2 hg1 ht HB H1
    go_wp2_with fail
    go_ret
    exact ⟨⟨t, rfl, h5⟩, HS2.out, HG.out⟩
  | false =>
    have HB : Hid (BlkS (w1.alloc (.cells (strRow nameS4).toArray 9)) w1.heap.size nameS4) := alloc_str w1 nameS4
    have H1 : Hid (Src 126 B p a len cap (w1.alloc (.cells (strRow nameS4).toArray 9))) := hs1.below ((Below.refl _ _).alloc (Nat.le_refl _) _)
    clear hs1
    go_wp2_with fail
    refine (pick_any B p a len cap w1.heap.size nameS4 _ H1.out HB.out (by omega) (by decide) (by decide)).mono ?_
    rintro e w2 ⟨⟨t, ht, rfl⟩, hs2, hg2⟩
    have HG : Hid (w.grownBy w2 (some p)) := touch_trans hg1 (touch_trans (World.grownBy_alloc w1 _ (some p)) hg2)
    have HS2 : Hid (Src 126 B p a len cap w2) := hs2
    have h5 := nameS4_small t ht
    clear hs2 hg2 hg1 ht HB H1
    go_wp2_with fail
    go_ret
    exact ⟨⟨t, rfl, h5⟩, HS2.out, HG.out⟩

set_option maxHeartbeats 1000000 in
theorem l07Value_any (B p : Nat) (a : Option Addr) (len cap : Nat) (w : World) (hs : Src 126 B p a len cap w) :
    Calls Tryz.prog 139 #[.pointer (some ⟨p, 0, none⟩)] w fun e w' =>
      (∃ t : ByteArray, e = .returned (.string t) ∧ t.size ≤ 17) ∧ Src 126 B p a len cap w' ∧ w.grownBy w' (some p) := by
  have HS : Hid (Src 126 B p a len cap w) := hs
  clear hs
  go_enter Tryz.func139, Tryz.ntmps139
  go_wp2_with fail
  refine (one_any B p a len cap 25 _ HS.out (by omega)).mono ?_
  rintro e w1 ⟨⟨r, rfl⟩, hs1, hg1⟩
  have hp := hs1.lt
  cases r with
  | true =>
    have hN := n_any B p a len cap 3 w1 hs1 (by omega)
    clear hs1
    go_wp2_with fail
    refine hN.mono ?_
    rintro e w2 ⟨⟨r2, rfl, r20, r21, -⟩, hs2, hg2⟩
    have r22 := r21 (by omega)
    obtain ⟨R, rfl⟩ := Int.eq_ofNat_of_zero_le r20
    have hmk := run_make_u8s (15 + R) (by omega) w2
    rw [show ((15 + R : Nat) : Int) = 15 + (R : Int) by omega] at hmk
    have hzc := zconv (15 + R) w2
    have HZs : (strOfNums (List.replicate (15 + R) 0)).size ≤ 17 := by rw [strOfNums_size, List.length_replicate]; omega
    have HS2 : Hid (Src 126 B p a len cap (w2.alloc (.cells (zrow (15 + R)).toArray 5))) := hs2.below ((Below.refl _ _).alloc (Nat.le_refl _) _)
    have HG : Hid (w.grownBy (w2.alloc (.cells (zrow (15 + R)).toArray 5)) (some p)) := touch_trans hg1 (touch_trans hg2 (World.grownBy_alloc w2 _ (some p)))
    clear hs2 hg2 hg1 hN r21 r20
    go_wp2_with fail
    go_ret
    exact ⟨⟨_, rfl, HZs⟩, HS2.out, HG.out⟩
  | false =>
    have HB : Hid (BlkS (w1.alloc (.cells (strRow valS4).toArray 9)) w1.heap.size valS4) := alloc_str w1 valS4
    have H1 : Hid (Src 126 B p a len cap (w1.alloc (.cells (strRow valS4).toArray 9))) := hs1.below ((Below.refl _ _).alloc (Nat.le_refl _) _)
    clear hs1
    go_wp2_with fail
    refine (pick_any B p a len cap w1.heap.size valS4 _ H1.out HB.out (by omega) (by decide) (by decide)).mono ?_
    rintro e w2 ⟨⟨t, ht, rfl⟩, hs2, hg2⟩
    have HG : Hid (w.grownBy w2 (some p)) := touch_trans hg1 (touch_trans (World.grownBy_alloc w1 _ (some p)) hg2)
    have HS2 : Hid (Src 126 B p a len cap w2) := hs2
    have h5 := valS4_small t ht
    clear hs2 hg2 hg1 ht HB H1
    go_wp2_with fail
    go_ret
    exact ⟨⟨t, rfl, h5⟩, HS2.out, HG.out⟩

theorem salt_at : ∀ k : Nat, k < 3 → ∃ v : Nat, (#[.int .i64 0, .int .i64 8, .int .i64 9] : Array Value)[k]? = some (.int .i64 (v : Int)) ∧ v ≤ 9
  | 0, _ => ⟨0, rfl, by omega⟩
  | 1, _ => ⟨8, rfl, by omega⟩
  | 2, _ => ⟨9, rfl, by omega⟩
  | k + 3, h => by omega
set_option maxHeartbeats 1000000 in
theorem l07Salt_any (B p : Nat) (a : Option Addr) (len cap : Nat) (w : World) (hs : Src 126 B p a len cap w) :
    Calls Tryz.prog 138 #[.pointer (some ⟨p, 0, none⟩)] w fun e w' =>
      (∃ t : ByteArray, e = .returned (.string t) ∧ t.size ≤ 9) ∧ Src 126 B p a len cap w' ∧ w.grownBy w' (some p) := by
  have HS : Hid (Src 126 B p a len cap w) := hs
  clear hs
  go_enter Tryz.func138, Tryz.ntmps138
  go_wp2_with fail
  refine (one_any B p a len cap 25 _ HS.out (by omega)).mono ?_
  rintro e w1 ⟨⟨r, rfl⟩, hs1, hg1⟩
  have hp := hs1.lt
  cases r with
  | true =>
    obtain ⟨W2, hW2⟩ : ∃ W2, W2 = w1.alloc (.cells #[.int .i64 0, .int .i64 8, .int .i64 9] 2) := ⟨_, rfl⟩
    have HW2 : Hid (W2 = w1.alloc (.cells #[.int .i64 0, .int .i64 8, .int .i64 9] 2)) := hW2
    have hb : W2.heap[w1.heap.size]? = some (.cells #[.int .i64 0, .int .i64 8, .int .i64 9] 2 (0, 0)) := by rw [hW2]; exact (MapKept.heap_alloc w1 _).1
    have HBk : Hid (∀ x, W2.grownBy x (some p) → x.heap[w1.heap.size]? = some (.cells #[.int .i64 0, .int .i64 8, .int .i64 9] 2 (0, 0))) := fun x hx => (hx.block _ (lt_of_block hb) (fun e => by cases e; omega)).trans hb
    have hN := n_any B p a len cap 3 W2 (by rw [hW2]; exact hs1.below ((Below.refl _ _).alloc (Nat.le_refl _) _)) (by omega)
    have HG2 : Hid (w.grownBy W2 (some p)) := by rw [hW2]; exact touch_trans hg1 (World.grownBy_alloc w1 _ (some p))
    clear hs1 hW2 hb hg1
    go_wp2_with fail
    rw [← HW2.out]
    refine hN.mono ?_
    rintro e w2 ⟨⟨r2, rfl, r20, r21, -⟩, hs2, hg2⟩
    have r22 := r21 (by omega)
    obtain ⟨R, rfl⟩ := Int.eq_ofNat_of_zero_le r20
    obtain ⟨V, hV, hV9⟩ := salt_at R (by omega)
    have hc : w2.cell? ⟨w1.heap.size, R, none⟩ = some (.int .i64 (V : Int)) := by simp [World.cell?, HBk.out w2 hg2, hV]
    have hmk := run_make_u8s V (by omega) w2
    have hzc := zconv V w2
    have HZs : (strOfNums (List.replicate V 0)).size ≤ 9 := by rw [strOfNums_size, List.length_replicate]; omega
    have HS2 : Hid (Src 126 B p a len cap (w2.alloc (.cells (zrow V).toArray 5))) := hs2.below ((Below.refl _ _).alloc (Nat.le_refl _) _)
    have HG : Hid (w.grownBy (w2.alloc (.cells (zrow V).toArray 5)) (some p)) := touch_trans HG2.out (touch_trans hg2 (World.grownBy_alloc w2 _ (some p)))
    clear hs2 hg2 hN r21 r20 hV HBk HW2
    go_wp2_with fail
    go_ret
    exact ⟨⟨_, rfl, HZs⟩, HS2.out, HG.out⟩
  | false =>
    have hN := n_any B p a len cap 4 w1 hs1 (by omega)
    clear hs1
    go_wp2_with fail
    refine hN.mono ?_
    rintro e w2 ⟨⟨r2, rfl, r20, r21, -⟩, hs2, hg2⟩
    have r22 := r21 (by omega)
    have hB := bytes_any B p a len cap r2 w2 hs2 (by omega)
    have hg2 := touch_trans hg1 hg2
    clear hN hs2 r21 hg1
    go_wp2_with fail
    refine hB.mono ?_
    rintro e w3 ⟨⟨u, rfl, hu⟩, hs3, hg3⟩
    have HT : (⟨#[115]⟩ ++ u : ByteArray).size ≤ 9 := by rw [append_size]; show 1 + u.size ≤ 9; omega
    have HS3 : Hid (Src 126 B p a len cap w3) := hs3
    have HG : Hid (w.grownBy w3 (some p)) := touch_trans hg2 hg3
    clear hB hs3 hg3 hg2
    go_wp2_with fail
    go_ret
    exact ⟨⟨_, rfl, HT⟩, HS3.out, HG.out⟩
end Go.Proofs.YtonleickhincgaaGreatDoor
/-
  What RowOf answers, as plain functions; the boxes of a row that is put together.
-/
namespace Go.Proofs.YtonleickhincgaaGreatDoor
open Go.RowKit Go.Lib
set_option linter.unusedVariables false
set_option maxRecDepth 20000

/-! ### What RowOf answers -/
def rfAt (ns ss vs : List ByteArray) (i : Nat) : Fld := ⟨ns.getD i ByteArray.empty, cmB (ns.getD i ByteArray.empty) (ss.getD i ByteArray.empty) (vs.getD i ByteArray.empty), ss.getD i ByteArray.empty, vs.getD i ByteArray.empty, false⟩
def rfTo (ns ss vs : List ByteArray) (k : Nat) : List Fld := (List.range k).map (rfAt ns ss vs)
theorem rfTo_len (ns ss vs : List ByteArray) (k : Nat) : (rfTo ns ss vs k).length = k := by simp [rfTo]
theorem rfTo_succ (ns ss vs : List ByteArray) (k : Nat) : rfTo ns ss vs (k + 1) = rfTo ns ss vs k ++ [rfAt ns ss vs k] := by simp [rfTo, List.range_succ]
def roBig (k : ByteArray) (ns ss vs : List ByteArray) : Prop := 8000 < k.size ∨ 400 < ns.length ∨ 400 < ss.length ∨ 400 < vs.length
def roOdd (ns ss vs : List ByteArray) : Prop := ss.length ≠ ns.length ∨ vs.length ≠ ns.length ∨ 3 < ns.length
instance (k : ByteArray) (ns ss vs : List ByteArray) : Decidable (roBig k ns ss vs) := by unfold roBig; infer_instance
instance (ns ss vs : List ByteArray) : Decidable (roOdd ns ss vs) := by unfold roOdd; infer_instance
def roC (k : ByteArray) (at_ : Int) (ns ss vs : List ByteArray) : Int := if roBig k ns ss vs then 2 else if roOdd ns ss vs then 1 else if rwB k at_ (rfTo ns ss vs ns.length) = true then 0 else 1
def roK (k : ByteArray) (at_ : Int) (ns ss vs : List ByteArray) : ByteArray := if roC k at_ ns ss vs = 0 then k else ByteArray.empty
def roA (k : ByteArray) (at_ : Int) (ns ss vs : List ByteArray) : Int := if roC k at_ ns ss vs = 0 then at_ else 0
def roF (k : ByteArray) (at_ : Int) (ns ss vs : List ByteArray) : List Fld := if roC k at_ ns ss vs = 0 then rfTo ns ss vs ns.length else []
/-- A result's box, a row's box, the row of fields that the call owns. -/
structure RoS (w : World) (k : ByteArray) (at_ : Int) (v : Value) (l : List Fld) (x : World) : Prop where
  bel : Below w.heap.size w x
  res : Bxs x w.heap.size 187 #[.string ByteArray.empty, .int .i64 0, .slice none 0 0, .int .i64 0]
  box : Bxs x (w.heap.size + 1) 100 #[.string k, .int .i64 at_, v]
  own : x.ownsRow w.heap.size 122 5 v l.length (fldRow l)
theorem ownF_ne {w : World} {base g : Nat} {e T : TypeId} {s : Nat} {v : Value} {n : Nat} {xs : List Value} {cs : Array Value} (h : w.ownsRow base e s v n xs) (hb : Bxs w g T cs) (hne : T ≠ e) : v.ownBlock ≠ some g := by
  intro he
  rcases h.2 with ⟨rfl, _⟩ | ⟨g', cap, cur, rfl, _, hg', _⟩
  · cases he
  · have : g' = g := by simpa [Value.ownBlock] using he
    subst this
    unfold Bxs at hb
    rw [hb] at hg'
    injection hg' with h1
    injection h1 with h2 h3
    exact hne h3
theorem RoS.below {w : World} {k : ByteArray} {at_ : Int} {v : Value} {l : List Fld} {x y : World} (h : RoS w k at_ v l x) (hb : Below x.heap.size x y) : RoS w k at_ v l y := ⟨chainB h.bel hb, h.res.below hb, h.box.below hb, ownS_below h.own hb⟩
theorem RoS.append {w : World} {k : ByteArray} {at_ : Int} {v v2 : Value} {l l2 : List Fld} {x x6 : World} (h : RoS w k at_ v l x) (o : Obj) (hg : (x.alloc o).grownBy x6 v.ownBlock) (ho : x6.ownsRow w.heap.size 122 5 v2 l2.length (fldRow l2)) :
    RoS w k at_ v2 l2 (x6.setCell ⟨w.heap.size + 1, 2, none⟩ v2) ∧ x6.cell? ⟨w.heap.size + 1, 2, none⟩ = some v ∧ x6.frozen? ⟨w.heap.size + 1, 2, none⟩ = false ∧ Below w.heap.size w x6 := by
  have n1 := ownF_ne h.own h.box (by decide)
  have n2 := ownF_ne h.own h.res (by decide)
  have hb : Bxs x6 (w.heap.size + 1) 100 #[.string k, .int .i64 at_, v] := (h.box.alloc o).grown hg (Ne.symm n1)
  have hr : Bxs x6 w.heap.size 187 #[.string ByteArray.empty, .int .i64 0, .slice none 0 0, .int .i64 0] := (h.res.alloc o).grown hg (Ne.symm n2)
  have hB : Below w.heap.size w x6 := (h.bel.alloc h.bel.size o).grown hg (by have := h.bel.size; simp; omega) (fun j hj => by
    rcases h.own.2 with ⟨rfl, _⟩ | ⟨g', cap, cur, rfl, hge, _⟩
    · cases hj
    · simp [Value.ownBlock] at hj; omega)
  refine ⟨⟨hB.setCell (by show _ ≤ w.heap.size + 1; omega) _, hr.other _ _ (by omega) _, ?_, ownsRow_setCell_other ho (by have := ownF_ne ho hb (by decide); simpa using this) _⟩, hb.cell 2, hb.fr 2, hB⟩
  exact hb.set 2 v2
theorem RoS.done {w : World} {k : ByteArray} {at_ : Int} {v : Value} {l : List Fld} {x : World} (h : RoS w k at_ v l x) (x0 x1 x2 x3 : Value) : ((((x.setCell ⟨w.heap.size, 0, none⟩ x0).setCell ⟨w.heap.size, 1, none⟩ x1).setCell ⟨w.heap.size, 2, none⟩ x2).setCell ⟨w.heap.size, 3, none⟩ x3).ownsRow w.heap.size 122 5 v l.length (fldRow l) ∧ Below w.heap.size w ((((x.setCell ⟨w.heap.size, 0, none⟩ x0).setCell ⟨w.heap.size, 1, none⟩ x1).setCell ⟨w.heap.size, 2, none⟩ x2).setCell ⟨w.heap.size, 3, none⟩ x3) := by
  have n2 : v.ownBlock ≠ some w.heap.size := ownF_ne h.own h.res (by decide)
  exact ⟨ownsRow_setCell_other (ownsRow_setCell_other (ownsRow_setCell_other (ownsRow_setCell_other h.own n2 _) n2 _) n2 _) n2 _, below_set4 h.bel (Nat.le_refl _) _ _ _ _⟩
theorem rfTo_le {ns ss vs : List ByteArray} (z1 : ∀ x ∈ ns, x.size ≤ maxLen) (z2 : ∀ x ∈ ss, x.size ≤ maxLen) (z3 : ∀ x ∈ vs, x.size ≤ maxLen) (k : Nat) : FldsLe (rfTo ns ss vs k) := by
  have hg : ∀ (l : List ByteArray) (j : Nat), (∀ x ∈ l, x.size ≤ maxLen) → (l.getD j ByteArray.empty).size ≤ maxLen := fun l j h => by
    by_cases hj : j < l.length
    · rw [List.getD_eq_getElem?_getD, List.getElem?_eq_getElem hj]; exact h _ (List.getElem_mem hj)
    · rw [List.getD_eq_getElem?_getD, List.getElem?_eq_none (by omega)]; exact Nat.zero_le _
  intro f hf
  obtain ⟨j, -, rfl⟩ := List.mem_map.1 hf
  exact ⟨hg ns j z1, Nat.le_trans (cmB_size _ _ _) (by unfold maxLen; omega), hg ss j z2, hg vs j z3⟩
end Go.Proofs.YtonleickhincgaaGreatDoor
/-
  What the specification's l07Ill and RowOf answer.
  Conditions: the cells hold the names, the salts and the values.
-/
namespace Go.Proofs.YtonleickhincgaaGreatDoor
open Go.RowKit Go.Lib
set_option linter.unusedVariables false
set_option maxRecDepth 20000

theorem l07Ill_any (c : Int) (w : World) : Calls Tryz.prog 176 #[.int .i64 c] w fun e w' => e = .returned (.agg #[.string ByteArray.empty, .int .i64 0, .slice none 0 0, .int .i64 c]) ∧ Below w.heap.size w w' := by
  have B1 : Below w.heap.size w (w.alloc (.cells #[.string ByteArray.empty, .int .i64 0, .slice none 0 0, .int .i64 c] 187)) := (Below.refl _ _).alloc (Nat.le_refl _) _
  go_enter Tryz.func176, Tryz.ntmps176
  go_wp2_with fail
  refine bodyPost_ret (v := .agg #[.string ByteArray.empty, .int .i64 0, .slice none 0 0, .int .i64 c]) (by simp [results, Tryz.results176, go_sem]; rfl) rfl ?_
  exact ⟨rfl, B1⟩
set_option maxHeartbeats 8000000 in
theorem specRowOf_any (k : ByteArray) (at_ : Int) (p1 : Option Addr) (c1 : Nat) (ns : List ByteArray) (p2 : Option Addr) (c2 : Nat) (ss : List ByteArray) (p3 : Option Addr) (c3 : Nat) (vs : List ByteArray) (w : World) (t1 : TxtAt w p1 ns) (t2 : TxtAt w p2 ss) (t3 : TxtAt w p3 vs) (m1 : ns.length ≤ c1) (m2 : ss.length ≤ c2) (m3 : vs.length ≤ c3) (hk : k.size ≤ maxLen) (z1 : ∀ x ∈ ns, x.size ≤ maxLen) (z2 : ∀ x ∈ ss, x.size ≤ maxLen) (z3 : ∀ x ∈ vs, x.size ≤ maxLen) :
    Calls Tryz.prog 140 #[.string k, .int .i64 at_, .slice p1 ns.length c1, .slice p2 ss.length c2, .slice p3 vs.length c3] w fun e w' => ∃ v, e = .returned (.agg #[.string (roK k at_ ns ss vs), .int .i64 (roA k at_ ns ss vs), v, .int .i64 (roC k at_ ns ss vs)]) ∧ w'.ownsRow w.heap.size 122 5 v (roF k at_ ns ss vs).length (fldRow (roF k at_ ns ss vs)) ∧ Below w.heap.size w w' := by
  obtain ⟨W1, hW1⟩ : ∃ W1, W1 = w.alloc (.cells #[.string ⟨#[]⟩, .int .i64 0, .slice none 0 0, .int .i64 0] 187) := ⟨_, rfl⟩
  have HW1 : Hid (W1 = w.alloc (.cells #[.string ⟨#[]⟩, .int .i64 0, .slice none 0 0, .int .i64 0] 187)) := hW1
  have B1 : Hid (Below w.heap.size w W1) := by rw [hW1]; exact (Below.refl _ _).alloc (Nat.le_refl _) _
  have K1 : Hid (Bxs W1 w.heap.size 187 #[.string ByteArray.empty, .int .i64 0, .slice none 0 0, .int .i64 0]) := by rw [hW1]; exact Bxs.new _ _ _
  have HT1 : Hid (TxtAt w p1 ns) := t1
  have HT2 : Hid (TxtAt w p2 ss) := t2
  have HT3 : Hid (TxtAt w p3 vs) := t3
  have HR : Hid (∀ x, Below W1.heap.size W1 x → x.cell? ⟨w.heap.size, 0, none⟩ = some (.string ByteArray.empty) ∧ x.cell? ⟨w.heap.size, 1, none⟩ = some (.int .i64 0) ∧ x.cell? ⟨w.heap.size, 2, none⟩ = some (.slice none 0 0) ∧ x.cell? ⟨w.heap.size, 3, none⟩ = some (.int .i64 0) ∧ x.frozen? ⟨w.heap.size, 0, none⟩ = false ∧ x.frozen? ⟨w.heap.size, 1, none⟩ = false ∧ x.frozen? ⟨w.heap.size, 2, none⟩ = false ∧ x.frozen? ⟨w.heap.size, 3, none⟩ = false) := fun x hb => ⟨(K1.out.below hb).cell 0, (K1.out.below hb).cell 1, (K1.out.below hb).cell 2, (K1.out.below hb).cell 3, (K1.out.below hb).fr 0, (K1.out.below hb).fr 1, (K1.out.below hb).fr 2, (K1.out.below hb).fr 3⟩
  have HEr : Hid (∀ (y : World) (c : Int) (x0 x1 x2 x3 : Value), Below w.heap.size w y → roC k at_ ns ss vs = c → c ≠ 0 → ∃ v, Ending.returned (.agg #[.string ByteArray.empty, .int .i64 0, .slice none 0 0, .int .i64 c]) = .returned (.agg #[.string (roK k at_ ns ss vs), .int .i64 (roA k at_ ns ss vs), v, .int .i64 (roC k at_ ns ss vs)]) ∧ ((((y.setCell ⟨w.heap.size, 0, none⟩ x0).setCell ⟨w.heap.size, 1, none⟩ x1).setCell ⟨w.heap.size, 2, none⟩ x2).setCell ⟨w.heap.size, 3, none⟩ x3).ownsRow w.heap.size 122 5 v (roF k at_ ns ss vs).length (fldRow (roF k at_ ns ss vs)) ∧ Below w.heap.size w ((((y.setCell ⟨w.heap.size, 0, none⟩ x0).setCell ⟨w.heap.size, 1, none⟩ x1).setCell ⟨w.heap.size, 2, none⟩ x2).setCell ⟨w.heap.size, 3, none⟩ x3)) := by
    intro y c x0 x1 x2 x3 hb hc hn
    have hn' : ¬ roC k at_ ns ss vs = 0 := by rw [hc]; exact hn
    rw [show roK k at_ ns ss vs = ByteArray.empty from if_neg hn', show roA k at_ ns ss vs = 0 from if_neg hn', show roF k at_ ns ss vs = [] from if_neg hn', hc]
    exact ⟨_, rfl, World.ownsRow_nil _ _ _ _, below_set4 hb (Nat.le_refl _) _ _ _ _⟩
  have HK : Hid (k.size ≤ maxLen) := hk
  unfold maxLen at hk
  clear hW1 t1 t2 t3
  by_cases h1 : 8000 < k.size
  · have d1 : decide (8000 < (k.size : Int)) = true := decide_eq_true (by omega)
    have hC : Hid (roC k at_ ns ss vs = 2) := if_pos (Or.inl h1)
    clear HT1 HT2 HT3
    go_enter Tryz.func140, Tryz.ntmps140
    go_wp2_with fail
    rw [← HW1.out]
    refine (l07Ill_any 2 W1).mono ?_
    rintro e y2 ⟨rfl, b2⟩
    have HE := fun x0 x1 x2 x3 => HEr.out y2 2 x0 x1 x2 x3 (chainB B1.out b2) hC.out (by omega)
    obtain ⟨r0, r1, r2, r3, f0, f1, f2, f3⟩ := HR.out y2 b2
    clear HEr HR
    go_wp2_with fail
    refine bodyPost_ret (v := .agg #[.string ByteArray.empty, .int .i64 0, .slice none 0 0, .int .i64 2]) (by simp [results, Tryz.results140, go_sem, r0, r1, r2, r3]) rfl ?_
    exact HE _ _ _ _
  by_cases h2 : 400 < ns.length
  · have d1 : decide (8000 < (k.size : Int)) = false := decide_eq_false (by omega)
    have d2 : decide (400 < (ns.length : Int)) = true := decide_eq_true (by omega)
    have hC : Hid (roC k at_ ns ss vs = 2) := if_pos (Or.inr (Or.inl h2))
    clear HT1 HT2 HT3
    go_enter Tryz.func140, Tryz.ntmps140
    go_wp2_with fail
    rw [← HW1.out]
    refine (l07Ill_any 2 W1).mono ?_
    rintro e y2 ⟨rfl, b2⟩
    have HE := fun x0 x1 x2 x3 => HEr.out y2 2 x0 x1 x2 x3 (chainB B1.out b2) hC.out (by omega)
    obtain ⟨r0, r1, r2, r3, f0, f1, f2, f3⟩ := HR.out y2 b2
    clear HEr HR
    go_wp2_with fail
    refine bodyPost_ret (v := .agg #[.string ByteArray.empty, .int .i64 0, .slice none 0 0, .int .i64 2]) (by simp [results, Tryz.results140, go_sem, r0, r1, r2, r3]) rfl ?_
    exact HE _ _ _ _
  by_cases h3 : 400 < ss.length
  · have d1 : decide (8000 < (k.size : Int)) = false := decide_eq_false (by omega)
    have d2 : decide (400 < (ns.length : Int)) = false := decide_eq_false (by omega)
    have d3 : decide (400 < (ss.length : Int)) = true := decide_eq_true (by omega)
    have hC : Hid (roC k at_ ns ss vs = 2) := if_pos (Or.inr (Or.inr (Or.inl h3)))
    clear HT1 HT2 HT3
    go_enter Tryz.func140, Tryz.ntmps140
    go_wp2_with fail
    rw [← HW1.out]
    refine (l07Ill_any 2 W1).mono ?_
    rintro e y2 ⟨rfl, b2⟩
    have HE := fun x0 x1 x2 x3 => HEr.out y2 2 x0 x1 x2 x3 (chainB B1.out b2) hC.out (by omega)
    obtain ⟨r0, r1, r2, r3, f0, f1, f2, f3⟩ := HR.out y2 b2
    clear HEr HR
    go_wp2_with fail
    refine bodyPost_ret (v := .agg #[.string ByteArray.empty, .int .i64 0, .slice none 0 0, .int .i64 2]) (by simp [results, Tryz.results140, go_sem, r0, r1, r2, r3]) rfl ?_
    exact HE _ _ _ _
  by_cases h4 : 400 < vs.length
  · have d1 : decide (8000 < (k.size : Int)) = false := decide_eq_false (by omega)
    have d2 : decide (400 < (ns.length : Int)) = false := decide_eq_false (by omega)
    have d3 : decide (400 < (ss.length : Int)) = false := decide_eq_false (by omega)
    have d4 : decide (400 < (vs.length : Int)) = true := decide_eq_true (by omega)
    have hC : Hid (roC k at_ ns ss vs = 2) := if_pos (Or.inr (Or.inr (Or.inr h4)))
    clear HT1 HT2 HT3
    go_enter Tryz.func140, Tryz.ntmps140
    go_wp2_with fail
    rw [← HW1.out]
    refine (l07Ill_any 2 W1).mono ?_
    rintro e y2 ⟨rfl, b2⟩
    have HE := fun x0 x1 x2 x3 => HEr.out y2 2 x0 x1 x2 x3 (chainB B1.out b2) hC.out (by omega)
    obtain ⟨r0, r1, r2, r3, f0, f1, f2, f3⟩ := HR.out y2 b2
    clear HEr HR
    go_wp2_with fail
    refine bodyPost_ret (v := .agg #[.string ByteArray.empty, .int .i64 0, .slice none 0 0, .int .i64 2]) (by simp [results, Tryz.results140, go_sem, r0, r1, r2, r3]) rfl ?_
    exact HE _ _ _ _
  have d1 : decide (8000 < (k.size : Int)) = false := decide_eq_false (by omega)
  have d2 : decide (400 < (ns.length : Int)) = false := decide_eq_false (by omega)
  have d3 : decide (400 < (ss.length : Int)) = false := decide_eq_false (by omega)
  have d4 : decide (400 < (vs.length : Int)) = false := decide_eq_false (by omega)
  have hB : ¬ roBig k ns ss vs := by unfold roBig; omega
  have hC0 : roC k at_ ns ss vs = if roOdd ns ss vs then 1 else if rwB k at_ (rfTo ns ss vs ns.length) = true then 0 else 1 := if_neg hB
  by_cases g1 : ss.length = ns.length
  case neg =>
    have q1 : (((ss.length : Nat) : Int) != ((ns.length : Nat) : Int)) = true := by simp; omega
    have hC : Hid (roC k at_ ns ss vs = 1) := by show _ = _; rw [hC0, if_pos (show roOdd ns ss vs from Or.inl g1)]
    clear HT1 HT2 HT3
    go_enter Tryz.func140, Tryz.ntmps140
    go_wp2_with fail
    rw [← HW1.out]
    refine (l07Ill_any 1 W1).mono ?_
    rintro e y2 ⟨rfl, b2⟩
    have HE := fun x0 x1 x2 x3 => HEr.out y2 1 x0 x1 x2 x3 (chainB B1.out b2) hC.out (by omega)
    obtain ⟨r0, r1, r2, r3, f0, f1, f2, f3⟩ := HR.out y2 b2
    clear HEr HR
    go_wp2_with fail
    refine bodyPost_ret (v := .agg #[.string ByteArray.empty, .int .i64 0, .slice none 0 0, .int .i64 1]) (by simp [results, Tryz.results140, go_sem, r0, r1, r2, r3]) rfl ?_
    exact HE _ _ _ _
  have q1 : (((ss.length : Nat) : Int) != ((ns.length : Nat) : Int)) = false := by simp; omega
  by_cases g2 : vs.length = ns.length
  case neg =>
    have G1 : Hid (ss.length = ns.length) := g1
    clear g1
    have q2 : (((vs.length : Nat) : Int) != ((ns.length : Nat) : Int)) = true := by simp; omega
    have hC : Hid (roC k at_ ns ss vs = 1) := by show _ = _; rw [hC0, if_pos (show roOdd ns ss vs from Or.inr (Or.inl g2))]
    clear HT1 HT2 HT3
    go_enter Tryz.func140, Tryz.ntmps140
    go_wp2_with fail
    rw [← HW1.out]
    refine (l07Ill_any 1 W1).mono ?_
    rintro e y2 ⟨rfl, b2⟩
    have HE := fun x0 x1 x2 x3 => HEr.out y2 1 x0 x1 x2 x3 (chainB B1.out b2) hC.out (by omega)
    obtain ⟨r0, r1, r2, r3, f0, f1, f2, f3⟩ := HR.out y2 b2
    clear HEr HR
    go_wp2_with fail
    refine bodyPost_ret (v := .agg #[.string ByteArray.empty, .int .i64 0, .slice none 0 0, .int .i64 1]) (by simp [results, Tryz.results140, go_sem, r0, r1, r2, r3]) rfl ?_
    exact HE _ _ _ _
  have q2 : (((vs.length : Nat) : Int) != ((ns.length : Nat) : Int)) = false := by simp; omega
  by_cases g3 : 3 < ns.length
  · have hC : Hid (roC k at_ ns ss vs = 1) := by show _ = _; rw [hC0, if_pos (show roOdd ns ss vs from Or.inr (Or.inr g3))]
    clear g1 g2
    have q3 : decide (3 < (ns.length : Int)) = true := decide_eq_true (by omega)
    have hC : Hid (roC k at_ ns ss vs = 1) := hC
    clear HT1 HT2 HT3
    go_enter Tryz.func140, Tryz.ntmps140
    go_wp2_with fail
    rw [← HW1.out]
    refine (l07Ill_any 1 W1).mono ?_
    rintro e y2 ⟨rfl, b2⟩
    have HE := fun x0 x1 x2 x3 => HEr.out y2 1 x0 x1 x2 x3 (chainB B1.out b2) hC.out (by omega)
    obtain ⟨r0, r1, r2, r3, f0, f1, f2, f3⟩ := HR.out y2 b2
    clear HEr HR
    go_wp2_with fail
    refine bodyPost_ret (v := .agg #[.string ByteArray.empty, .int .i64 0, .slice none 0 0, .int .i64 1]) (by simp [results, Tryz.results140, go_sem, r0, r1, r2, r3]) rfl ?_
    exact HE _ _ _ _
  have q3 : decide (3 < (ns.length : Int)) = false := decide_eq_false (by omega)
  have HL1 : Hid (ss.length = ns.length) := g1
  have HL2 : Hid (vs.length = ns.length) := g2
  have HL3 : Hid (ns.length ≤ 3) := by show _ ≤ _; omega
  have hO : ¬ roOdd ns ss vs := by unfold roOdd; omega
  have HC0 : Hid (roC k at_ ns ss vs = if rwB k at_ (rfTo ns ss vs ns.length) = true then 0 else 1) := by show _ = _; rw [hC0, if_neg hO]
  clear hC0 hO g1 g2 g3 h1 h2 h3 h4 hB
  obtain ⟨W2, hW2⟩ : ∃ W2, W2 = W1.alloc (.cells #[.string k, .int .i64 at_, .slice none 0 0] 100) := ⟨_, rfl⟩
  have HW2 : Hid (W2 = W1.alloc (.cells #[.string k, .int .i64 at_, .slice none 0 0] 100)) := hW2
  have S2 : Hid (RoS w k at_ (.slice none 0 0) (rfTo ns ss vs 0) W2) := by
    have hs : W1.heap.size = w.heap.size + 1 := by rw [HW1.out]; simp
    rw [hW2]
    refine ⟨B1.out.alloc B1.out.size _, K1.out.alloc _, ?_, World.ownsRow_nil _ _ _ _⟩
    rw [← hs]; exact Bxs.new _ _ _
  have HLe := rfTo_le z1 z2 z3 ns.length
  have HLE : Hid (FldsLe (rfTo ns ss vs ns.length)) := HLe
  have HZ : Hid ((∀ x ∈ ns, x.size ≤ maxLen) ∧ (∀ x ∈ ss, x.size ≤ maxLen) ∧ (∀ x ∈ vs, x.size ≤ maxLen)) := ⟨z1, z2, z3⟩
  clear hW2 HLe z1 z2 z3 HR K1
  go_enter Tryz.func140, Tryz.ntmps140
  go_upto_region 6 with fail
  rw [← HW1.out, ← HW2.out]
  clear d1 d2 d3 d4 q1 q2 q3 HW1 HW2
  go_wp2_with fail
  go_loopw [12] (fun i wr => ∃ (j : Nat) (v : Value), j ≤ ns.length ∧ i = .int .i64 j ∧ Hid (RoS w k at_ v (rfTo ns ss vs j) wr)) (fun i _ => ns.length - (Go.RowKit.intOf i).toNat)
  case atStart => exact ⟨0, _, Nat.zero_le _, rfl, S2⟩
  case round =>
    clear S2
    obtain ⟨i, v, hi, rfl, hS⟩ := hrel
    by_cases hlt : i < ns.length
    · have i1 : (i : Int) < ns.length := by omega
      have i2 : (i : Int) < ss.length := by have := HL1.out; omega
      have i3 : (i : Int) < vs.length := by have := HL2.out; omega
      have j2 : i < ss.length := by omega
      have j3 : i < vs.length := by omega
      obtain ⟨b1, o1, rfl, hb1, hc1⟩ := HT1.out i hlt
      obtain ⟨b2, o2, rfl, hb2, hc2⟩ := HT2.out i j2
      obtain ⟨b3, o3, rfl, hb3, hc3⟩ := HT3.out i j3
      rw [← getD_at hlt] at hc1
      rw [← getD_at j2] at hc2
      rw [← getD_at j3] at hc3
      have HF : Hid (rfAt ns ss vs i = ⟨ns.getD i ByteArray.empty, cmB (ns.getD i ByteArray.empty) (ss.getD i ByteArray.empty) (vs.getD i ByteArray.empty), ss.getD i ByteArray.empty, vs.getD i ByteArray.empty, false⟩) := rfl
      have hq1 : (ns.getD i ByteArray.empty).size ≤ maxLen := by rw [getD_at hlt]; exact HZ.out.1 _ (List.getElem_mem hlt)
      have hq2 : (ss.getD i ByteArray.empty).size ≤ maxLen := by rw [getD_at j2]; exact HZ.out.2.1 _ (List.getElem_mem j2)
      have hq3 : (vs.getD i ByteArray.empty).size ≤ maxLen := by rw [getD_at j3]; exact HZ.out.2.2 _ (List.getElem_mem j3)
      have HQ : Hid (∀ x, Calls Tryz.prog 165 #[.string (ns.getD i ByteArray.empty), .string (ss.getD i ByteArray.empty), .string (vs.getD i ByteArray.empty)] x fun e w' => e = .returned (.string (cmB (ns.getD i ByteArray.empty) (ss.getD i ByteArray.empty) (vs.getD i ByteArray.empty))) ∧ Below x.heap.size x w') := fun x => specCommitOf_any _ _ _ x hq1 hq2 hq3
      have HSu : Hid (rfTo ns ss vs (i + 1) = rfTo ns ss vs i ++ [rfAt ns ss vs i]) := rfTo_succ _ _ _ _
      have HLn : Hid ((rfTo ns ss vs i).length = i) := rfTo_len _ _ _ _
      generalize cmB (ns.getD i ByteArray.empty) (ss.getD i ByteArray.empty) (vs.getD i ByteArray.empty) = fc at *
      generalize ns.getD i ByteArray.empty = fn at *
      generalize ss.getD i ByteArray.empty = fss at *
      generalize vs.getD i ByteArray.empty = fv at *
      have BR : Hid (Below wr.heap.size wr wr.drew) := (Below.refl _ _).drew
      have HC : Hid (∀ x, Below w.heap.size w x → x.cell? ⟨b1, o1 + i, none⟩ = some (.string fn) ∧ x.cell? ⟨b2, o2 + i, none⟩ = some (.string fss) ∧ x.cell? ⟨b3, o3 + i, none⟩ = some (.string fv)) := fun x hx => ⟨(hx.cell (p := ⟨b1, o1 + i, none⟩) hb1).trans hc1, (hx.cell (p := ⟨b2, o2 + i, none⟩) hb2).trans hc2, (hx.cell (p := ⟨b3, o3 + i, none⟩) hb3).trans hc3⟩
      have HY : Hid (∀ x, Below wr.heap.size wr x → x.cell? ⟨w.heap.size + 1, 2, none⟩ = some v ∧ x.cell? ⟨b1, o1 + i, none⟩ = some (.string fn) ∧ x.cell? ⟨b2, o2 + i, none⟩ = some (.string fss) ∧ x.cell? ⟨b3, o3 + i, none⟩ = some (.string fv)) := fun x hx => ⟨(hS.out.below hx).box.cell 2, HC.out x (chainB hS.out.bel hx)⟩
      have HA : Hid (∀ y, Below wr.heap.size wr y → ∃ g c y2, (Builtin.append_ #[98, 98] 98 #[v, .slice (some ⟨y.heap.size, 0, none⟩) 1 1]).run Tryz.prog (y.alloc (.cells #[.string fn, .string fc, .string fss, .string fv, .bool false] 122)) = .ok (.slice (some ⟨g, 0, none⟩) (i + 1) c) y2 ∧
          Hid (RoS w k at_ (.slice (some ⟨g, 0, none⟩) (i + 1) c) (rfTo ns ss vs (i + 1)) (y2.setCell ⟨w.heap.size + 1, 2, none⟩ (.slice (some ⟨g, 0, none⟩) (i + 1) c))) ∧ y2.cell? ⟨w.heap.size + 1, 2, none⟩ = some v ∧ y2.frozen? ⟨w.heap.size + 1, 2, none⟩ = false ∧ Hid (Below w.heap.size w y2)) := by
        intro y hy
        have hSy := hS.out.below hy
        obtain ⟨g, c, y2, h1, h2, h3, h4⟩ := app_fld y w.heap.size v (rfTo ns ss vs i) hSy.own fn fc fss fv false (by rw [HLn.out]; have := HL3.out; omega) hSy.bel.size
        rw [← HF.out, ← HSu.out] at h2
        rw [HLn.out] at h1 h2
        obtain ⟨r1, r2, r3, r4⟩ := hSy.append _ h3 h2
        exact ⟨g, c, y2, h1, r1, r2, r3, r4⟩
      clear hc1 hc2 hc3 hq1 hq2 hq3 HF HSu HLn hb1 hb2 hb3 hS
      go_upto_region 9 with fail
      refine region_till (fun w' => w'.cell? ⟨w.heap.size + 1, 2, none⟩ = some v ∧ w'.cell? ⟨b1, o1 + i, none⟩ = some (.string fn) ∧ w'.cell? ⟨b2, o2 + i, none⟩ = some (.string fss) ∧ w'.cell? ⟨b3, o3 + i, none⟩ = some (.string fv)) 31 (by kernel_rfl) (HY.out _ BR.out) (fun hHeld => ?_)
      refine till_take 0 (v := ?_) rfl (by kernel_rfl) (by kernel_rfl) (by kernel_rfl) (by kernel_rfl) (fun _ _ _ h => h) hHeld (Or.inl ⟨by rfl, ?_⟩) ?_
      rotate_left
      · (intro w hSw; (try dsimp only at hSw); go_simp; try with_reducible rfl)
      simp only [Act.put, List.setIfInBounds_toArray, List.set_cons_zero, List.set_cons_succ]
      refine till_take 1 (v := ?_) rfl (by kernel_rfl) (by kernel_rfl) (by kernel_rfl) (by kernel_rfl) (fun _ _ _ h => h) hHeld (Or.inl ⟨by rfl, ?_⟩) ?_
      rotate_left
      · (intro w hSw; (try dsimp only at hSw); go_simp; try with_reducible rfl)
      simp only [Act.put, List.setIfInBounds_toArray, List.set_cons_zero, List.set_cons_succ]
      refine till_take 2 (v := ?_) rfl (by kernel_rfl) (by kernel_rfl) (by kernel_rfl) (by kernel_rfl) (fun _ _ _ h => h) hHeld (Or.inl ⟨by rfl, ?_⟩) ?_
      rotate_left
      · (intro w hSw; (try dsimp only at hSw); go_simp; try with_reducible rfl)
      simp only [Act.put, List.setIfInBounds_toArray, List.set_cons_zero, List.set_cons_succ]
      refine till_take 3 (v := ?_) rfl (by kernel_rfl) (by kernel_rfl) (by kernel_rfl) (by kernel_rfl) (fun _ _ _ h => h) hHeld (Or.inl ⟨by rfl, ?_⟩) ?_
      rotate_left
      · (intro w hSw; (try dsimp only at hSw); go_simp; try with_reducible rfl)
      simp only [Act.put, List.setIfInBounds_toArray, List.set_cons_zero, List.set_cons_succ]
      refine till_take 4 (v := ?_) rfl (by kernel_rfl) (by kernel_rfl) (by kernel_rfl) (by kernel_rfl) (fun _ _ _ h => h) hHeld (Or.inl ⟨by rfl, ?_⟩) ?_
      rotate_left
      · (intro w hSw; (try dsimp only at hSw); go_simp; try with_reducible rfl)
      simp only [Act.put, List.setIfInBounds_toArray, List.set_cons_zero, List.set_cons_succ]
      refine till_take 5 (v := ?_) rfl (by kernel_rfl) (by kernel_rfl) (by kernel_rfl) (by kernel_rfl) (fun _ _ _ h => h) hHeld (Or.inl ⟨by rfl, ?_⟩) ?_
      rotate_left
      · (intro w hSw; (try dsimp only at hSw); go_simp; try with_reducible rfl)
      simp only [Act.put, List.setIfInBounds_toArray, List.set_cons_zero, List.set_cons_succ]
      refine till_take 6 (v := ?_) rfl (by kernel_rfl) (by kernel_rfl) (by kernel_rfl) (by kernel_rfl) (fun _ _ _ h => h) hHeld (Or.inl ⟨by rfl, ?_⟩) ?_
      rotate_left
      · (intro w hSw; (try dsimp only at hSw); go_simp; try with_reducible rfl)
      simp only [Act.put, List.setIfInBounds_toArray, List.set_cons_zero, List.set_cons_succ]
      refine till_take 7 (v := ?_) rfl (by kernel_rfl) (by kernel_rfl) (by kernel_rfl) (by kernel_rfl) (fun _ _ _ h => h) hHeld (Or.inl ⟨by rfl, ?_⟩) ?_
      rotate_left
      · (intro w hSw; (try dsimp only at hSw); go_simp; try with_reducible rfl)
      simp only [Act.put, List.setIfInBounds_toArray, List.set_cons_zero, List.set_cons_succ]
      refine till_take 8 (v := ?_) rfl (by kernel_rfl) (by kernel_rfl) (by kernel_rfl) (by kernel_rfl) (fun _ _ _ h => h) hHeld (Or.inl ⟨by rfl, ?_⟩) ?_
      rotate_left
      · (intro w hSw; (try dsimp only at hSw); go_simp; try with_reducible rfl)
      simp only [Act.put, List.setIfInBounds_toArray, List.set_cons_zero, List.set_cons_succ]
      refine till_take 9 (v := ?_) rfl (by kernel_rfl) (by kernel_rfl) (by kernel_rfl) (by kernel_rfl) (fun _ _ _ h => h) hHeld (Or.inl ⟨by rfl, ?_⟩) ?_
      rotate_left
      · (intro w hSw; (try dsimp only at hSw); go_simp; try with_reducible rfl)
      simp only [Act.put, List.setIfInBounds_toArray, List.set_cons_zero, List.set_cons_succ]
      refine till_take 10 (v := ?_) rfl (by kernel_rfl) (by kernel_rfl) (by kernel_rfl) (by kernel_rfl) (fun _ _ _ h => h) hHeld (Or.inl ⟨by rfl, ?_⟩) ?_
      rotate_left
      · (intro w hSw; (try dsimp only at hSw); go_simp; try with_reducible rfl)
      simp only [Act.put, List.setIfInBounds_toArray, List.set_cons_zero, List.set_cons_succ]
      refine till_take 11 (v := ?_) rfl (by kernel_rfl) (by kernel_rfl) (by kernel_rfl) (by kernel_rfl) (fun _ _ _ h => h) hHeld (Or.inl ⟨by rfl, ?_⟩) ?_
      rotate_left
      · (intro w hSw; (try dsimp only at hSw); go_simp; try with_reducible rfl)
      simp only [Act.put, List.setIfInBounds_toArray, List.set_cons_zero, List.set_cons_succ]
      refine till_take 12 (v := ?_) rfl (by kernel_rfl) (by kernel_rfl) (by kernel_rfl) (by kernel_rfl) (fun _ _ _ h => h) hHeld (Or.inl ⟨by rfl, ?_⟩) ?_
      rotate_left
      · (intro w hSw; (try dsimp only at hSw); go_simp; try with_reducible rfl)
      simp only [Act.put, List.setIfInBounds_toArray, List.set_cons_zero, List.set_cons_succ]
      refine till_take 13 (v := ?_) rfl (by kernel_rfl) (by kernel_rfl) (by kernel_rfl) (by kernel_rfl) (fun _ _ _ h => h) hHeld (Or.inl ⟨by rfl, ?_⟩) ?_
      rotate_left
      · (intro w hSw; (try dsimp only at hSw); go_simp; try with_reducible rfl)
      simp only [Act.put, List.setIfInBounds_toArray, List.set_cons_zero, List.set_cons_succ]
      refine till_take 14 (v := ?_) rfl (by kernel_rfl) (by kernel_rfl) (by kernel_rfl) (by kernel_rfl) (fun _ _ _ h => h) hHeld (Or.inl ⟨by rfl, ?_⟩) ?_
      rotate_left
      · (intro w hSw; (try dsimp only at hSw); go_simp; try with_reducible rfl)
      simp only [Act.put, List.setIfInBounds_toArray, List.set_cons_zero, List.set_cons_succ]
      refine till_take 15 (v := ?_) rfl (by kernel_rfl) (by kernel_rfl) (by kernel_rfl) (by kernel_rfl) (fun _ _ _ h => h) hHeld (Or.inl ⟨by rfl, ?_⟩) ?_
      rotate_left
      · (intro w hSw; (try dsimp only at hSw); go_simp; try with_reducible rfl)
      simp only [Act.put, List.setIfInBounds_toArray, List.set_cons_zero, List.set_cons_succ]
      refine till_take 16 (v := ?_) rfl (by kernel_rfl) (by kernel_rfl) (by kernel_rfl) (by kernel_rfl) (fun _ _ _ h => h) hHeld (Or.inl ⟨by rfl, ?_⟩) ?_
      rotate_left
      · (intro w hSw; (try dsimp only at hSw); go_simp; try with_reducible rfl)
      simp only [Act.put, List.setIfInBounds_toArray, List.set_cons_zero, List.set_cons_succ]
      refine till_take 17 (v := ?_) rfl (by kernel_rfl) (by kernel_rfl) (by kernel_rfl) (by kernel_rfl) (fun _ _ _ h => h) hHeld (Or.inl ⟨by rfl, ?_⟩) ?_
      rotate_left
      · (intro w hSw; (try dsimp only at hSw); go_simp; try with_reducible rfl)
      simp only [Act.put, List.setIfInBounds_toArray, List.set_cons_zero, List.set_cons_succ]
      refine till_take 19 (v := ?_) rfl (by kernel_rfl) (by kernel_rfl) (by kernel_rfl) (by kernel_rfl) (fun _ _ _ h => h) hHeld (Or.inl ⟨by rfl, ?_⟩) ?_
      rotate_left
      · (intro w hSw; (try dsimp only at hSw); go_simp; try with_reducible rfl)
      simp only [Act.put, List.setIfInBounds_toArray, List.set_cons_zero, List.set_cons_succ]
      refine till_take 20 (v := ?_) rfl (by kernel_rfl) (by kernel_rfl) (by kernel_rfl) (by kernel_rfl) (fun _ _ _ h => h) hHeld (Or.inl ⟨by rfl, ?_⟩) ?_
      rotate_left
      · (intro w hSw; (try dsimp only at hSw); go_simp; try with_reducible rfl)
      simp only [Act.put, List.setIfInBounds_toArray, List.set_cons_zero, List.set_cons_succ]
      refine till_take 21 (v := ?_) rfl (by kernel_rfl) (by kernel_rfl) (by kernel_rfl) (by kernel_rfl) (fun _ _ _ h => h) hHeld (Or.inl ⟨by rfl, ?_⟩) ?_
      rotate_left
      · (intro w hSw; (try dsimp only at hSw); go_simp; try with_reducible rfl)
      simp only [Act.put, List.setIfInBounds_toArray, List.set_cons_zero, List.set_cons_succ]
      refine till_take 22 (v := ?_) rfl (by kernel_rfl) (by kernel_rfl) (by kernel_rfl) (by kernel_rfl) (fun _ _ _ h => h) hHeld (Or.inl ⟨by rfl, ?_⟩) ?_
      rotate_left
      · (intro w hSw; (try dsimp only at hSw); go_simp; try with_reducible rfl)
      simp only [Act.put, List.setIfInBounds_toArray, List.set_cons_zero, List.set_cons_succ]
      refine till_take 23 (v := ?_) rfl (by kernel_rfl) (by kernel_rfl) (by kernel_rfl) (by kernel_rfl) (fun _ _ _ h => h) hHeld (Or.inl ⟨by rfl, ?_⟩) ?_
      rotate_left
      · (intro w hSw; (try dsimp only at hSw); go_simp; try with_reducible rfl)
      simp only [Act.put, List.setIfInBounds_toArray, List.set_cons_zero, List.set_cons_succ]
      refine till_take 24 (v := ?_) rfl (by kernel_rfl) (by kernel_rfl) (by kernel_rfl) (by kernel_rfl) (fun _ _ _ h => h) hHeld (Or.inl ⟨by rfl, ?_⟩) ?_
      rotate_left
      · (intro w hSw; (try dsimp only at hSw); go_simp; try with_reducible rfl)
      simp only [Act.put, List.setIfInBounds_toArray, List.set_cons_zero, List.set_cons_succ]
      refine till_take 25 (v := ?_) rfl (by kernel_rfl) (by kernel_rfl) (by kernel_rfl) (by kernel_rfl) (fun _ _ _ h => h) hHeld (Or.inl ⟨by rfl, ?_⟩) ?_
      rotate_left
      · (intro w hSw; (try dsimp only at hSw); go_simp; try with_reducible rfl)
      simp only [Act.put, List.setIfInBounds_toArray, List.set_cons_zero, List.set_cons_succ]
      refine till_take 26 (v := ?_) rfl (by kernel_rfl) (by kernel_rfl) (by kernel_rfl) (by kernel_rfl) (fun _ _ _ h => h) hHeld (Or.inl ⟨by rfl, ?_⟩) ?_
      rotate_left
      · (intro w hSw; (try dsimp only at hSw); go_simp; try with_reducible rfl)
      simp only [Act.put, List.setIfInBounds_toArray, List.set_cons_zero, List.set_cons_succ]
      refine till_ready 18 rfl (by kernel_rfl) (fun K hK => ?_)
      go_simp; (go_at_call 165; with_reducible refine (HQ.out _).mono ?_; rintro e y1 ⟨rfl, z0⟩; have z1 : Below wr.heap.size wr y1 := chainB BR.out z0)
      refine hK.out _ _ (HY.out _ z1) (fun hHeld => ?_)
      clear hK K
      try simp only [Act.put, List.setIfInBounds_toArray, List.set_cons_zero, List.set_cons_succ]
      refine till_take 27 (v := ?_) rfl (by kernel_rfl) (by kernel_rfl) (by kernel_rfl) (by kernel_rfl) (fun _ _ _ h => h) hHeld (Or.inl ⟨by rfl, ?_⟩) ?_
      rotate_left
      · (intro w hSw; (try dsimp only at hSw); go_simp; try with_reducible rfl)
      simp only [Act.put, List.setIfInBounds_toArray, List.set_cons_zero, List.set_cons_succ]
      refine till_ready 28 rfl (by kernel_rfl) (fun K hK => ?_)
      go_simp
      refine hK.out _ _ (HY.out _ (alB z1 _)) (fun hHeld => ?_)
      clear hK K
      try simp only [Act.put, List.setIfInBounds_toArray, List.set_cons_zero, List.set_cons_succ]
      refine till_ready 29 rfl (by kernel_rfl) (fun K hK => ?_)
      obtain ⟨g, cp, y2, hrun, S8, c7, f7, B7⟩ := HA.out y1 z1; refine step_append_run rfl _ _ 98 rfl v (.slice (some ⟨y1.heap.size, 0, none⟩) 1 1) _ _ rfl rfl hrun ?_
      refine hK.out _ _ (⟨c7, HC.out _ B7.out⟩) (fun hHeld => ?_)
      clear hK K
      try simp only [Act.put, List.setIfInBounds_toArray, List.set_cons_zero, List.set_cons_succ]
      refine till_take 30 (v := ?_) rfl (by kernel_rfl) (by kernel_rfl) (by kernel_rfl) (by kernel_rfl) (fun _ _ _ h => h) hHeld (Or.inl ⟨by rfl, ?_⟩) ?_
      rotate_left
      · (intro w hSw; (try dsimp only at hSw); go_simp; try with_reducible rfl)
      simp only [Act.put, List.setIfInBounds_toArray, List.set_cons_zero, List.set_cons_succ]
      refine till_last rfl (by kernel_rfl) (by kernel_rfl) (fun K hK => ?_)
      go_simp
      refine hK.out _ _ ?_
      clear hK K
      have hn3 := HL3.out
      go_wp2_with fail
      go_roundw
      case rel => exact ⟨i + 1, _, by omega, by go_num, S8⟩
      case measure => simp [Go.RowKit.intOf]; omega
    · obtain rfl : i = ns.length := by omega
      obtain ⟨q, cc, rfl, hcc, hff⟩ := ownF_form hS.out.own
      have HLn : Hid ((rfTo ns ss vs ns.length).length = ns.length) := rfTo_len _ _ _ _
      have hRR := specRowRight_any k at_ q cc (rfTo ns ss vs ns.length) wr hff (by rw [HLn.out]; have := HL3.out; omega) hcc HK.out HLE.out
      obtain ⟨FS, hFS⟩ : ∃ FS, FS = rfTo ns ss vs ns.length := ⟨_, rfl⟩
      have HFS : Hid (FS = rfTo ns ss vs ns.length) := hFS
      rw [← hFS] at hRR hS HC0 HLn hff hcc
      clear hFS
      obtain ⟨x0, x1, x2⟩ : wr.cell? ⟨w.heap.size + 1, 0, none⟩ = some (.string k) ∧ wr.cell? ⟨w.heap.size + 1, 1, none⟩ = some (.int .i64 at_) ∧ wr.cell? ⟨w.heap.size + 1, 2, none⟩ = some (.slice q FS.length cc) := ⟨hS.out.box.cell 0, hS.out.box.cell 1, hS.out.box.cell 2⟩
      clear hff hcc HLn
      cases hr : rwB k at_ FS with
      | false =>
        have hC : Hid (roC k at_ ns ss vs = 1) := by show _ = _; rw [HC0.out, if_neg (by rw [hr]; exact Bool.false_ne_true)]
        rw [hr] at hRR
        clear hr
        go_wp2_with fail
        refine hRR.mono ?_
        rintro e y1 ⟨rfl, b1⟩
        go_wp2_with fail
        refine (l07Ill_any 1 y1).mono ?_
        rintro e y2 ⟨rfl, b2⟩
        have S2 := hS.out.below (chainB b1 b2)
        have HE := fun x0 x1 x2 x3 => HEr.out y2 1 x0 x1 x2 x3 S2.bel hC.out (by omega)
        obtain ⟨r0, r1, r2, r3⟩ := S2.res.four
        obtain ⟨f0, f1, f2, f3⟩ := And.intro (S2.res.fr 0) (And.intro (S2.res.fr 1) (And.intro (S2.res.fr 2) (S2.res.fr 3)))
        clear HEr S2 b1 b2 x0 x1 x2 hS
        go_wp2_with fail
        refine bodyPost_ret (v := .agg #[.string ByteArray.empty, .int .i64 0, .slice none 0 0, .int .i64 1]) (by simp [results, Tryz.results140, go_sem, r0, r1, r2, r3]) rfl ?_
        exact HE _ _ _ _
      | true =>
        have hC : Hid (roC k at_ ns ss vs = 0) := by show _ = _; rw [HC0.out, if_pos hr]
        have HK2 : Hid (roK k at_ ns ss vs = k) := if_pos hC.out
        have HA2 : Hid (roA k at_ ns ss vs = at_) := if_pos hC.out
        have HF2 : Hid (roF k at_ ns ss vs = FS) := by rw [HFS.out]; exact if_pos hC.out
        rw [hr] at hRR
        clear hr
        go_wp2_with fail
        refine hRR.mono ?_
        rintro e y1 ⟨rfl, b1⟩
        have S2 := hS.out.below b1
        have HD := S2.done
        obtain ⟨r0, r1, r2, r3⟩ := S2.res.four
        obtain ⟨f0, f1, f2, f3⟩ := And.intro (S2.res.fr 0) (And.intro (S2.res.fr 1) (And.intro (S2.res.fr 2) (S2.res.fr 3)))
        obtain ⟨x0, x1, x2⟩ : y1.cell? ⟨w.heap.size + 1, 0, none⟩ = some (.string k) ∧ y1.cell? ⟨w.heap.size + 1, 1, none⟩ = some (.int .i64 at_) ∧ y1.cell? ⟨w.heap.size + 1, 2, none⟩ = some (.slice q FS.length cc) := ⟨S2.box.cell 0, S2.box.cell 1, S2.box.cell 2⟩
        clear HEr S2 b1 hS
        have HD : Hid (∀ x0 x1 x2 x3, _) := HD
        go_wp2_with fail
        refine bodyPost_ret (v := .agg #[.string k, .int .i64 at_, .slice q FS.length cc, .int .i64 0]) (by simp [results, Tryz.results140, go_sem, r0, r1, r2, r3]) rfl ?_
        rw [HK2.out, HA2.out, HF2.out, hC.out]
        exact ⟨_, rfl, HD.out _ _ _ _⟩
end Go.Proofs.YtonleickhincgaaGreatDoor
