/-
  Parts of one proof, laid as one text: OpP, OpH, TabsOf, TabEt; what each says stands at its head.
-/
import Derived.Test.YtpijadhfdpihkaaGreatDoorRows
import Derived.Test.YtpijadhfdpihkaaGreatDoorBytesDigMath
import Derived.Test.YtpijadhfdpihkaaGreatDoorSlASlBBxKOwnS
import Derived.Test.YtpijadhfdpihkaaGreatDoorRwBlkBlNotRulMathIntKPolMathTakes
import Derived.WalkKit
import Derived.ProofKit
import Derived.OpenShut
import Derived.Deep.Slices
import Derived.ChangeSame
import Derived.ChangeSlices
import Derived.Test.YtpijadhfdpihkaaGreatDoorOpFOpLg
import Derived.ShutString
import Derived.ChangeOld
import Derived.Below
import Derived.Handy
import Derived.Test.YtpijadhfdpihkaaGreatDoorBlockI
import Derived.Lib.LaidTab
import Derived.Lib.LaidU8
import Derived.Test.YtpijadhfdpihkaaGreatDoorAsDAs2CodeOfTimeIGrK
import Derived.LaidHandle
/-
  Rules and policies that came in: what the opened data of a law's parameter says of the cells.
-/
namespace Go.Proofs.YtpijadhfdpihkaaGreatDoor
open Go.ChangeShapes Go.WideShapes Go.ChangeAt Go.RowKit Go.Deep
set_option linter.unusedVariables false
set_option maxRecDepth 100000

instance : Inhabited Rul := ⟨⟨ByteArray.empty, ByteArray.empty, 0, 0⟩⟩
def RulLe (f : Rul) : Prop := f.k.size ≤ maxLen ∧ f.f.size ≤ maxLen
theorem rul_of {H : Type} {enc : TypeId × Value → H} {W : World} {base fuel : Nat} {cs : List Value} {x : DataW H × List MemPlace}
    (h : DataW.trod enc Tryz.prog W base (fun _ => true) true fuel 90 cs = some x) : ∃ f : Rul, cs = [.string f.k, .string f.f, .int .i64 f.l, .int .i64 f.m] ∧ RulLe f := by
  obtain ⟨xs, n, hk, hxy, hl, hxl, hf⟩ := DataW.trod_struct Tryz.underlying90 h
  have hl : cs.length = 4 := hl.trans (by kernel_rfl)
  have e0 : Tryz.prog.cellsOf 9 = 1 := by kernel_rfl
  have e1 : Tryz.prog.cellsOf 2 = 1 := by kernel_rfl
  have g0 : DataW.trod enc Tryz.prog W base (fun _ => true) true n 9 ((cs.drop 0).take (Tryz.prog.cellsOf 9)) = xs[0]? := hf 0 _ rfl
  have g1 : DataW.trod enc Tryz.prog W base (fun _ => true) true n 9 ((cs.drop 1).take (Tryz.prog.cellsOf 9)) = xs[1]? := hf 1 _ rfl
  have g2 : DataW.trod enc Tryz.prog W base (fun _ => true) true n 2 ((cs.drop 2).take (Tryz.prog.cellsOf 2)) = xs[2]? := hf 2 _ rfl
  have g3 : DataW.trod enc Tryz.prog W base (fun _ => true) true n 2 ((cs.drop 3).take (Tryz.prog.cellsOf 2)) = xs[3]? := hf 3 _ rfl
  clear hf
  match xs, hxl, cs, hl with
  | [y0, y1, y2, y3], _, [c0, c1, c2, c3], _ =>
    simp only [e0, e1, List.drop_zero, List.take_succ_cons, List.take_zero, List.drop_succ_cons, List.getElem?_cons_zero, List.getElem?_cons_succ] at g0 g1 g2 g3
    obtain ⟨s0, h0, _, z0⟩ := DataW.trod_string Tryz.underlying9 g0
    obtain ⟨s1, h1, _, z1⟩ := DataW.trod_string Tryz.underlying9 g1
    obtain ⟨i2, h2, _, _⟩ := DataW.trod_int Tryz.underlying2 g2
    obtain ⟨i3, h3, _, _⟩ := DataW.trod_int Tryz.underlying2 g3
    simp only [List.cons.injEq, and_true] at h0 h1 h2 h3
    subst h0 h1 h2 h3
    exact ⟨⟨s0, s1, i2, i3⟩, rfl, z0, z1⟩
theorem addN_none (b off j : Nat) : (⟨b, off, none⟩ : Addr).add j = ⟨b, off + j, none⟩ := by unfold Addr.add; split <;> simp_all
/-- What a walk is told of a slice of rules that came in. -/
def IsRuls (w : World) (a : Option Addr) (len cap : Nat) (fs : List Rul) : Prop :=
  fs.length = len ∧ RulAt w a fs ∧ len ≤ cap ∧ cap ≤ maxLen ∧ RulsLe fs
theorem ruls_of {H : Type} {enc : TypeId × Value → H} {W : World} {base fuel : Nat} {x : DataW H × List MemPlace} {cs : List Value}
    (h : DataW.trod enc Tryz.prog W base (fun _ => true) true fuel 26 cs = some x) : ∃ a len cap fs, cs = [.slice a len cap] ∧ IsRuls W a len cap fs := by
  have ce : Tryz.prog.cellsOf 90 = 4 := by kernel_rfl
  rcases open_slice Tryz.underlying26 h with ⟨hcs, _⟩ | ⟨ad, len, cap, m, n, D, Pl, hcs, _, hl, hm, hmm, _, hx⟩
  · exact ⟨none, 0, 0, [], hcs, rfl, RulAt.nil _ _, Nat.le_refl _, by unfold maxLen; omega, fun x hx => by cases hx⟩
  · have hmm : m = cap := hmm
    subst hmm
    have each : ∀ i, i < m → ∃ f : Rul, (W.cell? (ad.add (i * 4)) = some (.string f.k) ∧ W.cell? (ad.add (i * 4 + 1)) = some (.string f.f) ∧ W.cell? (ad.add (i * 4 + 2)) = some (.int .i64 f.l) ∧ W.cell? (ad.add (i * 4 + 3)) = some (.int .i64 f.m)) ∧ RulLe f := by
      intro i hi
      obtain ⟨cs', h1, h2⟩ := hx i hi
      rw [ce] at h1
      obtain ⟨_, hlen, hcell⟩ := World.cells?_some h1
      obtain ⟨f, rfl, hz⟩ := rul_of h2
      have e0 := hcell 0 (by omega)
      have e1 := hcell 1 (by omega)
      have e2 := hcell 2 (by omega)
      have e3 := hcell 3 (by omega)
      rw [add_add] at e0 e1 e2 e3
      exact ⟨f, ⟨by simpa using e0, by simpa using e1, by simpa using e2, by simpa using e3⟩, hz⟩
    obtain ⟨F, hF⟩ := choose_lt each
    refine ⟨some ad, len, m, (List.range len).map F, hcs, by simp, ?_, hl, hm, ?_⟩
    · intro i hi
      have hi2 : i < len := by simpa using hi
      obtain ⟨b, off, spot⟩ := ad
      obtain ⟨⟨q0, q1, q2, q3⟩, -⟩ := hF i (by omega)
      have q00 := (hF 0 (by omega)).1.1
      rw [Nat.zero_mul] at q00
      have hspot : spot = none := by simpa [Addr.add] using World.cell?_spot q00
      subst hspot
      rw [addN_none] at q0 q1 q2 q3
      have he : ((List.range len).map F)[i] = F i := by simp
      rw [he]
      refine ⟨b, off, rfl, World.block_lt_of_cell? W _ q0, q0, ?_, ?_, ?_⟩
      · rw [Nat.add_assoc]; exact q1
      · rw [Nat.add_assoc]; exact q2
      · rw [Nat.add_assoc]; exact q3
    · intro f hf
      obtain ⟨i, hi, rfl⟩ := List.mem_map.1 hf
      exact (hF i (by have := List.mem_range.1 hi; omega)).2
/-- What the walk is told of a slice of numbers that came in. -/
def IsIntsP (w : World) (a : Option Addr) (len cap : Nat) (ks : List Int) : Prop :=
  ks.length = len ∧ IntAt w a ks ∧ len ≤ cap ∧ cap ≤ maxLen
theorem intsP_of {H : Type} {enc : TypeId × Value → H} {W : World} {base : Nat} {fuel : Nat} {x : DataW H × List MemPlace} {a : Option Addr} {len cap : Nat}
    (h : DataW.trod enc Tryz.prog W base (fun _ => true) true fuel 27 [.slice a len cap] = some x) : ∃ ks, IsIntsP W a len cap ks := by
  rcases open_ints Tryz.underlying27 Tryz.underlying2 (by kernel_rfl) h with ⟨hcs, _⟩ | ⟨ad, l, c, zs, hcs, _, hl, hm, hz, _, hx, _⟩
  · simp at hcs
    obtain ⟨rfl, rfl, rfl⟩ := hcs
    exact ⟨[], rfl, IntAt.nil _ _, Nat.le_refl _, by unfold maxLen; omega⟩
  · simp at hcs
    obtain ⟨rfl, rfl, rfl⟩ := hcs
    rw [if_pos rfl] at hz
    refine ⟨zs.take len, by simp; omega, ?_, hl, hm⟩
    intro i hi
    have hi2 : i < len := by simp at hi; omega
    obtain ⟨b, off, spot⟩ := ad
    have hc := hx i (by omega)
    have hspot : spot = none := by simpa [Addr.add] using World.cell?_spot (hx 0 (by omega))
    subst hspot
    have hadd : (⟨b, off, none⟩ : Addr).add i = ⟨b, off + i, none⟩ := by unfold Addr.add; split <;> simp_all
    rw [hadd] at hc
    refine ⟨b, off, rfl, World.block_lt_of_cell? W _ hc, ?_⟩
    rw [hc, List.getElem_take, List.getD_eq_getElem?_getD, List.getElem?_eq_getElem (by omega)]
    rfl
theorem open_rule {H : Type} {enc : TypeId × Value → H} {W : World} {base : Nat} {v : Value} {d : DataW H} {ps : List MemPlace} (hval : Value.okWide Tryz.prog W .any base 90 v)
    (h : DataW.Trod enc Tryz.prog W 0 (fun _ => true) true 90 v d ps) : ∃ f : Rul, v = .agg #[.string f.k, .string f.f, .int .i64 f.l, .int .i64 f.m] ∧ RulLe f := by
  obtain ⟨cs, rfl, hsz⟩ := okWide_struct Tryz.underlying90 hval
  obtain ⟨fuel, hf⟩ := h
  obtain ⟨f, hc, hz⟩ := rul_of hf
  refine ⟨f, ?_, hz⟩
  simp only [Value.cells] at hc
  rw [show cs = #[.string f.k, .string f.f, .int .i64 f.l, .int .i64 f.m] from by cases cs; simp_all]
theorem open_policy {H : Type} {enc : TypeId × Value → H} {W : World} {base : Nat} {v : Value} {d : DataW H} {qs : List MemPlace} (hval : Value.okWide Tryz.prog W .any base 29 v)
    (h : DataW.Trod enc Tryz.prog W 0 (fun _ => true) true 29 v d qs) : ∃ a1 len1 cap1 a2 len2 cap2, v = .agg #[.slice a1 len1 cap1, .slice a2 len2 cap2] ∧ (∃ ss, IsRuls W a1 len1 cap1 ss) ∧ ∃ ps, IsIntsP W a2 len2 cap2 ps := by
  obtain ⟨cs, rfl, hsz⟩ := okWide_struct Tryz.underlying29 hval
  have h2 : cs.size = 2 := hsz.trans (by kernel_rfl)
  obtain ⟨fuel, hf⟩ := h
  obtain ⟨y0, y1, m, _, _, ht0, ht1⟩ := trod_struct2 Tryz.underlying29 hf
  obtain ⟨c0, c1, rfl⟩ : ∃ c0 c1, cs = #[c0, c1] := by
    match cs, h2 with
    | ⟨[c0, c1]⟩, _ => exact ⟨c0, c1, rfl⟩
  have e0 : Tryz.prog.cellsOf 26 = 1 := by kernel_rfl
  have e1 : Tryz.prog.cellsOf 27 = 1 := by kernel_rfl
  simp only [Value.cells, e0, e1, List.drop_zero, List.take_succ_cons, List.take_zero, List.drop_succ_cons] at ht0 ht1
  obtain ⟨a1, l1, k1, ss, hr, w1⟩ := ruls_of ht0
  simp at hr
  subst hr
  rcases open_ints Tryz.underlying27 Tryz.underlying2 (by kernel_rfl) ht1 with ⟨hcs, _⟩ | ⟨ad, l, c, zs, hcs, _⟩
  · simp at hcs
    subst hcs
    exact ⟨a1, l1, k1, _, _, _, rfl, ⟨ss, w1⟩, intsP_of ht1⟩
  · simp at hcs
    subst hcs
    exact ⟨a1, l1, k1, _, _, _, rfl, ⟨ss, w1⟩, intsP_of ht1⟩
end Go.Proofs.YtpijadhfdpihkaaGreatDoor
/-
  A House that came in, as the walk is told of it.
-/
namespace Go.Proofs.YtpijadhfdpihkaaGreatDoor
open Go.ChangeShapes Go.WideShapes Go.ChangeAt Go.RowKit
set_option linter.unusedVariables false
set_option maxRecDepth 100000

/-- What the walk is told of a House. -/
def IsHse (w : World) (q : Option Addr) (cq : Nat) (rs : List Rw) (p : Option Addr) (cp : Nat) (lv : List ByteArray) (now : Int) (p1 : Option Addr) (c1 : Nat) (ru : List Rul) (p2 : Option Addr) (c2 : Nat) (hs : List Int) : Prop :=
  IsLog w q cq rs p cp lv now ∧ IsRuls w p1 ru.length c1 ru ∧ IsIntsP w p2 hs.length c2 hs
theorem open_house {H : Type} {enc : TypeId × Value → H} {W : World} {base : Nat} {v : Value} {d : DataW H} {ps : List MemPlace} (hval : Value.okWide Tryz.prog W .any base 31 v)
    (h : DataW.Trod enc Tryz.prog W 0 (fun _ => true) true 31 v d ps) : ∃ q cq rs p cp lv now p1 c1 ru p2 c2 hs, v = .agg #[.slice q rs.length cq, .slice p lv.length cp, .int .i64 now, .slice p1 ru.length c1, .slice p2 hs.length c2] ∧ IsHse W q cq rs p cp lv now p1 c1 ru p2 c2 hs := by
  obtain ⟨cs, rfl, hsz⟩ := okWide_struct Tryz.underlying31 hval
  have h2 : cs.size = 5 := hsz.trans (by kernel_rfl)
  obtain ⟨fuel, hf⟩ := h
  obtain ⟨y0, y1, m, _, _, ht0, ht1⟩ := trod_struct2 Tryz.underlying31 hf
  obtain ⟨a0, a1, a2, a3, a4, rfl⟩ : ∃ a0 a1 a2 a3 a4, cs = #[a0, a1, a2, a3, a4] := by
    match cs, h2 with
    | ⟨[a0, a1, a2, a3, a4]⟩, _ => exact ⟨a0, a1, a2, a3, a4, rfl⟩
  have eL : Tryz.prog.cellsOf 25 = 3 := by kernel_rfl
  have eP : Tryz.prog.cellsOf 29 = 2 := by kernel_rfl
  have e0 : Tryz.prog.cellsOf 22 = 1 := by kernel_rfl
  have e1 : Tryz.prog.cellsOf 23 = 1 := by kernel_rfl
  have e2 : Tryz.prog.cellsOf 2 = 1 := by kernel_rfl
  have e3 : Tryz.prog.cellsOf 26 = 1 := by kernel_rfl
  have e4 : Tryz.prog.cellsOf 27 = 1 := by kernel_rfl
  simp only [Value.cells, eL, eP, List.drop_zero, List.take_succ_cons, List.take_zero, List.drop_succ_cons] at ht0 ht1
  obtain ⟨xs, n, hk, hxy, hl, hxl, hf0⟩ := DataW.trod_struct Tryz.underlying25 ht0
  have g0 : DataW.trod enc Tryz.prog W 0 (fun _ => true) true n 22 (([a0, a1, a2].drop 0).take (Tryz.prog.cellsOf 22)) = xs[0]? := hf0 0 _ rfl
  have g1 : DataW.trod enc Tryz.prog W 0 (fun _ => true) true n 23 (([a0, a1, a2].drop 1).take (Tryz.prog.cellsOf 23)) = xs[1]? := hf0 1 _ rfl
  have g2 : DataW.trod enc Tryz.prog W 0 (fun _ => true) true n 2 (([a0, a1, a2].drop 2).take (Tryz.prog.cellsOf 2)) = xs[2]? := hf0 2 _ rfl
  obtain ⟨x0, x1, m1, _, _, hp0, hp1⟩ := trod_struct2 Tryz.underlying29 ht1
  clear hf0
  simp only [e3, e4, List.drop_zero, List.take_succ_cons, List.take_zero, List.drop_succ_cons] at hp0 hp1
  match xs, hxl with
  | [z0, z1, z2], _ =>
    simp only [e0, e1, e2, List.drop_zero, List.take_succ_cons, List.take_zero, List.drop_succ_cons, List.getElem?_cons_zero, List.getElem?_cons_succ] at g0 g1 g2
    obtain ⟨q, lq, cq, rs, h0, u0⟩ := rws_of g0
    obtain ⟨p, lp, cp, lv, h1, u1⟩ := txts_of g1
    obtain ⟨now, hn, _, u2⟩ := DataW.trod_int Tryz.underlying2 g2
    obtain ⟨p1, l1, c1, ru, h3, u3⟩ := ruls_of hp0
    have hI : ∃ a l c, a4 = .slice a l c := by
      rcases open_ints Tryz.underlying27 Tryz.underlying2 (by kernel_rfl) hp1 with ⟨hcs, _⟩ | ⟨ad, l, c, zs, hcs, _⟩
      · simp at hcs; exact ⟨_, _, _, hcs⟩
      · simp at hcs; exact ⟨_, _, _, hcs⟩
    obtain ⟨p2, l2, c2, rfl⟩ := hI
    obtain ⟨hs, u4⟩ := intsP_of hp1
    simp only [List.cons.injEq, and_true] at h0 h1 hn h3
    subst h0 h1 hn h3
    have r0 := u0.1
    have r1 := u1.1
    have r3 := u3.1
    have r4 := u4.1
    subst r0 r1 r3 r4
    exact ⟨q, cq, rs, p, cp, lv, now, p1, c1, ru, p2, c2, hs, rfl, ⟨u0, u1, u2⟩, u3, u4⟩
end Go.Proofs.YtpijadhfdpihkaaGreatDoor
/-
  What the two listed tables give a walk: 'Tabs'.
-/
namespace Go.Proofs.YtpijadhfdpihkaaGreatDoor
open Go.RowKit Go.Lib
set_option linter.unusedVariables false

theorem g0 : Tryz.prog.globalNamed "loop.example/g00633/impl.firstState" = some 0 := by kernel_rfl
theorem g1 : Tryz.prog.globalNamed "loop.example/g00633/impl.roundNums" = some 2 := by kernel_rfl
theorem tab_of {W : World} {name : String} {zs : List Int} {g : Nat} {t : TypeId} {n : Nat} (hg : Tryz.prog.globalNamed name = some g) (hty : (Tryz.prog.globals[g]?).map (·.type) = some t) (ht : Tryz.prog.underlying t = some (.array n 147)) (hct : Tryz.prog.cellsOf t = n)
    (h : VarReads Tryz.prog W name (tabData .u32 zs)) (i : Nat) (hi : i < zs.length) : W.cell? ⟨g, i, none⟩ = some (.int .u32 (zs.getD i 0)) := by
  obtain ⟨g', t', cs, fuel, p, h1, h2, h3, h4⟩ := h
  obtain rfl := Option.some.inj (hg.symm.trans h1)
  obtain rfl := Option.some.inj (hty.symm.trans h2)
  refine TabIs.cell (P := Tryz.prog) (name := name) ?_ hg i hi
  unfold TabIs
  rw [h3, ← cells_of_tab ht Tryz.underlying147 (by kernel_rfl) hct h4]
theorem tabs_of {W : World} (h : laidMet Tryz.prog [("loop.example/g00633/impl.firstState", Rows.laid_loop_example_g00633_impl_firstState), ("loop.example/g00633/impl.roundNums", Rows.laid_loop_example_g00633_impl_roundNums)] W) : Tabs W := by
  have r0 : VarReads Tryz.prog W "loop.example/g00633/impl.firstState" (tabData .u32 startN) := laidMet.reads h (.head _)
  have r1 : VarReads Tryz.prog W "loop.example/g00633/impl.roundNums" (tabData .u32 keysN) := laidMet.reads h (.tail _ (.head _))
  have c0 := tab_of g0 (by kernel_rfl) (t := 190) (n := 8) (by kernel_rfl) (by kernel_rfl) r0
  have c1 := tab_of g1 (by kernel_rfl) (t := 208) (n := 64) (by kernel_rfl) (by kernel_rfl) r1
  exact ⟨World.block_lt_of_cell? W ⟨2, 0, none⟩ (c1 0 (by decide)), fun i hi => c1 i hi, fun i hi => c0 i hi⟩
end Go.Proofs.YtpijadhfdpihkaaGreatDoor
/-
  What the three listed variables give a walk: errors.errorType and the two tables of the digest.
-/
namespace Go.Proofs.YtpijadhfdpihkaaGreatDoor
open Go.RowKit
set_option linter.unusedVariables false

theorem et3 : Tryz.prog.globalNamed "errors.errorType" = some 1 := by kernel_rfl
theorem rt3 : (Tryz.prog.cutTypes.find? (·.1 == "internal/reflectlite.rtype")).map (·.2) = some 212 := by kernel_rfl
theorem oneRow3 : ((List.range 262).filter fun t => Tryz.prog.rowNamed t [101, 114, 114, 111, 114]) = [174] := by kernel_rfl
theorem size3 : Tryz.prog.types.size = 262 := by kernel_rfl
theorem laid3_of {W : World} (h : laidMetH Tryz.prog [("errors.errorType", Rows.laid_errors_errorType), ("loop.example/g00633/impl.firstState", Rows.laid_loop_example_g00633_impl_firstState), ("loop.example/g00633/impl.roundNums", Rows.laid_loop_example_g00633_impl_roundNums)] W) : Tabs W ∧ Laid W := by
  have h' : laidMet Tryz.prog [("loop.example/g00633/impl.firstState", Rows.laid_loop_example_g00633_impl_firstState), ("loop.example/g00633/impl.roundNums", Rows.laid_loop_example_g00633_impl_roundNums)] W ∧ handlesMet Tryz.prog [("errors.errorType", Rows.laid_errors_errorType)] W := h
  refine ⟨tabs_of h'.1, ?_⟩
  obtain ⟨name, u, ty, e1, e2, e3, e4, e5⟩ := h'.2 _ (List.mem_singleton.2 rfl)
  have en : name = [101, 114, 114, 111, 114] := (Option.some.inj e1).symm
  subst en
  obtain rfl := Option.some.inj (rt3.symm.trans e2)
  have hm : ty ∈ (List.range 262).filter fun t => Tryz.prog.rowNamed t [101, 114, 114, 111, 114] := List.mem_filter.2 ⟨List.mem_range.2 (by rw [← size3]; exact e3), e4⟩
  rw [oneRow3] at hm
  obtain rfl := List.mem_singleton.1 hm
  have hh : typeHandle Tryz.prog 174 = .pointer (some ⟨3, 174, none⟩) := by kernel_rfl
  rw [hh] at e5
  show W.cell? ⟨1, 0, none⟩ = _
  simpa using World.var?_cell et3 e5 0
end Go.Proofs.YtpijadhfdpihkaaGreatDoor
