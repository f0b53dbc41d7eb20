/-
  What DrawHearHead draws: an Auditor, a head's text, a Sig and a proof, all small.
  Conditions: the code is at most 2^20 bytes.
-/
import Derived.Test.YtonleickhincgaaGreatDoorRows
import Derived.Test.YtonleickhincgaaGreatDoorBytesDigMath
import Derived.Test.YtonleickhincgaaGreatDoorTreeMathSlABxKSlBOwnS
import Derived.Test.YtonleickhincgaaGreatDoorLgLawTakesTakesLPutterPathI
import Derived.Test.YtonleickhincgaaGreatDoorFldIsTimeIGrKSpecGNSpecGTTillTwoFldN
import Derived.Test.YtonleickhincgaaGreatDoorMac2AppSSrcDrawsDrawKitSomeIsInSignSSignDWide2StepAppPath2DigestDrawTreeSpoil
import Derived.Test.YtonleickhincgaaGreatDoorTimeBPutMathPutNumJoinedPutTextFldMath
import Derived.Test.YtonleickhincgaaGreatDoorGetValGetTxtNumMathFldRdNumFromTmbMathLgMath
import Derived.Test.YtonleickhincgaaGreatDoorLgAtKLgAnsLgRtAudMathHdMathClaMathHearMathFldGOneKFldBlkRwBlkRowOps
import Derived.Test.YtonleickhincgaaGreatDoorLgOLtMathLfMathLaMath
import Derived.Test.YtonleickhincgaaGreatDoorLfSDrawLoDrawLoMSpoilT
import Derived.Test.YtonleickhincgaaGreatDoorDrawLog
import Derived.Test.YtonleickhincgaaGreatDoorShwKOwnBPadIMacMathSgnBDigITurn2
import Derived.Test.YtonleickhincgaaGreatDoorPowerHalvesTreeTree2TreeHPathMathIncMathTakerTakePathConMathProofLawSignMath
import Derived.Test.YtonleickhincgaaGreatDoorSignGSignVImplRightIncISignIMDigAllSignIASignIBSignIDg
import Derived.Test.YtonleickhincgaaGreatDoorDrawLkDrawCkSpecRtDrawPg
import Derived.Test.YtonleickhincgaaGreatDoorDrawHeMacISignICImplSignSgnLg
import Derived.Test.YtonleickhincgaaGreatDoorProof2ProofIExtLgHeadLawAudLawAudIAudSRdTextI
import Derived.Test.YtonleickhincgaaGreatDoorDrawCa
import Derived.Handy
import Derived.WalkSpells
import Derived.OwnWalk
import Derived.Deep.RegionWith
import Derived.Deep.RegionHeld3
import Derived.Deep.Cut
import Derived.Deep.CutRange
namespace Go.Proofs.YtonleickhincgaaGreatDoor
open Go.RowKit Go.Lib
set_option linter.unusedVariables false
set_option maxRecDepth 20000

theorem hsb_small (rs : List Rw) (lv : List ByteArray) (now : Int) (seed : ByteArray) (key : Int) : (hsE rs lv now seed key).length ≤ 6 ∧ (hsP rs lv now seed key).length ≤ 3 := by
  unfold hsE hsP
  split
  · unfold sgE sgP
    split
    · rename_i h
      obtain ⟨_, hk, _⟩ := signOk_parts h
      rw [endsTo_len, pathB_four _ (pubsB_len _) _ (by omega)]; omega
    · simp
  · simp
theorem hsb_key (rs : List Rw) (lv : List ByteArray) (now : Int) (seed : ByteArray) (key : Int) : 0 ≤ hsK rs lv now seed key ∧ hsK rs lv now seed key ≤ 3 := by
  unfold hsK sgK
  split
  · split
    · rename_i h
      exact (signOk_parts h).2.1
    · omega
  · omega
theorem rootD_size (seed : ByteArray) : (rootA seed).size ≤ 32 := by
  unfold rootA; split
  · rw [treeB_size]; omega
  · simp
/-- A Sig of its own rows in a box at G, behind A. -/
structure SgB (base A G : Nat) (key : Int) (e1 : Option Addr) (c1 : Nat) (E : List ByteArray) (e2 : Option Addr) (c2 : Nat) (P : List ByteArray) (x : World) : Prop where
  lt : A < G
  box : Bxs x G 27 #[.int .i64 key, .slice e1 E.length c1, .slice e2 P.length c2]
  o1 : x.ownsRow base 9 1 (.slice e1 E.length c1) E.length (strRow E)
  o2 : x.ownsRow base 9 1 (.slice e2 P.length c2) P.length (strRow P)
section
variable {base A G : Nat} {key : Int} {e1 : Option Addr} {c1 : Nat} {E : List ByteArray} {e2 : Option Addr} {c2 : Nat} {P : List ByteArray} {x x' : World}
theorem SgB.below (h : SgB base A G key e1 c1 E e2 c2 P x) (b : Below x.heap.size x x') : SgB base A G key e1 c1 E e2 c2 P x' := ⟨h.lt, h.box.below b, ownS_below h.o1 b, ownS_below h.o2 b⟩
theorem SgB.low (h : SgB base A G key e1 c1 E e2 c2 P x) {j : Nat} (g : x.grownBy x' (some j)) (hj : j < base) (hA : base ≤ A) : SgB base A G key e1 c1 E e2 c2 P x' := by
  have hl := h.lt
  exact ⟨h.lt, h.box.grown g (fun e => by cases e; omega), h.o1.kept g (.inr (fun e => by have := (h.o1.lt j e).1; omega)), h.o2.kept g (.inr (fun e => by have := (h.o2.lt j e).1; omega))⟩
theorem SgB.setK (h : SgB base A G key e1 c1 E e2 c2 P x) (k : Int) : SgB base A G k e1 c1 E e2 c2 P (x.setCell ⟨G, 0, none⟩ (.int .i64 k)) :=
  ⟨h.lt, h.box.set 0 _, h.o1.kept (set_grw x G 0 _) (.inr (fun e => own_box h.o1 h.box (by decide) e)), h.o2.kept (set_grw x G 0 _) (.inr (fun e => own_box h.o2 h.box (by decide) e))⟩
end
theorem LkS.later {w1 x x' : World} {B p : Nat} {a : Option Addr} {len cap X : Nat} {q : Option Addr} {cq : Nat} {rs : List Rw} {p' : Option Addr} {cp : Nat} {lv : List ByteArray} {now : Int} {A : Nat} {ak : ByteArray} {az : Int} {ar : ByteArray} {Z : Nat} (h : LkS w1 B p a len cap X q cq rs p' cp lv now A ak az ar x) (g : x.grownBy x' (some Z)) (hZ : A < Z) : LkS w1 B p a len cap X q cq rs p' cp lv now A ak az ar x' := by
  have h2 := h.hp
  have h3 := h.hX
  have h4 := h.hA
  exact ⟨h.src.other g (fun j hj => by cases hj; omega), touch_own h.gr g (fun j hj => by cases hj; omega), h2, h3, h4, h.box.grown g (fun e => by cases e; omega), h.aud.grown g (fun e => by cases e; omega), h.hi.grown g (fun j hj => by cases hj; exact .inr (by omega))⟩
theorem SgB.put {base A G : Nat} {key : Int} {v1 v2 : Value} {E P : List ByteArray} {y : World} (hl : A < G) (k : Bxs y G 27 #[.int .i64 0, .slice none 0 0, .slice none 0 0]) (o1 : y.ownsRow base 9 1 v1 E.length (strRow E)) (o2 : y.ownsRow base 9 1 v2 P.length (strRow P)) :
    ∃ e1 c1 e2 c2, v1 = .slice e1 E.length c1 ∧ v2 = .slice e2 P.length c2 ∧ E.length ≤ c1 ∧ P.length ≤ c2 ∧ SgB base A G key e1 c1 E e2 c2 P (((y.setCell ⟨G, 0, none⟩ (.int .i64 key)).setCell ⟨G, 1, none⟩ v1).setCell ⟨G, 2, none⟩ v2) := by
  obtain ⟨e1, c1, rfl, h1, -⟩ := ownS_form o1
  obtain ⟨e2, c2, rfl, h2, -⟩ := ownS_form o2
  have g := touch_set (touch_set (set_grw y G 0 (.int .i64 key)) 1 (.slice e1 E.length c1)) 2 (.slice e2 P.length c2)
  exact ⟨e1, c1, e2, c2, rfl, rfl, h1, h2, hl, ((k.set 0 _).set 1 _).set 2 _, o1.kept g (.inr (fun e => own_box o1 k (by decide) e)), o2.kept g (.inr (fun e => own_box o2 k (by decide) e))⟩
def DrawnHh (w : World) (e : Ending) (w' : World) : Prop := (∃ (ak : ByteArray) (az : Int) (ar hd : ByteArray) (key : Int) (e1 : Option Addr) (c1 : Nat) (E : List ByteArray) (e2 : Option Addr) (c2 : Nat) (P : List ByteArray) (pq : Option Addr) (pc : Nat) (S : List ByteArray), e = .returned (.tuple #[.agg #[.string ak, .int .i64 az, .string ar], .string hd, .agg #[.int .i64 key, .slice e1 E.length c1, .slice e2 P.length c2], .slice pq S.length pc]) ∧ (TxtAt w' e1 E ∧ TxtAt w' e2 P ∧ TxtAt w' pq S) ∧ (E.length ≤ c1 ∧ P.length ≤ c2 ∧ S.length ≤ pc) ∧ (E.length ≤ 6 ∧ P.length ≤ 3 ∧ S.length ≤ 1025) ∧ AudZ ak az ar ∧ hd.size ≤ 100 ∧ (0 ≤ key ∧ key ≤ 5)) ∧ Below w.heap.size w w'
set_option maxHeartbeats 8000000 in
theorem drawHearHead_any (B : Nat) (a : Option Addr) (len cap : Nat) (w : World) (hlen : len ≤ 1048576) (hB : B ≤ w.heap.size) (hc : CodeAt B a len w) :
    Calls Tryz.prog 5 #[.slice a len cap] w (DrawnHh w) := by
  obtain ⟨W1, hW1⟩ : ∃ W1, W1 = (w.alloc (.cells #[.string ⟨#[]⟩, .int .i64 0, .string ⟨#[]⟩] 24)).alloc (.cells #[.int .i64 0, .slice none 0 0, .slice none 0 0] 27) := ⟨_, rfl⟩
  have HW : Hid (W1 = (w.alloc (.cells #[.string ⟨#[]⟩, .int .i64 0, .string ⟨#[]⟩] 24)).alloc (.cells #[.int .i64 0, .slice none 0 0, .slice none 0 0] 27)) := hW1
  have b1 : Hid (Below w.heap.size w W1) := by rw [hW1]; exact alB ((Below.refl _ _).alloc (Nat.le_refl _) _) _
  have R1 : Hid (Bxs W1 w.heap.size 24 #[.string ⟨#[]⟩, .int .i64 0, .string ⟨#[]⟩]) := by rw [hW1]; exact (Bxs.new _ _ _).alloc _
  have R2 : Hid (Bxs W1 (w.heap.size + 1) 27 #[.int .i64 0, .slice none 0 0, .slice none 0 0]) := by
    rw [hW1]
    have h := Bxs.new (w.alloc (.cells #[.string ⟨#[]⟩, .int .i64 0, .string ⟨#[]⟩] 24)) 27 #[.int .i64 0, .slice none 0 0, .slice none 0 0]
    rwa [szA] at h
  have HZ1 : Hid (W1.heap.size = w.heap.size + 1 + 1) := by rw [hW1]; show _ = _; rw [szA, szA]
  have hB1 : B ≤ W1.heap.size := Nat.le_trans hB b1.out.size
  have HC : Hid (CodeAt B a len W1) := hc.below (b1.out.mono hB)
  clear hW1 hc
  go_enter Tryz.func5, Tryz.ntmps5
  go_wp2_with fail
  rw [← HW.out]
  clear HW
  refine (source_any B a len cap W1 hlen hB1 HC.out).mono ?_
  rintro e y1 ⟨rfl, s1, bs1⟩
  obtain ⟨PP, hPP⟩ : ∃ PP, PP = W1.heap.size := ⟨_, rfl⟩
  rw [← hPP] at s1 ⊢
  have HPw : Hid (w.heap.size + 1 < PP) := by show _ < _; rw [hPP, HZ1.out]; omega
  have HPy : Hid (PP < y1.heap.size) := s1.lt
  have HRes : Hid (∀ x, y1.grownBy x (some PP) → Bxs x w.heap.size 24 #[.string ⟨#[]⟩, .int .i64 0, .string ⟨#[]⟩] ∧ Bxs x (w.heap.size + 1) 27 #[.int .i64 0, .slice none 0 0, .slice none 0 0]) := fun x hx => ⟨(R1.out.below bs1).grown hx (fun e => by have := HPw.out; cases e; omega), (R2.out.below bs1).grown hx (fun e => by have := HPw.out; cases e; omega)⟩
  have HBel : Hid (∀ x, y1.grownBy x (some PP) → Below w.heap.size w x) := fun x hx => below_touch (chainB b1.out bs1) hx (by have := HPw.out; omega)
  clear hPP R1 R2 HZ1 HC
  go_wp2_with fail
  refine (l12Case_drawn B PP a len cap y1 s1).mono ?_
  rintro e y2 ⟨⟨q, cq, rs, p', cp, lv, now, ak0, az, ar, rfl, hi, hf, hz⟩, s2, g2⟩
  obtain ⟨y3, hy3⟩ : ∃ y3, y3 = (y2.alloc (.cells #[.slice q rs.length cq, .slice p' lv.length cp, .int .i64 now] 41)).alloc (.cells #[.string ak0, .int .i64 az, .string ar] 24) := ⟨_, rfl⟩
  have HY3 : Hid (y3 = (y2.alloc (.cells #[.slice q rs.length cq, .slice p' lv.length cp, .int .i64 now] 41)).alloc (.cells #[.string ak0, .int .i64 az, .string ar] 24)) := hy3
  obtain ⟨X, hX⟩ : ∃ X, X = y2.heap.size := ⟨_, rfl⟩
  have HX0 : Hid (X = y2.heap.size) := hX
  obtain ⟨A, hA⟩ : ∃ A, A = y2.heap.size + 1 := ⟨_, rfl⟩
  have HA0 : Hid (A = y2.heap.size + 1) := hA
  have S3 : Hid (LkS y1 B PP a len cap X q cq rs p' cp lv now A ak0 az ar y3) := by
    rw [hX]
    refine LkS.new s1 s2 g2 hi rfl (by rw [hy3]; exact (Below.refl _ _).alloc (Nat.le_refl _) _) ?_ (by rw [szA, hA]; exact Nat.le_refl _)
    rw [hy3, hA]
    have h := Bxs.new (y2.alloc (.cells #[.slice q rs.length cq, .slice p' lv.length cp, .int .i64 now] 41)) 24 #[.string ak0, .int .i64 az, .string ar]
    rwa [szA] at h
  have HZ : Hid (AudZ ak0 az ar) := hz
  clear hy3 hX hA hi hf hz s2 g2 s1 bs1
  go_upto_region 3 with fail
  rw [← HY3.out, ← HA0.out, ← HX0.out]
  clear HY3 HX0 HA0
  obtain ⟨-, ⟨a0, a1, a2⟩, f0, f1, f2⟩ := S3.out.six
  go_upto_if 22 with fail
  go_cut [8] from 21 to 24 (fun s8 wx => s8 = .pointer (some ⟨A, 0, none⟩) ∧ ∃ (ak : ByteArray), Hid (LkS y1 B PP a len cap X q cq rs p' cp lv now A ak az ar wx) ∧ Hid (ak.size ≤ 40))
  case first =>
    have hz40 := HZ.out.1
    by_cases h32 : ak0.size = 32
    · have d0 : (((ak0.size : Nat) : Int) == 32) = true := by rw [h32]; rfl
      have hK := specKeyRoot_any ⟨#[100, 101, 115, 107]⟩ y3 (by decide)
      have hks := rootD_size ⟨#[100, 101, 115, 107]⟩
      generalize rootA ⟨#[100, 101, 115, 107]⟩ = kr at *
      go_wp2_with fail
      refine hK.mono ?_
      rintro e y4 ⟨rfl, b4⟩
      have S4 := S3.out.below b4
      have S5 := S4.set0 kr
      clear a0 a1 a2 f0 f1 f2
      obtain ⟨-, ⟨a0, a1, a2⟩, f0, f1, f2⟩ := S4.six
      have HS5 : Hid (LkS y1 B PP a len cap X q cq rs p' cp lv now A kr az ar (y4.setCell ⟨A, 0, none⟩ (.string kr))) := S5
      clear hK b4 S4 S5 S3
      go_wp2_with fail
      go_meet
      exact ⟨rfl, kr, HS5, by show _ ≤ _; omega⟩
    · have d0 : (((ak0.size : Nat) : Int) == 32) = false := beq_eq_false_iff_ne.2 (by omega)
      go_wp2_with fail
      go_meet
      exact ⟨rfl, ak0, S3, hz40⟩
  case rest =>
  obtain ⟨rfl, ak, S5, HB5⟩ := hcut
  clear S3 a0 a1 a2 f0 f1 f2
  rename World => y5
  obtain ⟨⟨x0, x1, x2⟩, -, -⟩ := S5.out.six
  have hds := hdO_small rs lv now
  have hH := specHeadText_any p' lv cp q rs cq now y5 S5.out.at
  generalize hdO rs lv now = hd at *
  go_wp2_with fail
  refine hH.mono ?_
  rintro e y4 ⟨rfl, b6⟩
  have S4 : Hid (LkS y1 B PP a len cap X q cq rs p' cp lv now A ak az ar y4) := S5.out.below b6
  have HBd : Hid (ak.size ≤ 40 ∧ hd.size ≤ 60) := ⟨HB5.out, hds⟩
  clear hH b6 S5 HB5 hds x0 x1 x2
  have HZ2 : Hid (AudZ ak az ar) := ⟨HBd.out.1, HZ.out.2⟩
  go_upto_region 6 with fail
  go_cut [10] from 27 to 30 (fun s10 wx => ∃ (G : Nat) (key : Int) (e1 : Option Addr) (c1 : Nat) (E : List ByteArray) (e2 : Option Addr) (c2 : Nat) (P : List ByteArray), s10 = .pointer (some ⟨G, 0, none⟩) ∧ Hid (LkS y1 B PP a len cap X q cq rs p' cp lv now A ak az ar wx) ∧ Hid (SgB y1.heap.size A G key e1 c1 E e2 c2 P wx) ∧ Hid ((E.length ≤ c1 ∧ P.length ≤ c2) ∧ E.length ≤ 6 ∧ P.length ≤ 3 ∧ 0 ≤ key ∧ key ≤ 3))
  case first =>
    have LS := S4.out.below (Below.refl _ _).drew
    clear S4
    refine region_till (fun w' => w'.cell? ⟨X, 0, none⟩ = some (.slice q rs.length cq) ∧ w'.cell? ⟨X, 1, none⟩ = some (.slice p' lv.length cp) ∧ w'.cell? ⟨X, 2, none⟩ = some (.int .i64 now)) 5 (by kernel_rfl) (LS.six.1) (fun hHeld => ?_)
    generalize y4.drew = x0 at *
    refine till_take 0 (v := ?_) rfl (by kernel_rfl) (by kernel_rfl) (by kernel_rfl) (by kernel_rfl) (fun _ _ _ h => h) hHeld (Or.inl ⟨by rfl, ?_⟩) ?_
    rotate_left
    · (intro w hSw; (try dsimp only at hSw); go_simp; try with_reducible rfl)
    simp only [Act.put, List.setIfInBounds_toArray, List.set_cons_zero, List.set_cons_succ]
    refine till_take 1 (v := ?_) rfl (by kernel_rfl) (by kernel_rfl) (by kernel_rfl) (by kernel_rfl) (fun _ _ _ h => h) hHeld (Or.inl ⟨by rfl, ?_⟩) ?_
    rotate_left
    · (intro w hSw; (try dsimp only at hSw); go_simp; try with_reducible rfl)
    simp only [Act.put, List.setIfInBounds_toArray, List.set_cons_zero, List.set_cons_succ]
    refine till_ready2 2 4 rfl rfl (by kernel_rfl) (fun K hK => ?_) (fun K hK => ?_)
    · go_simp
      (go_at_call 32; (with_reducible refine (n_any B PP a len cap 4 x0 LS.src (by omega)).mono ?_); rintro e v_1 ⟨⟨i, rfl, i0, i1, -⟩, s1, g1⟩)
      replace LS := LS.step s1 g1
      clear s1 g1 i1
      refine hK.out _ _ (LS.six.1) (fun hHeld => ?_)
      clear hK K
      try simp only [Act.put, List.setIfInBounds_toArray, List.set_cons_zero, List.set_cons_succ]
      refine till_ready2 3 4 rfl rfl (by kernel_rfl) (fun K hK => ?_) (fun K hK => ?_)
      · have hHS := specHeadSign_any p' lv cp q rs cq now ⟨#[100, 101, 115, 107]⟩ i v_1 (by decide) LS.at
        go_simp
        (go_at_call 31; (with_reducible refine hHS.mono ?_); rintro e v_2 ⟨v1, v2, rfl, o1, o2, -, b1⟩)
        clear hHS
        replace o1 := ownS_mono o1 LS.gr.size
        replace o2 := ownS_mono o2 LS.gr.size
        replace LS := LS.below b1
        obtain ⟨hE6, hP3⟩ := hsb_small rs lv now ⟨#[100, 101, 115, 107]⟩ i
        obtain ⟨hk0, hk3⟩ := hsb_key rs lv now ⟨#[100, 101, 115, 107]⟩ i
        generalize hsK rs lv now ⟨#[100, 101, 115, 107]⟩ i = key at *
        generalize hsE rs lv now ⟨#[100, 101, 115, 107]⟩ i = E at *
        generalize hsP rs lv now ⟨#[100, 101, 115, 107]⟩ i = P at *
        clear b1
        refine hK.out _ _ (LS.six.1) (fun hHeld => ?_)
        clear hK K
        try simp only [Act.put, List.setIfInBounds_toArray, List.set_cons_zero, List.set_cons_succ]
        refine till_ready 4 rfl (by kernel_rfl) (fun K hK => ?_)
        go_simp
        have hal : Below v_2.heap.size v_2 (v_2.alloc (.cells #[.int .i64 0, .slice none 0 0, .slice none 0 0] 27)) := (Below.refl _ _).alloc (Nat.le_refl _) _
        have KE : Bxs (v_2.alloc (.cells #[.int .i64 0, .slice none 0 0, .slice none 0 0] 27)) v_2.heap.size 27 #[.int .i64 0, .slice none 0 0, .slice none 0 0] := Bxs.new _ _ _
        have hEX : A < v_2.heap.size := LS.aud.lt
        have hEp : PP < v_2.heap.size := LS.src.lt
        replace LS := LS.below hal
        replace o1 := ownS_below o1 hal
        replace o2 := ownS_below o2 hal
        refine hK.out _ _ (LS.six.1) (fun hHeld => ?_)
        clear hK K
        try simp only [Act.put, List.setIfInBounds_toArray, List.set_cons_zero, List.set_cons_succ]
        generalize v_2.alloc (.cells #[.int .i64 0, .slice none 0 0, .slice none 0 0] 27) = u at *
        generalize v_2.heap.size = Eb at *
        clear hal
        have k0 := KE.cell 0
        have k1 := KE.cell 1
        have k2 := KE.cell 2
        have t0 := KE.fr 0
        have t1 := KE.fr 1
        have t2 := KE.fr 2
        obtain ⟨e1, c1, e2, c2, rfl, rfl, hc1, hc2, HSg⟩ := SgB.put (key := key) hEX KE o1 o2
        have HL := LS.later (touch_set (touch_set (set_grw u Eb 0 (.int .i64 key)) 1 (.slice e1 E.length c1)) 2 (.slice e2 P.length c2)) hEX
        refine till_last rfl (by kernel_rfl) (by kernel_rfl) (fun K hK => ?_)
        go_simp
        refine hK.out _ _ ?_
        clear hK K hHeld k0 k1 k2 t0 t1 t2 KE o1 o2 LS
        go_wp2_with fail
        go_meet
        exact ⟨Eb, key, e1, c1, E, e2, c2, P, rfl, HL, HSg, ⟨⟨hc1, hc2⟩, hE6, hP3, hk0, hk3⟩⟩
      · go_simp
        have hal : Below v_1.heap.size v_1 (v_1.alloc (.cells #[.int .i64 0, .slice none 0 0, .slice none 0 0] 27)) := (Below.refl _ _).alloc (Nat.le_refl _) _
        have KE : Bxs (v_1.alloc (.cells #[.int .i64 0, .slice none 0 0, .slice none 0 0] 27)) v_1.heap.size 27 #[.int .i64 0, .slice none 0 0, .slice none 0 0] := Bxs.new _ _ _
        have hEX : A < v_1.heap.size := LS.aud.lt
        have hEp : PP < v_1.heap.size := LS.src.lt
        replace LS := LS.below hal
        refine hK.out _ _ (LS.six.1) (fun hHeld => ?_)
        clear hK K
        try simp only [Act.put, List.setIfInBounds_toArray, List.set_cons_zero, List.set_cons_succ]
        generalize v_1.alloc (.cells #[.int .i64 0, .slice none 0 0, .slice none 0 0] 27) = u at *
        generalize v_1.heap.size = Eb at *
        clear hal
        refine till_ready 3 rfl (by kernel_rfl) (fun K hK => ?_)
        have hHS := specHeadSign_any p' lv cp q rs cq now ⟨#[100, 101, 115, 107]⟩ i u (by decide) LS.at
        go_simp
        (go_at_call 31; (with_reducible refine hHS.mono ?_); rintro e v_3 ⟨v1, v2, rfl, o1, o2, -, b1⟩)
        clear hHS
        replace o1 := ownS_mono o1 LS.gr.size
        replace o2 := ownS_mono o2 LS.gr.size
        replace LS := LS.below b1
        obtain ⟨hE6, hP3⟩ := hsb_small rs lv now ⟨#[100, 101, 115, 107]⟩ i
        obtain ⟨hk0, hk3⟩ := hsb_key rs lv now ⟨#[100, 101, 115, 107]⟩ i
        generalize hsK rs lv now ⟨#[100, 101, 115, 107]⟩ i = key at *
        generalize hsE rs lv now ⟨#[100, 101, 115, 107]⟩ i = E at *
        generalize hsP rs lv now ⟨#[100, 101, 115, 107]⟩ i = P at *
        replace KE := KE.below b1
        clear b1
        refine hK.out _ _ (LS.six.1) (fun hHeld => ?_)
        clear hK K
        try simp only [Act.put, List.setIfInBounds_toArray, List.set_cons_zero, List.set_cons_succ]
        have k0 := KE.cell 0
        have k1 := KE.cell 1
        have k2 := KE.cell 2
        have t0 := KE.fr 0
        have t1 := KE.fr 1
        have t2 := KE.fr 2
        obtain ⟨e1, c1, e2, c2, rfl, rfl, hc1, hc2, HSg⟩ := SgB.put (key := key) hEX KE o1 o2
        have HL := LS.later (touch_set (touch_set (set_grw v_3 Eb 0 (.int .i64 key)) 1 (.slice e1 E.length c1)) 2 (.slice e2 P.length c2)) hEX
        refine till_last rfl (by kernel_rfl) (by kernel_rfl) (fun K hK => ?_)
        go_simp
        refine hK.out _ _ ?_
        clear hK K hHeld k0 k1 k2 t0 t1 t2 KE o1 o2 LS
        go_wp2_with fail
        go_meet
        exact ⟨Eb, key, e1, c1, E, e2, c2, P, rfl, HL, HSg, ⟨⟨hc1, hc2⟩, hE6, hP3, hk0, hk3⟩⟩
    · go_simp
      have hal : Below x0.heap.size x0 (x0.alloc (.cells #[.int .i64 0, .slice none 0 0, .slice none 0 0] 27)) := (Below.refl _ _).alloc (Nat.le_refl _) _
      have KE : Bxs (x0.alloc (.cells #[.int .i64 0, .slice none 0 0, .slice none 0 0] 27)) x0.heap.size 27 #[.int .i64 0, .slice none 0 0, .slice none 0 0] := Bxs.new _ _ _
      have hEX : A < x0.heap.size := LS.aud.lt
      have hEp : PP < x0.heap.size := LS.src.lt
      replace LS := LS.below hal
      refine hK.out _ _ (LS.six.1) (fun hHeld => ?_)
      clear hK K
      try simp only [Act.put, List.setIfInBounds_toArray, List.set_cons_zero, List.set_cons_succ]
      generalize x0.alloc (.cells #[.int .i64 0, .slice none 0 0, .slice none 0 0] 27) = u at *
      generalize x0.heap.size = Eb at *
      clear hal
      refine till_ready 2 rfl (by kernel_rfl) (fun K hK => ?_)
      go_simp
      (go_at_call 32; (with_reducible refine (n_any B PP a len cap 4 u LS.src (by omega)).mono ?_); rintro e v_4 ⟨⟨i, rfl, i0, i1, -⟩, s1, g1⟩)
      replace LS := LS.step s1 g1
      replace KE := KE.grown g1 (fun e => by cases e; omega)
      clear s1 g1 i1
      refine hK.out _ _ (LS.six.1) (fun hHeld => ?_)
      clear hK K
      try simp only [Act.put, List.setIfInBounds_toArray, List.set_cons_zero, List.set_cons_succ]
      refine till_ready 3 rfl (by kernel_rfl) (fun K hK => ?_)
      have hHS := specHeadSign_any p' lv cp q rs cq now ⟨#[100, 101, 115, 107]⟩ i v_4 (by decide) LS.at
      go_simp
      (go_at_call 31; (with_reducible refine hHS.mono ?_); rintro e v_5 ⟨v1, v2, rfl, o1, o2, -, b1⟩)
      clear hHS
      replace o1 := ownS_mono o1 LS.gr.size
      replace o2 := ownS_mono o2 LS.gr.size
      replace LS := LS.below b1
      obtain ⟨hE6, hP3⟩ := hsb_small rs lv now ⟨#[100, 101, 115, 107]⟩ i
      obtain ⟨hk0, hk3⟩ := hsb_key rs lv now ⟨#[100, 101, 115, 107]⟩ i
      generalize hsK rs lv now ⟨#[100, 101, 115, 107]⟩ i = key at *
      generalize hsE rs lv now ⟨#[100, 101, 115, 107]⟩ i = E at *
      generalize hsP rs lv now ⟨#[100, 101, 115, 107]⟩ i = P at *
      replace KE := KE.below b1
      clear b1
      refine hK.out _ _ (LS.six.1) (fun hHeld => ?_)
      clear hK K
      try simp only [Act.put, List.setIfInBounds_toArray, List.set_cons_zero, List.set_cons_succ]
      have k0 := KE.cell 0
      have k1 := KE.cell 1
      have k2 := KE.cell 2
      have t0 := KE.fr 0
      have t1 := KE.fr 1
      have t2 := KE.fr 2
      obtain ⟨e1, c1, e2, c2, rfl, rfl, hc1, hc2, HSg⟩ := SgB.put (key := key) hEX KE o1 o2
      have HL := LS.later (touch_set (touch_set (set_grw v_5 Eb 0 (.int .i64 key)) 1 (.slice e1 E.length c1)) 2 (.slice e2 P.length c2)) hEX
      refine till_last rfl (by kernel_rfl) (by kernel_rfl) (fun K hK => ?_)
      go_simp
      refine hK.out _ _ ?_
      clear hK K hHeld k0 k1 k2 t0 t1 t2 KE o1 o2 LS
      go_wp2_with fail
      go_meet
      exact ⟨Eb, key, e1, c1, E, e2, c2, P, rfl, HL, HSg, ⟨⟨hc1, hc2⟩, hE6, hP3, hk0, hk3⟩⟩
  case rest =>
  obtain ⟨G, key, e1, c1, E, e2, c2, P, rfl, S5, HG, HEP⟩ := hcut
  clear S4
  rename World => y5
  obtain ⟨⟨x0, x1, x2⟩, ⟨a0, a1, a2⟩, f0, f1, f2⟩ := S5.out.six
  have hEx := specExtend_any p' lv cp q rs cq now az y5 (by have := HZ.out.2.1; omega) (by have := HZ.out.2.1; omega) S5.out.at
  have hxl := exO_len rs lv now az
  generalize exO rs lv now az = S at *
  go_wp2_with fail
  refine hEx.mono ?_
  rintro e y6 ⟨v, rfl, o3, b6⟩
  have S6 : Hid (LkS y1 B PP a len cap X q cq rs p' cp lv now A ak az ar y6) := S5.out.below b6
  have G6 : Hid (SgB y1.heap.size A G key e1 c1 E e2 c2 P y6) := HG.out.below b6
  obtain ⟨b5, hb5⟩ : ∃ b, b = y5.heap.size := ⟨_, rfl⟩
  rw [← hb5] at o3
  have H5 : Hid ((A < b5 ∧ G < b5) ∧ (∀ j, (Value.slice e1 E.length c1).ownBlock = some j → j < b5) ∧ ∀ j, (Value.slice e2 P.length c2).ownBlock = some j → j < b5) := ⟨⟨by rw [hb5]; exact S5.out.aud.lt, by rw [hb5]; exact HG.out.box.lt⟩, fun j hj => by rw [hb5]; exact (HG.out.o1.lt j hj).2, fun j hj => by rw [hb5]; exact (HG.out.o2.lt j hj).2⟩
  have O6 : Hid (y6.ownsRow b5 9 1 v S.length (strRow S)) := o3
  obtain ⟨pq, pc, rfl, -, -⟩ := ownS_form o3
  have HB56 : Hid (b5 ≤ y6.heap.size) := by show _ ≤ _; rw [hb5]; exact b6.size
  clear hEx b6 o3 hb5 S5 HG x0 x1 x2 a0 a1 a2 f0 f1 f2
  go_wp2_with fail
  refine (one_any B PP a len cap 4 _ S6.out.src (by omega)).mono ?_
  rintro e y7 ⟨⟨b7, rfl⟩, ss, gg⟩
  have S7 : Hid (LkS y1 B PP a len cap X q cq rs p' cp lv now A ak az ar y7) := S6.out.step ss gg
  have hAb : y1.heap.size ≤ A := by have := S6.out.hX; have := S6.out.hA; omega
  have G7 : Hid (SgB y1.heap.size A G key e1 c1 E e2 c2 P y7) := G6.out.low gg HPy.out hAb
  have O7 : Hid (y7.ownsRow b5 9 1 (.slice pq S.length pc) S.length (strRow S)) := O6.out.kept gg (.inr (fun e => by have := (O6.out.lt _ e).1; have := HPy.out; have := H5.out.1.1; omega))
  have HB57 : Hid (b5 ≤ y7.heap.size) := Nat.le_trans HB56.out gg.size
  clear ss gg S6 G6 O6
  have HEnd : Hid (∀ (x : World) (hd2 : ByteArray) (key2 : Int) (pq2 : Option Addr) (pc2 : Nat) (S2 : List ByteArray) (u0 u1 u2 u3 u4 u5 : Value), LkS y1 B PP a len cap X q cq rs p' cp lv now A ak az ar x → SgB y1.heap.size A G key2 e1 c1 E e2 c2 P x → x.ownsRow b5 9 1 (.slice pq2 S2.length pc2) S2.length (strRow S2) → hd2.size ≤ 100 → (0 ≤ key2 ∧ key2 ≤ 5) → S2.length ≤ 1025 → DrawnHh w (.returned (.tuple #[.agg #[.string ak, .int .i64 az, .string ar], .string hd2, .agg #[.int .i64 key2, .slice e1 E.length c1, .slice e2 P.length c2], .slice pq2 S2.length pc2])) ((((((x.setCell ⟨w.heap.size, 0, none⟩ u0).setCell ⟨w.heap.size, 1, none⟩ u1).setCell ⟨w.heap.size, 2, none⟩ u2).setCell ⟨w.heap.size + 1, 0, none⟩ u3).setCell ⟨w.heap.size + 1, 1, none⟩ u4).setCell ⟨w.heap.size + 1, 2, none⟩ u5)) := by
    intro x hd2 key2 pq2 pc2 S2 u0 u1 u2 u3 u4 u5 h hg ho h1 h2 h3
    have e1' := HPw.out
    have e2' := HPy.out
    have g1 := touch_set (touch_set (set_grw x w.heap.size 0 u0) 1 u1) 2 u2
    have g2 := touch_set (touch_set (set_grw (((x.setCell ⟨w.heap.size, 0, none⟩ u0).setCell ⟨w.heap.size, 1, none⟩ u1).setCell ⟨w.heap.size, 2, none⟩ u2) (w.heap.size + 1) 0 u3) 1 u4) 2 u5
    have hg2 := (hg.low g1 (by omega) hAb).low g2 (by omega) hAb
    have h5 := H5.out.1.1
    have o1 := ho.kept g1 (.inr (fun e => by have := (ho.lt _ e).1; omega))
    have o2 := o1.kept g2 (.inr (fun e => by have := (o1.lt _ e).1; omega))
    obtain ⟨_, _, ee1, m1, t1⟩ := ownS_form hg2.o1
    obtain ⟨_, _, ee2, m2, t2⟩ := ownS_form hg2.o2
    obtain ⟨_, _, ee3, m3, t3⟩ := ownS_form o2
    cases ee1; cases ee2; cases ee3
    exact ⟨⟨ak, az, ar, hd2, key2, e1, c1, E, e2, c2, P, pq2, pc2, S2, rfl, ⟨t1, t2, t3⟩, ⟨m1, m2, m3⟩, ⟨HEP.out.2.1, HEP.out.2.2.1, h3⟩, HZ2.out, h1, h2⟩, below_set3 (below_set3 (HBel.out x h.gr) (Nat.le_refl _) _ _ _) (Nat.le_succ _) _ _ _⟩
  cases b7 with
  | false =>
    go_upto_region 15 with fail
    have LD : Hid (LkS y1 B PP a len cap X q cq rs p' cp lv now A ak az ar y7.drew) := S7.out.below (Below.refl _ _).drew
    have GD : Hid (SgB y1.heap.size A G key e1 c1 E e2 c2 P y7.drew) := G7.out.below (Below.refl _ _).drew
    have OD := ownS_below O7.out (Below.refl _ _).drew
    have HE : Hid _ := fun u0 u1 u2 u3 u4 u5 => HEnd.out _ (hd) (key) pq pc (S) u0 u1 u2 u3 u4 u5 LD.out GD.out OD (by have := HBd.out.2; omega) ⟨by have := HEP.out.2.2.2; omega, by have := HEP.out.2.2.2; omega⟩ (by omega)
    obtain ⟨r1, r2⟩ := HRes.out _ LD.out.gr
    obtain ⟨d0, d1, d2, f0, f1, f2⟩ := res3 r1
    obtain ⟨e0', e1', e2', g0, g1, g2⟩ := res3 r2
    have hn4 : (w.heap.size ≠ A ∧ w.heap.size + 1 ≠ A) ∧ w.heap.size ≠ G ∧ w.heap.size + 1 ≠ G := by have := GD.out.lt; have := HPw.out; have := HPy.out; omega
    have ka := LD.out.aud
    have kg := GD.out.box
    have ka1 := ((ka.other w.heap.size 0 hn4.1.1 (.string ak)).other w.heap.size 1 hn4.1.1 (.int .i64 az)).other w.heap.size 2 hn4.1.1 (.string ar)
    have kg1 := ((kg.other w.heap.size 0 hn4.2.1 (.string ak)).other w.heap.size 1 hn4.2.1 (.int .i64 az)).other w.heap.size 2 hn4.2.1 (.string ar)
    have ka2 := ((ka1.other (w.heap.size + 1) 0 hn4.1.2 (.int .i64 key)).other (w.heap.size + 1) 1 hn4.1.2 (.slice e1 E.length c1)).other (w.heap.size + 1) 2 hn4.1.2 (.slice e2 P.length c2)
    have kg2 := ((kg1.other (w.heap.size + 1) 0 hn4.2.2 (.int .i64 key)).other (w.heap.size + 1) 1 hn4.2.2 (.slice e1 E.length c1)).other (w.heap.size + 1) 2 hn4.2.2 (.slice e2 P.length c2)
    have HC0 : Hid (_ ∧ _) := And.intro (And.intro (ka.cell 0) (And.intro (ka.cell 1) (ka.cell 2))) (And.intro (kg.cell 0) (And.intro (kg.cell 1) (kg.cell 2)))
    have HC1 : Hid (_ ∧ _) := And.intro (And.intro (ka1.cell 0) (And.intro (ka1.cell 1) (ka1.cell 2))) (And.intro (kg1.cell 0) (And.intro (kg1.cell 1) (kg1.cell 2)))
    have HC2 : Hid (_ ∧ _) := And.intro (And.intro (ka2.cell 0) (And.intro (ka2.cell 1) (ka2.cell 2))) (And.intro (kg2.cell 0) (And.intro (kg2.cell 1) (kg2.cell 2)))
    clear HEnd S7 G7 O7 LD GD OD r1 r2 ka kg ka1 kg1 ka2 kg2 hn4 hAb
    refine wp_region_held_drew (S := fun w' => (w'.cell? ⟨A, 0, none⟩ = some (.string ak) ∧ w'.cell? ⟨A, 1, none⟩ = some (.int .i64 az) ∧ w'.cell? ⟨A, 2, none⟩ = some (.string ar)) ∧ w'.cell? ⟨G, 0, none⟩ = some (.int .i64 key) ∧ w'.cell? ⟨G, 1, none⟩ = some (.slice e1 E.length c1) ∧ w'.cell? ⟨G, 2, none⟩ = some (.slice e2 P.length c2)) (by kernel_rfl) (HC0.out) (fun hHeld => ?_)
    generalize y7.drew = xd at *
    refine take_at 0 (v := ?_) rfl (by kernel_rfl) (by kernel_rfl) (by kernel_rfl) (fun _ _ _ h => h) hHeld (Or.inl ⟨by rfl, ?_⟩) ?_
    rotate_left
    · (intro w hSw; (try dsimp only at hSw); go_simp; try with_reducible rfl)
    simp only [Act.put, List.setIfInBounds_toArray, List.set_cons_zero, List.set_cons_succ]
    refine take_at 1 (v := ?_) rfl (by kernel_rfl) (by kernel_rfl) (by kernel_rfl) (fun _ _ _ h => h) hHeld (Or.inl ⟨by rfl, ?_⟩) ?_
    rotate_left
    · (intro w hSw; (try dsimp only at hSw); go_simp; try with_reducible rfl)
    simp only [Act.put, List.setIfInBounds_toArray, List.set_cons_zero, List.set_cons_succ]
    refine take_at 2 (v := ?_) rfl (by kernel_rfl) (by kernel_rfl) (by kernel_rfl) (fun _ _ _ h => h) hHeld (Or.inl ⟨by rfl, ?_⟩) ?_
    rotate_left
    · (intro w hSw; (try dsimp only at hSw); go_simp; try with_reducible rfl)
    simp only [Act.put, List.setIfInBounds_toArray, List.set_cons_zero, List.set_cons_succ]
    refine take_at 3 (v := ?_) rfl (by kernel_rfl) (by kernel_rfl) (by kernel_rfl) (fun _ _ _ h => h) hHeld (Or.inl ⟨by rfl, ?_⟩) ?_
    rotate_left
    · (intro w hSw; (try dsimp only at hSw); go_simp; try with_reducible rfl)
    simp only [Act.put, List.setIfInBounds_toArray, List.set_cons_zero, List.set_cons_succ]
    refine ready_at 4 rfl (by kernel_rfl) (fun K hK => ?_)
    go_simp
    refine hK.out _ _ (HC1.out) (fun hHeld => ?_)
    clear hK K
    try simp only [Act.put, List.setIfInBounds_toArray, List.set_cons_zero, List.set_cons_succ]
    refine take_at 5 (v := ?_) rfl (by kernel_rfl) (by kernel_rfl) (by kernel_rfl) (fun _ _ _ h => h) hHeld (Or.inl ⟨by rfl, ?_⟩) ?_
    rotate_left
    · (intro w hSw; (try dsimp only at hSw); go_simp; try with_reducible rfl)
    simp only [Act.put, List.setIfInBounds_toArray, List.set_cons_zero, List.set_cons_succ]
    refine ready_at 6 rfl (by kernel_rfl) (fun K hK => ?_)
    go_simp
    refine hK.out _ _ (HC2.out) (fun hHeld => ?_)
    clear hK K
    try simp only [Act.put, List.setIfInBounds_toArray, List.set_cons_zero, List.set_cons_succ]
    refine take_at 7 (v := ?_) rfl (by kernel_rfl) (by kernel_rfl) (by kernel_rfl) (fun _ _ _ h => h) hHeld (Or.inl ⟨by rfl, ?_⟩) ?_
    rotate_left
    · (intro w hSw; (try dsimp only at hSw); go_simp; try with_reducible rfl)
    simp only [Act.put, List.setIfInBounds_toArray, List.set_cons_zero, List.set_cons_succ]
    refine wpAnyH_done (by kernel_rfl) ?_ _
    clear hHeld HC0 HC1 HC2
    go_wp2_with fail
    refine bodyPost_ret (v := .tuple #[.agg #[.string ak, .int .i64 az, .string ar], .string (hd), .agg #[.int .i64 key, .slice e1 E.length c1, .slice e2 P.length c2], .slice pq (S).length pc]) (by simp [results, Tryz.results5, go_sem, d0, d1, d2, e0', e1', e2']) rfl ?_
    exact HE.out _ _ _ _ _ _
  | true =>
    go_wp2_with fail
    refine (n_any B PP a len cap 3 _ S7.out.src (by omega)).mono ?_
    rintro e y8 ⟨⟨m, rfl, m0, m1, -⟩, ss, gg⟩
    have S8 : Hid (LkS y1 B PP a len cap X q cq rs p' cp lv now A ak az ar y8) := S7.out.step ss gg
    have G8 : Hid (SgB y1.heap.size A G key e1 c1 E e2 c2 P y8) := G7.out.low gg HPy.out hAb
    have O8 : Hid (y8.ownsRow b5 9 1 (.slice pq S.length pc) S.length (strRow S)) := O7.out.kept gg (.inr (fun e => by have := (O7.out.lt _ e).1; have := HPy.out; have := H5.out.1.1; omega))
    have m2 := m1 (by omega)
    have HB58 : Hid (b5 ≤ y8.heap.size) := Nat.le_trans HB57.out gg.size
    clear ss gg S7 G7 O7 m1
    by_cases hm0 : m = 0
    · subst hm0
      clear m0 m2
      go_wp2_with fail
      refine (spoilT_any B PP a len cap hd _ S8.out.src (by have := HBd.out.2; omega)).mono ?_
      rintro e y9 ⟨⟨u, rfl, hu⟩, ss, gg⟩
      have S9 : Hid (LkS y1 B PP a len cap X q cq rs p' cp lv now A ak az ar y9) := S8.out.step ss gg
      have G9 : Hid (SgB y1.heap.size A G key e1 c1 E e2 c2 P y9) := G8.out.low gg HPy.out hAb
      have O9 : Hid (y9.ownsRow b5 9 1 (.slice pq S.length pc) S.length (strRow S)) := O8.out.kept gg (.inr (fun e => by have := (O8.out.lt _ e).1; have := HPy.out; have := H5.out.1.1; omega))
      have hu2 : u.size ≤ 61 := by have := HBd.out.2; omega
      clear ss gg S8 G8 O8 hu
      go_upto_region 15 with fail
      have LD : Hid (LkS y1 B PP a len cap X q cq rs p' cp lv now A ak az ar y9.drew) := S9.out.below (Below.refl _ _).drew
      have GD : Hid (SgB y1.heap.size A G key e1 c1 E e2 c2 P y9.drew) := G9.out.below (Below.refl _ _).drew
      have OD := ownS_below O9.out (Below.refl _ _).drew
      have HE : Hid _ := fun u0 u1 u2 u3 u4 u5 => HEnd.out _ (u) (key) pq pc (S) u0 u1 u2 u3 u4 u5 LD.out GD.out OD (by omega) ⟨by have := HEP.out.2.2.2; omega, by have := HEP.out.2.2.2; omega⟩ (by omega)
      obtain ⟨r1, r2⟩ := HRes.out _ LD.out.gr
      obtain ⟨d0, d1, d2, f0, f1, f2⟩ := res3 r1
      obtain ⟨e0', e1', e2', g0, g1, g2⟩ := res3 r2
      have hn4 : (w.heap.size ≠ A ∧ w.heap.size + 1 ≠ A) ∧ w.heap.size ≠ G ∧ w.heap.size + 1 ≠ G := by have := GD.out.lt; have := HPw.out; have := HPy.out; omega
      have ka := LD.out.aud
      have kg := GD.out.box
      have ka1 := ((ka.other w.heap.size 0 hn4.1.1 (.string ak)).other w.heap.size 1 hn4.1.1 (.int .i64 az)).other w.heap.size 2 hn4.1.1 (.string ar)
      have kg1 := ((kg.other w.heap.size 0 hn4.2.1 (.string ak)).other w.heap.size 1 hn4.2.1 (.int .i64 az)).other w.heap.size 2 hn4.2.1 (.string ar)
      have ka2 := ((ka1.other (w.heap.size + 1) 0 hn4.1.2 (.int .i64 key)).other (w.heap.size + 1) 1 hn4.1.2 (.slice e1 E.length c1)).other (w.heap.size + 1) 2 hn4.1.2 (.slice e2 P.length c2)
      have kg2 := ((kg1.other (w.heap.size + 1) 0 hn4.2.2 (.int .i64 key)).other (w.heap.size + 1) 1 hn4.2.2 (.slice e1 E.length c1)).other (w.heap.size + 1) 2 hn4.2.2 (.slice e2 P.length c2)
      have HC0 : Hid (_ ∧ _) := And.intro (And.intro (ka.cell 0) (And.intro (ka.cell 1) (ka.cell 2))) (And.intro (kg.cell 0) (And.intro (kg.cell 1) (kg.cell 2)))
      have HC1 : Hid (_ ∧ _) := And.intro (And.intro (ka1.cell 0) (And.intro (ka1.cell 1) (ka1.cell 2))) (And.intro (kg1.cell 0) (And.intro (kg1.cell 1) (kg1.cell 2)))
      have HC2 : Hid (_ ∧ _) := And.intro (And.intro (ka2.cell 0) (And.intro (ka2.cell 1) (ka2.cell 2))) (And.intro (kg2.cell 0) (And.intro (kg2.cell 1) (kg2.cell 2)))
      clear HEnd S9 G9 O9 LD GD OD r1 r2 ka kg ka1 kg1 ka2 kg2 hn4 hAb
      refine wp_region_held_drew (S := fun w' => (w'.cell? ⟨A, 0, none⟩ = some (.string ak) ∧ w'.cell? ⟨A, 1, none⟩ = some (.int .i64 az) ∧ w'.cell? ⟨A, 2, none⟩ = some (.string ar)) ∧ w'.cell? ⟨G, 0, none⟩ = some (.int .i64 key) ∧ w'.cell? ⟨G, 1, none⟩ = some (.slice e1 E.length c1) ∧ w'.cell? ⟨G, 2, none⟩ = some (.slice e2 P.length c2)) (by kernel_rfl) (HC0.out) (fun hHeld => ?_)
      generalize y9.drew = xd at *
      refine take_at 0 (v := ?_) rfl (by kernel_rfl) (by kernel_rfl) (by kernel_rfl) (fun _ _ _ h => h) hHeld (Or.inl ⟨by rfl, ?_⟩) ?_
      rotate_left
      · (intro w hSw; (try dsimp only at hSw); go_simp; try with_reducible rfl)
      simp only [Act.put, List.setIfInBounds_toArray, List.set_cons_zero, List.set_cons_succ]
      refine take_at 1 (v := ?_) rfl (by kernel_rfl) (by kernel_rfl) (by kernel_rfl) (fun _ _ _ h => h) hHeld (Or.inl ⟨by rfl, ?_⟩) ?_
      rotate_left
      · (intro w hSw; (try dsimp only at hSw); go_simp; try with_reducible rfl)
      simp only [Act.put, List.setIfInBounds_toArray, List.set_cons_zero, List.set_cons_succ]
      refine take_at 2 (v := ?_) rfl (by kernel_rfl) (by kernel_rfl) (by kernel_rfl) (fun _ _ _ h => h) hHeld (Or.inl ⟨by rfl, ?_⟩) ?_
      rotate_left
      · (intro w hSw; (try dsimp only at hSw); go_simp; try with_reducible rfl)
      simp only [Act.put, List.setIfInBounds_toArray, List.set_cons_zero, List.set_cons_succ]
      refine take_at 3 (v := ?_) rfl (by kernel_rfl) (by kernel_rfl) (by kernel_rfl) (fun _ _ _ h => h) hHeld (Or.inl ⟨by rfl, ?_⟩) ?_
      rotate_left
      · (intro w hSw; (try dsimp only at hSw); go_simp; try with_reducible rfl)
      simp only [Act.put, List.setIfInBounds_toArray, List.set_cons_zero, List.set_cons_succ]
      refine ready_at 4 rfl (by kernel_rfl) (fun K hK => ?_)
      go_simp
      refine hK.out _ _ (HC1.out) (fun hHeld => ?_)
      clear hK K
      try simp only [Act.put, List.setIfInBounds_toArray, List.set_cons_zero, List.set_cons_succ]
      refine take_at 5 (v := ?_) rfl (by kernel_rfl) (by kernel_rfl) (by kernel_rfl) (fun _ _ _ h => h) hHeld (Or.inl ⟨by rfl, ?_⟩) ?_
      rotate_left
      · (intro w hSw; (try dsimp only at hSw); go_simp; try with_reducible rfl)
      simp only [Act.put, List.setIfInBounds_toArray, List.set_cons_zero, List.set_cons_succ]
      refine ready_at 6 rfl (by kernel_rfl) (fun K hK => ?_)
      go_simp
      refine hK.out _ _ (HC2.out) (fun hHeld => ?_)
      clear hK K
      try simp only [Act.put, List.setIfInBounds_toArray, List.set_cons_zero, List.set_cons_succ]
      refine take_at 7 (v := ?_) rfl (by kernel_rfl) (by kernel_rfl) (by kernel_rfl) (fun _ _ _ h => h) hHeld (Or.inl ⟨by rfl, ?_⟩) ?_
      rotate_left
      · (intro w hSw; (try dsimp only at hSw); go_simp; try with_reducible rfl)
      simp only [Act.put, List.setIfInBounds_toArray, List.set_cons_zero, List.set_cons_succ]
      refine wpAnyH_done (by kernel_rfl) ?_ _
      clear hHeld HC0 HC1 HC2
      go_wp2_with fail
      refine bodyPost_ret (v := .tuple #[.agg #[.string ak, .int .i64 az, .string ar], .string (u), .agg #[.int .i64 key, .slice e1 E.length c1, .slice e2 P.length c2], .slice pq (S).length pc]) (by simp [results, Tryz.results5, go_sem, d0, d1, d2, e0', e1', e2']) rfl ?_
      exact HE.out _ _ _ _ _ _
    have z0 : (m == 0) = false := beq_eq_false_iff_ne.2 hm0
    by_cases hm1 : m = 1
    · subst hm1
      clear m0 m2 hm0
      have hmk := run_make_u8s 32 (by omega) y8
      rw [show ((32 : Nat) : Int) = (32 : Int) from rfl] at hmk
      have hcv := zconv 32 y8
      obtain ⟨y9, hy9⟩ : ∃ y9, y9 = y8.alloc (.cells (zrow 32).toArray 5) := ⟨_, rfl⟩
      have b9 : Below y8.heap.size y8 y9 := by rw [hy9]; exact (Below.refl _ _).alloc (Nat.le_refl _) _
      rw [← hy9] at hmk hcv
      generalize strOfNums (List.replicate 32 0) = zt at *
      have S9 := S8.out.below b9
      have G9 := G8.out.below b9
      have O9 := ownS_below O8.out b9
      obtain ⟨g, d, v9, hrun, o9, gr9, -⟩ := app_str y9 b5 _ S O9 zt (by omega) (by have := H5.out.1.1; have := (O9.1); have h := S9.aud.lt; have h2 := b9.size; have h3 := HB58.out; omega)
      have hb9 := (Below.refl y9.heap.size y9).alloc (Nat.le_refl _) (.cells #[.string zt] 9)
      have S9a := S9.below hb9
      have G9a := G9.below hb9
      have hrow : ∀ j, (Value.slice pq S.length pc).ownBlock = some j → b5 ≤ j := fun j hj => (O9.lt j hj).1
      obtain ⟨⟨q1, q2⟩, q3, q4⟩ := H5.out
      have q5 := S9a.hX
      have q6 := S9a.hA
      have q7 := HPy.out
      have S10 : Hid (LkS y1 B PP a len cap X q cq rs p' cp lv now A ak az ar v9) := ⟨S9a.src.other gr9 (fun j hj => by have := hrow j hj; omega), touch_own S9a.gr gr9 (fun j hj => by have := hrow j hj; omega), S9a.hp, S9a.hX, S9a.hA, S9a.box.grown gr9 (fun e => by have := hrow _ e.symm; omega), S9a.aud.grown gr9 (fun e => by have := hrow _ e.symm; omega), S9a.hi.grown gr9 (fun j hj => .inr (by have := hrow j hj; omega))⟩
      have G10 : Hid (SgB y1.heap.size A G key e1 c1 E e2 c2 P v9) := ⟨G9a.lt, G9a.box.grown gr9 (fun e => by have := hrow _ e.symm; omega), G9a.o1.kept gr9 (by cases hE : (Value.slice e1 E.length c1).ownBlock with | none => exact .inl rfl | some j => exact .inr (fun e => by have := hrow _ e.symm; have := q3 j hE; omega)), G9a.o2.kept gr9 (by cases hE : (Value.slice e2 P.length c2).ownBlock with | none => exact .inl rfl | some j => exact .inr (fun e => by have := hrow _ e.symm; have := q4 j hE; omega))⟩
      have hsl : (S ++ [zt]).length = S.length + 1 := by simp
      have O10 : Hid (v9.ownsRow b5 9 1 (.slice (some ⟨g, 0, none⟩) (S ++ [zt]).length d) (S ++ [zt]).length (strRow (S ++ [zt]))) := by rw [hsl]; rw [hsl] at o9; exact o9
      clear S8 G8 O8 S9 G9 O9 S9a G9a hb9 hrow q1 q2 q3 q4 q5 q6 q7 o9 gr9 b9 hy9
      go_upto_region 15 with (at_builtin; refine wpList_append_run rfl _ _ _ rfl _ _ _ _ rfl rfl hrun ?_)
      rw [← hsl]
      clear hmk hcv hrun hsl
      have LD : Hid (LkS y1 B PP a len cap X q cq rs p' cp lv now A ak az ar v9.drew) := S10.out.below (Below.refl _ _).drew
      have GD : Hid (SgB y1.heap.size A G key e1 c1 E e2 c2 P v9.drew) := G10.out.below (Below.refl _ _).drew
      have OD := ownS_below O10.out (Below.refl _ _).drew
      have HE : Hid _ := fun u0 u1 u2 u3 u4 u5 => HEnd.out _ (hd) (key) (some ⟨g, 0, none⟩) d (S ++ [zt]) u0 u1 u2 u3 u4 u5 LD.out GD.out OD (by have := HBd.out.2; omega) ⟨by have := HEP.out.2.2.2; omega, by have := HEP.out.2.2.2; omega⟩ (by simp; omega)
      obtain ⟨r1, r2⟩ := HRes.out _ LD.out.gr
      obtain ⟨d0, d1, d2, f0, f1, f2⟩ := res3 r1
      obtain ⟨e0', e1', e2', g0, g1, g2⟩ := res3 r2
      have hn4 : (w.heap.size ≠ A ∧ w.heap.size + 1 ≠ A) ∧ w.heap.size ≠ G ∧ w.heap.size + 1 ≠ G := by have := GD.out.lt; have := HPw.out; have := HPy.out; omega
      have ka := LD.out.aud
      have kg := GD.out.box
      have ka1 := ((ka.other w.heap.size 0 hn4.1.1 (.string ak)).other w.heap.size 1 hn4.1.1 (.int .i64 az)).other w.heap.size 2 hn4.1.1 (.string ar)
      have kg1 := ((kg.other w.heap.size 0 hn4.2.1 (.string ak)).other w.heap.size 1 hn4.2.1 (.int .i64 az)).other w.heap.size 2 hn4.2.1 (.string ar)
      have ka2 := ((ka1.other (w.heap.size + 1) 0 hn4.1.2 (.int .i64 key)).other (w.heap.size + 1) 1 hn4.1.2 (.slice e1 E.length c1)).other (w.heap.size + 1) 2 hn4.1.2 (.slice e2 P.length c2)
      have kg2 := ((kg1.other (w.heap.size + 1) 0 hn4.2.2 (.int .i64 key)).other (w.heap.size + 1) 1 hn4.2.2 (.slice e1 E.length c1)).other (w.heap.size + 1) 2 hn4.2.2 (.slice e2 P.length c2)
      have HC0 : Hid (_ ∧ _) := And.intro (And.intro (ka.cell 0) (And.intro (ka.cell 1) (ka.cell 2))) (And.intro (kg.cell 0) (And.intro (kg.cell 1) (kg.cell 2)))
      have HC1 : Hid (_ ∧ _) := And.intro (And.intro (ka1.cell 0) (And.intro (ka1.cell 1) (ka1.cell 2))) (And.intro (kg1.cell 0) (And.intro (kg1.cell 1) (kg1.cell 2)))
      have HC2 : Hid (_ ∧ _) := And.intro (And.intro (ka2.cell 0) (And.intro (ka2.cell 1) (ka2.cell 2))) (And.intro (kg2.cell 0) (And.intro (kg2.cell 1) (kg2.cell 2)))
      clear HEnd S10 G10 O10 LD GD OD r1 r2 ka kg ka1 kg1 ka2 kg2 hn4 hAb
      refine wp_region_held_drew (S := fun w' => (w'.cell? ⟨A, 0, none⟩ = some (.string ak) ∧ w'.cell? ⟨A, 1, none⟩ = some (.int .i64 az) ∧ w'.cell? ⟨A, 2, none⟩ = some (.string ar)) ∧ w'.cell? ⟨G, 0, none⟩ = some (.int .i64 key) ∧ w'.cell? ⟨G, 1, none⟩ = some (.slice e1 E.length c1) ∧ w'.cell? ⟨G, 2, none⟩ = some (.slice e2 P.length c2)) (by kernel_rfl) (HC0.out) (fun hHeld => ?_)
      generalize v9.drew = xd at *
      refine take_at 0 (v := ?_) rfl (by kernel_rfl) (by kernel_rfl) (by kernel_rfl) (fun _ _ _ h => h) hHeld (Or.inl ⟨by rfl, ?_⟩) ?_
      rotate_left
      · (intro w hSw; (try dsimp only at hSw); go_simp; try with_reducible rfl)
      simp only [Act.put, List.setIfInBounds_toArray, List.set_cons_zero, List.set_cons_succ]
      refine take_at 1 (v := ?_) rfl (by kernel_rfl) (by kernel_rfl) (by kernel_rfl) (fun _ _ _ h => h) hHeld (Or.inl ⟨by rfl, ?_⟩) ?_
      rotate_left
      · (intro w hSw; (try dsimp only at hSw); go_simp; try with_reducible rfl)
      simp only [Act.put, List.setIfInBounds_toArray, List.set_cons_zero, List.set_cons_succ]
      refine take_at 2 (v := ?_) rfl (by kernel_rfl) (by kernel_rfl) (by kernel_rfl) (fun _ _ _ h => h) hHeld (Or.inl ⟨by rfl, ?_⟩) ?_
      rotate_left
      · (intro w hSw; (try dsimp only at hSw); go_simp; try with_reducible rfl)
      simp only [Act.put, List.setIfInBounds_toArray, List.set_cons_zero, List.set_cons_succ]
      refine take_at 3 (v := ?_) rfl (by kernel_rfl) (by kernel_rfl) (by kernel_rfl) (fun _ _ _ h => h) hHeld (Or.inl ⟨by rfl, ?_⟩) ?_
      rotate_left
      · (intro w hSw; (try dsimp only at hSw); go_simp; try with_reducible rfl)
      simp only [Act.put, List.setIfInBounds_toArray, List.set_cons_zero, List.set_cons_succ]
      refine ready_at 4 rfl (by kernel_rfl) (fun K hK => ?_)
      go_simp
      refine hK.out _ _ (HC1.out) (fun hHeld => ?_)
      clear hK K
      try simp only [Act.put, List.setIfInBounds_toArray, List.set_cons_zero, List.set_cons_succ]
      refine take_at 5 (v := ?_) rfl (by kernel_rfl) (by kernel_rfl) (by kernel_rfl) (fun _ _ _ h => h) hHeld (Or.inl ⟨by rfl, ?_⟩) ?_
      rotate_left
      · (intro w hSw; (try dsimp only at hSw); go_simp; try with_reducible rfl)
      simp only [Act.put, List.setIfInBounds_toArray, List.set_cons_zero, List.set_cons_succ]
      refine ready_at 6 rfl (by kernel_rfl) (fun K hK => ?_)
      go_simp
      refine hK.out _ _ (HC2.out) (fun hHeld => ?_)
      clear hK K
      try simp only [Act.put, List.setIfInBounds_toArray, List.set_cons_zero, List.set_cons_succ]
      refine take_at 7 (v := ?_) rfl (by kernel_rfl) (by kernel_rfl) (by kernel_rfl) (fun _ _ _ h => h) hHeld (Or.inl ⟨by rfl, ?_⟩) ?_
      rotate_left
      · (intro w hSw; (try dsimp only at hSw); go_simp; try with_reducible rfl)
      simp only [Act.put, List.setIfInBounds_toArray, List.set_cons_zero, List.set_cons_succ]
      refine wpAnyH_done (by kernel_rfl) ?_ _
      clear hHeld HC0 HC1 HC2
      go_wp2_with fail
      refine bodyPost_ret (v := .tuple #[.agg #[.string ak, .int .i64 az, .string ar], .string (hd), .agg #[.int .i64 key, .slice e1 E.length c1, .slice e2 P.length c2], .slice (some ⟨g, 0, none⟩) (S ++ [zt]).length d]) (by simp [results, Tryz.results5, go_sem, d0, d1, d2, e0', e1', e2']) rfl ?_
      exact HE.out _ _ _ _ _ _
    have z1 : (m == 1) = false := beq_eq_false_iff_ne.2 hm1
    clear hm0 hm1 m0 m2
    go_wp2_with fail
    refine (n_any B PP a len cap 5 _ S8.out.src (by omega)).mono ?_
    rintro e y9 ⟨⟨r, rfl, r0, r1, -⟩, ss, gg⟩
    have r2 := r1 (by omega)
    have S9 : Hid (LkS y1 B PP a len cap X q cq rs p' cp lv now A ak az ar y9) := S8.out.step ss gg
    have G9 : Hid (SgB y1.heap.size A G key e1 c1 E e2 c2 P y9) := G8.out.low gg HPy.out hAb
    have O9 : Hid (y9.ownsRow b5 9 1 (.slice pq S.length pc) S.length (strRow S)) := O8.out.kept gg (.inr (fun e => by have := (O8.out.lt _ e).1; have := HPy.out; have := H5.out.1.1; omega))
    have k0 := G9.out.box.cell 0
    have k1 := G9.out.box.fr 0
    have S10 : Hid (LkS y1 B PP a len cap X q cq rs p' cp lv now A ak az ar (y9.setCell ⟨G, 0, none⟩ (.int .i64 r))) := S9.out.later (set_grw y9 G 0 _) G9.out.lt
    have G10 : Hid (SgB y1.heap.size A G r e1 c1 E e2 c2 P (y9.setCell ⟨G, 0, none⟩ (.int .i64 r))) := G9.out.setK r
    have O10 : Hid ((y9.setCell ⟨G, 0, none⟩ (.int .i64 r)).ownsRow b5 9 1 (.slice pq S.length pc) S.length (strRow S)) := O9.out.kept (set_grw y9 G 0 _) (.inr (fun e => own_box O9.out G9.out.box (by decide) e))
    clear ss gg S8 G8 O8 r1 S9 G9 O9
    go_upto_region 15 with fail
    clear k0 k1
    generalize y9.setCell ⟨G, 0, none⟩ (.int .i64 r) = y10 at *
    have LD : Hid (LkS y1 B PP a len cap X q cq rs p' cp lv now A ak az ar y10.drew) := S10.out.below (Below.refl _ _).drew
    have GD : Hid (SgB y1.heap.size A G r e1 c1 E e2 c2 P y10.drew) := G10.out.below (Below.refl _ _).drew
    have OD := ownS_below O10.out (Below.refl _ _).drew
    have HE : Hid _ := fun u0 u1 u2 u3 u4 u5 => HEnd.out _ (hd) (r) pq pc (S) u0 u1 u2 u3 u4 u5 LD.out GD.out OD (by have := HBd.out.2; omega) ⟨by omega, by omega⟩ (by omega)
    obtain ⟨r1, r2⟩ := HRes.out _ LD.out.gr
    obtain ⟨d0, d1, d2, f0, f1, f2⟩ := res3 r1
    obtain ⟨e0', e1', e2', g0, g1, g2⟩ := res3 r2
    have hn4 : (w.heap.size ≠ A ∧ w.heap.size + 1 ≠ A) ∧ w.heap.size ≠ G ∧ w.heap.size + 1 ≠ G := by have := GD.out.lt; have := HPw.out; have := HPy.out; omega
    have ka := LD.out.aud
    have kg := GD.out.box
    have ka1 := ((ka.other w.heap.size 0 hn4.1.1 (.string ak)).other w.heap.size 1 hn4.1.1 (.int .i64 az)).other w.heap.size 2 hn4.1.1 (.string ar)
    have kg1 := ((kg.other w.heap.size 0 hn4.2.1 (.string ak)).other w.heap.size 1 hn4.2.1 (.int .i64 az)).other w.heap.size 2 hn4.2.1 (.string ar)
    have ka2 := ((ka1.other (w.heap.size + 1) 0 hn4.1.2 (.int .i64 r)).other (w.heap.size + 1) 1 hn4.1.2 (.slice e1 E.length c1)).other (w.heap.size + 1) 2 hn4.1.2 (.slice e2 P.length c2)
    have kg2 := ((kg1.other (w.heap.size + 1) 0 hn4.2.2 (.int .i64 r)).other (w.heap.size + 1) 1 hn4.2.2 (.slice e1 E.length c1)).other (w.heap.size + 1) 2 hn4.2.2 (.slice e2 P.length c2)
    have HC0 : Hid (_ ∧ _) := And.intro (And.intro (ka.cell 0) (And.intro (ka.cell 1) (ka.cell 2))) (And.intro (kg.cell 0) (And.intro (kg.cell 1) (kg.cell 2)))
    have HC1 : Hid (_ ∧ _) := And.intro (And.intro (ka1.cell 0) (And.intro (ka1.cell 1) (ka1.cell 2))) (And.intro (kg1.cell 0) (And.intro (kg1.cell 1) (kg1.cell 2)))
    have HC2 : Hid (_ ∧ _) := And.intro (And.intro (ka2.cell 0) (And.intro (ka2.cell 1) (ka2.cell 2))) (And.intro (kg2.cell 0) (And.intro (kg2.cell 1) (kg2.cell 2)))
    clear HEnd S10 G10 O10 LD GD OD r1 r2 ka kg ka1 kg1 ka2 kg2 hn4 hAb
    refine wp_region_held_drew (S := fun w' => (w'.cell? ⟨A, 0, none⟩ = some (.string ak) ∧ w'.cell? ⟨A, 1, none⟩ = some (.int .i64 az) ∧ w'.cell? ⟨A, 2, none⟩ = some (.string ar)) ∧ w'.cell? ⟨G, 0, none⟩ = some (.int .i64 r) ∧ w'.cell? ⟨G, 1, none⟩ = some (.slice e1 E.length c1) ∧ w'.cell? ⟨G, 2, none⟩ = some (.slice e2 P.length c2)) (by kernel_rfl) (HC0.out) (fun hHeld => ?_)
    generalize y10.drew = xd at *
    refine take_at 0 (v := ?_) rfl (by kernel_rfl) (by kernel_rfl) (by kernel_rfl) (fun _ _ _ h => h) hHeld (Or.inl ⟨by rfl, ?_⟩) ?_
    rotate_left
    · (intro w hSw; (try dsimp only at hSw); go_simp; try with_reducible rfl)
    simp only [Act.put, List.setIfInBounds_toArray, List.set_cons_zero, List.set_cons_succ]
    refine take_at 1 (v := ?_) rfl (by kernel_rfl) (by kernel_rfl) (by kernel_rfl) (fun _ _ _ h => h) hHeld (Or.inl ⟨by rfl, ?_⟩) ?_
    rotate_left
    · (intro w hSw; (try dsimp only at hSw); go_simp; try with_reducible rfl)
    simp only [Act.put, List.setIfInBounds_toArray, List.set_cons_zero, List.set_cons_succ]
    refine take_at 2 (v := ?_) rfl (by kernel_rfl) (by kernel_rfl) (by kernel_rfl) (fun _ _ _ h => h) hHeld (Or.inl ⟨by rfl, ?_⟩) ?_
    rotate_left
    · (intro w hSw; (try dsimp only at hSw); go_simp; try with_reducible rfl)
    simp only [Act.put, List.setIfInBounds_toArray, List.set_cons_zero, List.set_cons_succ]
    refine take_at 3 (v := ?_) rfl (by kernel_rfl) (by kernel_rfl) (by kernel_rfl) (fun _ _ _ h => h) hHeld (Or.inl ⟨by rfl, ?_⟩) ?_
    rotate_left
    · (intro w hSw; (try dsimp only at hSw); go_simp; try with_reducible rfl)
    simp only [Act.put, List.setIfInBounds_toArray, List.set_cons_zero, List.set_cons_succ]
    refine ready_at 4 rfl (by kernel_rfl) (fun K hK => ?_)
    go_simp
    refine hK.out _ _ (HC1.out) (fun hHeld => ?_)
    clear hK K
    try simp only [Act.put, List.setIfInBounds_toArray, List.set_cons_zero, List.set_cons_succ]
    refine take_at 5 (v := ?_) rfl (by kernel_rfl) (by kernel_rfl) (by kernel_rfl) (fun _ _ _ h => h) hHeld (Or.inl ⟨by rfl, ?_⟩) ?_
    rotate_left
    · (intro w hSw; (try dsimp only at hSw); go_simp; try with_reducible rfl)
    simp only [Act.put, List.setIfInBounds_toArray, List.set_cons_zero, List.set_cons_succ]
    refine ready_at 6 rfl (by kernel_rfl) (fun K hK => ?_)
    go_simp
    refine hK.out _ _ (HC2.out) (fun hHeld => ?_)
    clear hK K
    try simp only [Act.put, List.setIfInBounds_toArray, List.set_cons_zero, List.set_cons_succ]
    refine take_at 7 (v := ?_) rfl (by kernel_rfl) (by kernel_rfl) (by kernel_rfl) (fun _ _ _ h => h) hHeld (Or.inl ⟨by rfl, ?_⟩) ?_
    rotate_left
    · (intro w hSw; (try dsimp only at hSw); go_simp; try with_reducible rfl)
    simp only [Act.put, List.setIfInBounds_toArray, List.set_cons_zero, List.set_cons_succ]
    refine wpAnyH_done (by kernel_rfl) ?_ _
    clear hHeld HC0 HC1 HC2
    go_wp2_with fail
    refine bodyPost_ret (v := .tuple #[.agg #[.string ak, .int .i64 az, .string ar], .string (hd), .agg #[.int .i64 r, .slice e1 E.length c1, .slice e2 P.length c2], .slice pq (S).length pc]) (by simp [results, Tryz.results5, go_sem, d0, d1, d2, e0', e1', e2']) rfl ?_
    exact HE.out _ _ _ _ _ _
end Go.Proofs.YtonleickhincgaaGreatDoor
