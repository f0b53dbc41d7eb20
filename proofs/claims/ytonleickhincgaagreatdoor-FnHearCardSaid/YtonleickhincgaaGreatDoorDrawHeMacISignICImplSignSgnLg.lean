/-
  Parts of one proof, laid as one text: DrawHe, MacI, SignIC, ImplSign, SgnLg; what each says stands at its head.
-/
import Derived.Test.YtonleickhincgaaGreatDoorRows
import Derived.Test.YtonleickhincgaaGreatDoorBytesDigMath
import Derived.Test.YtonleickhincgaaGreatDoorTreeMathSlABxKSlBOwnS
import Derived.Test.YtonleickhincgaaGreatDoorLgLawTakesTakesLPutterPathI
import Derived.Test.YtonleickhincgaaGreatDoorFldIsTimeIGrKSpecGNSpecGTTillTwoFldN
import Derived.Test.YtonleickhincgaaGreatDoorMac2AppSSrcDrawsDrawKitSomeIsInSignSSignDWide2StepAppPath2DigestDrawTreeSpoil
import Derived.Test.YtonleickhincgaaGreatDoorTimeBPutMathPutNumJoinedPutTextFldMath
import Derived.Test.YtonleickhincgaaGreatDoorGetValGetTxtNumMathFldRdNumFromTmbMathLgMath
import Derived.Test.YtonleickhincgaaGreatDoorLgAtKLgAnsLgRtAudMathHdMathClaMathHearMathFldGOneKFldBlkRwBlkRowOps
import Derived.Test.YtonleickhincgaaGreatDoorLgOLtMathLfMathLaMath
import Derived.Test.YtonleickhincgaaGreatDoorLfSDrawLoDrawLoMSpoilT
import Derived.Test.YtonleickhincgaaGreatDoorDrawLog
import Derived.Test.YtonleickhincgaaGreatDoorDrawLkDrawCkSpecRtDrawPg
import Derived.Test.YtonleickhincgaaGreatDoorDrawCa
import Derived.Handy
import Derived.WalkSpells
import Derived.OwnWalk
import Derived.Deep.RegionWith
import Derived.Deep.RegionHeld3
import Derived.Deep.Cut
import Derived.Deep.CutRange
import Derived.Test.YtonleickhincgaaGreatDoorShwKOwnBPadIMacMathSgnBDigITurn2
import Derived.Test.YtonleickhincgaaGreatDoorBlockI
import Derived.Test.YtonleickhincgaaGreatDoorPowerHalvesTreeTree2TreeHPathMathIncMathTakerTakePathConMathProofLawSignMath
import Derived.Test.YtonleickhincgaaGreatDoorSignGSignVImplRightIncISignIMDigAllSignIASignIBSignIDg
import Derived.Deep.RegionLaw
import Derived.Test.YtonleickhincgaaGreatDoorImplVerInc2SignRSignWFldRiseScanMath
import Derived.Test.YtonleickhincgaaGreatDoorSpecLr
import Derived.Test.YtonleickhincgaaGreatDoorLogRIImplRtLawSLawMLawMGLawFLawFMLawFRLawSGLawLgLawLhLawLzLawLmPrfLs
/-
  What DrawAuditorRight and DrawHeadRead draw: an Auditor, a text, both of small texts.
  Conditions: the code is at most 2^20 bytes.
-/
namespace Go.Proofs.YtonleickhincgaaGreatDoor
open Go.RowKit Go.Lib
set_option linter.unusedVariables false
set_option maxRecDepth 20000

theorem hdO_small (rs : List Rw) (lv : List ByteArray) (now : Int) : (hdO rs lv now).size ≤ 60 := by
  unfold hdO
  split
  · unfold hdB
    have h1 := putTextB_32 (treeB_size lv)
    have h2 : (putB (lv.length : Int)).size ≤ 10 := putB_size _
    rw [ByteArray.size_append]; omega
  · simp
set_option maxHeartbeats 4000000 in
theorem drawHeadRead_any (B : Nat) (a : Option Addr) (len cap : Nat) (w : World) (hlen : len ≤ 1048576) (hB : B ≤ w.heap.size) (hc : CodeAt B a len w) :
    Calls Tryz.prog 8 #[.slice a len cap] w fun e w' => (∃ u : ByteArray, e = .returned (.string u) ∧ u.size ≤ 100) ∧ Below w.heap.size w w' := by
  have HC : Hid (CodeAt B a len w) := hc
  clear hc
  go_enter Tryz.func8, Tryz.ntmps8
  go_wp2_with fail
  refine (source_any B a len cap w hlen hB HC.out).mono ?_
  rintro e y1 ⟨rfl, s1, bs1⟩
  have hPw : w.heap.size < y1.heap.size := s1.lt
  go_wp2_with fail
  refine (l09Log_drawn B w.heap.size a len cap y1 s1).mono ?_
  rintro e y2 ⟨⟨q, cq, rs, p', cp, lv, now, rfl, hi, hf⟩, s2, g2⟩
  have hHT := specHeadText_any p' lv cp q rs cq now y2 hi.at
  have hsz := hdO_small rs lv now
  have b2 := below_touch bs1 g2 (Nat.le_refl _)
  generalize hdO rs lv now = T at *
  clear hi hf g2 s1 bs1
  go_wp2_with fail
  refine hHT.mono ?_
  rintro e y3 ⟨rfl, b3⟩
  have s3 := s2.below b3
  have b3 := chainB b2 b3
  clear hHT s2 b2
  go_wp2_with fail
  refine (n_any B w.heap.size a len cap 4 _ s3 (by omega)).mono ?_
  rintro e y4 ⟨⟨n, rfl, n0, n1, -⟩, s4, g4⟩
  have n2 := n1 (by omega)
  have b4 := below_touch b3 g4 (Nat.le_refl _)
  clear s3 b3 g4 n1
  by_cases hn0 : n = 0
  · subst hn0
    clear n0 n2
    go_wp2_with fail
    refine (spoilT_any B w.heap.size a len cap T _ s4 (by omega)).mono ?_
    rintro e y5 ⟨⟨u, rfl, hu⟩, s5, g5⟩
    have b5 := below_touch b4 g5 (Nat.le_refl _)
    clear s4 b4 g5 s5
    go_wp2_with fail
    go_ret
    exact ⟨⟨u, rfl, by omega⟩, b5⟩
  have e0 : (n == 0) = false := beq_eq_false_iff_ne.2 hn0
  by_cases hn1 : n = 1
  · subst hn1
    clear n0 n2 hn0 s4
    go_wp2_with fail
    go_ret
    exact ⟨⟨_, rfl, by rw [ByteArray.size_append]; have z120 : (⟨#[120]⟩ : ByteArray).size = 1 := rfl; omega⟩, b4⟩
  have e1 : (n == 1) = false := beq_eq_false_iff_ne.2 hn1
  clear n0 n2 hn0 hn1 s4
  go_wp2_with fail
  go_ret
  exact ⟨⟨T, rfl, by omega⟩, b4⟩
set_option maxHeartbeats 4000000 in
theorem drawAuditorRight_any (B : Nat) (a : Option Addr) (len cap : Nat) (w : World) (hlen : len ≤ 1048576) (hB : B ≤ w.heap.size) (hc : CodeAt B a len w) :
    Calls Tryz.prog 9 #[.slice a len cap] w fun e w' => (∃ (ak : ByteArray) (az : Int) (ar : ByteArray), e = .returned (.agg #[.string ak, .int .i64 az, .string ar]) ∧ AudZ ak az ar) ∧ Below w.heap.size w w' := by
  obtain ⟨W1, hW1⟩ : ∃ W1, W1 = w.alloc (.cells #[.string ⟨#[]⟩, .int .i64 0, .string ⟨#[]⟩] 24) := ⟨_, rfl⟩
  have HW : Hid (W1 = w.alloc (.cells #[.string ⟨#[]⟩, .int .i64 0, .string ⟨#[]⟩] 24)) := hW1
  have b1 : Hid (Below w.heap.size w W1) := by rw [hW1]; exact (Below.refl _ _).alloc (Nat.le_refl _) _
  have R1 : Hid (Bxs W1 w.heap.size 24 #[.string ⟨#[]⟩, .int .i64 0, .string ⟨#[]⟩]) := by rw [hW1]; exact Bxs.new _ _ _
  have HZ1 : Hid (W1.heap.size = w.heap.size + 1) := by rw [hW1]; exact szA _ _
  have hB1 : B ≤ W1.heap.size := Nat.le_trans hB b1.out.size
  have HC : Hid (CodeAt B a len W1) := hc.below (b1.out.mono hB)
  clear hW1 hc
  go_enter Tryz.func9, Tryz.ntmps9
  go_wp2_with fail
  rw [← HW.out]
  clear HW
  refine (source_any B a len cap W1 hlen hB1 HC.out).mono ?_
  rintro e y1 ⟨rfl, s1, bs1⟩
  go_wp2_with fail
  refine (l12Case_drawn B W1.heap.size a len cap y1 s1).mono ?_
  rintro e y2 ⟨⟨q, cq, rs, p', cp, lv, now, ak, az, ar, rfl, hi, hf, hz⟩, s2, g2⟩
  have hz1 := HZ1.out
  obtain ⟨W3, hW3⟩ : ∃ W3, W3 = (y2.alloc (.cells #[.slice q rs.length cq, .slice p' lv.length cp, .int .i64 now] 41)).alloc (.cells #[.string ak, .int .i64 az, .string ar] 24) := ⟨_, rfl⟩
  have HW3 : Hid (W3 = (y2.alloc (.cells #[.slice q rs.length cq, .slice p' lv.length cp, .int .i64 now] 41)).alloc (.cells #[.string ak, .int .i64 az, .string ar] 24)) := hW3
  have ba : Below y2.heap.size y2 W3 := by rw [hW3]; exact alB ((Below.refl _ _).alloc (Nat.le_refl _) _) _
  have r3 := ((R1.out.below bs1).grown g2 (fun e => by have := Option.some.inj e; omega)).below ba
  obtain ⟨d0, d1, d2, f0, f1, f2⟩ := res3 r3
  have KA : Bxs W3 (y2.heap.size + 1) 24 #[.string ak, .int .i64 az, .string ar] := by
    rw [hW3]
    have h := Bxs.new (y2.alloc (.cells #[.slice q rs.length cq, .slice p' lv.length cp, .int .i64 now] 41)) 24 #[.string ak, .int .i64 az, .string ar]
    rwa [szA] at h
  obtain ⟨a0, a1, a2, -, -, -⟩ := res3 KA
  have b3 : Below w.heap.size w W3 := chainB (below_touch (chainB b1.out bs1) g2 (by omega)) ba
  have HE : Hid (∀ u0 u1 u2 : Value, Below w.heap.size w (((W3.setCell ⟨w.heap.size, 0, none⟩ u0).setCell ⟨w.heap.size, 1, none⟩ u1).setCell ⟨w.heap.size, 2, none⟩ u2)) := fun u0 u1 u2 => below_set3 b3 (Nat.le_refl _) _ _ _
  have HZ : Hid (AudZ ak az ar) := hz
  clear hW3 ba r3 b3 KA hi hf hz s2 g2 s1 bs1 R1 b1 HC
  go_upto_region 2 with fail
  rw [← HW3.out]
  clear HW3
  go_wp2_with fail
  refine bodyPost_ret (v := .agg #[.string ak, .int .i64 az, .string ar]) (by simp [results, Tryz.results9, go_sem, d0, d1, d2]) rfl ?_
  exact ⟨⟨ak, az, ar, rfl, HZ.out⟩, HE.out _ _ _⟩
end Go.Proofs.YtonleickhincgaaGreatDoor
/-
  The program's keyBlock and Mac: 'padK', 'macA', in new memory.
  Conditions: the two tables lie as the program's text lays them.
-/
namespace Go.Proofs.YtonleickhincgaaGreatDoor
open Go.RowKit Go.Lib
set_option linter.unusedVariables false

theorem z64 : (zrow 64).toArray = #[.int .u8 0, .int .u8 0, .int .u8 0, .int .u8 0, .int .u8 0, .int .u8 0, .int .u8 0, .int .u8 0, .int .u8 0, .int .u8 0, .int .u8 0, .int .u8 0, .int .u8 0, .int .u8 0, .int .u8 0, .int .u8 0, .int .u8 0, .int .u8 0, .int .u8 0, .int .u8 0, .int .u8 0, .int .u8 0, .int .u8 0, .int .u8 0, .int .u8 0, .int .u8 0, .int .u8 0, .int .u8 0, .int .u8 0, .int .u8 0, .int .u8 0, .int .u8 0, .int .u8 0, .int .u8 0, .int .u8 0, .int .u8 0, .int .u8 0, .int .u8 0, .int .u8 0, .int .u8 0, .int .u8 0, .int .u8 0, .int .u8 0, .int .u8 0, .int .u8 0, .int .u8 0, .int .u8 0, .int .u8 0, .int .u8 0, .int .u8 0, .int .u8 0, .int .u8 0, .int .u8 0, .int .u8 0, .int .u8 0, .int .u8 0, .int .u8 0, .int .u8 0, .int .u8 0, .int .u8 0, .int .u8 0, .int .u8 0, .int .u8 0, .int .u8 0] := rfl
theorem conv_rowI {w : World} {g : Nat} {xs : List Int} {T : TypeId} (h : w.heap[g]? = some (.cells (rowN xs).toArray T (0, 0))) (n c : Nat) (hn : xs.length = n) :
    (convert 22 9 (.slice (some ⟨g, 0, none⟩) n c)).run Tryz.prog w = .ok (.string (strOfNums xs)) w :=
  run_convert_bytes_arg (P := Tryz.prog) w 22 5 Tryz.underlying22 Tryz.underlying5 g 0 n c xs hn (fun i hi => by
    have : i < xs.length := by omega
    simp [World.cell?, h, rowN, List.getD_eq_getElem?_getD, this]) 9 Tryz.underlying9

def GivesT (f : FuncId) (args : Array Value) (r : ByteArray) : Prop := ∀ w, Tabs w → Calls Tryz.prog f args w fun e w' => e = .returned (.string r) ∧ Below w.heap.size w w'
theorem chain2 {w w1 w2 : World} (b1 : Below w.heap.size w w1) (b2 : Below w1.heap.size w1 w2) : Below w.heap.size w w2 := b1.trans (b2.mono b1.size)
end Go.Proofs.YtonleickhincgaaGreatDoor
/-
  What the program's chainStarts, publicText, publicTexts and KeyRoot answer: 'begB', 'pubB', 'pubsB', 'rootA'.
  Conditions: the two tables lie as the program's text lays them; a seed of the inner ones has at most 8000 bytes.
-/
namespace Go.Proofs.YtonleickhincgaaGreatDoor
open Go.RowKit Go.Lib
set_option linter.unusedVariables false
set_option maxRecDepth 20000

/-- Six numbers of which the first k are 15, the others 0. -/
def mostTo (k : Nat) : List Int := List.replicate k 15 ++ List.replicate (6 - k) 0
theorem mostTo_len (k : Nat) (h : k ≤ 6) : (mostTo k).length = 6 := by simp [mostTo]; omega
theorem mostTo_set (k : Nat) (h : k < 6) : (mostTo k).set k 15 = mostTo (k + 1) := by
  match k, h with
  | 0, _ => rfl
  | 1, _ => rfl
  | 2, _ => rfl
  | 3, _ => rfl
  | 4, _ => rfl
  | 5, _ => rfl
  | k + 6, h => omega
theorem mostTo_at (j : Nat) (h : j < 6) : (mostTo 6).getD j 0 = 15 := by
  match j, h with
  | 0, _ => rfl
  | 1, _ => rfl
  | 2, _ => rfl
  | 3, _ => rfl
  | 4, _ => rfl
  | 5, _ => rfl
  | k + 6, h => omega

end Go.Proofs.YtonleickhincgaaGreatDoor
/-
  What the program's Sign answers: 'sgK', 'sgE', 'sgP'.
  Conditions: the two tables lie as the program's text lays them.
-/
namespace Go.Proofs.YtonleickhincgaaGreatDoor
open Go.RowKit Go.Lib
set_option linter.unusedVariables false
set_option maxRecDepth 20000

end Go.Proofs.YtonleickhincgaaGreatDoor
/-
  What the specification's and the program's HeadSign answer of any log in memory: of a right one the signature of its head, else nothing; the answer owns its memory.
-/
namespace Go.Proofs.YtonleickhincgaaGreatDoor
open Go.RowKit Go.Lib
set_option linter.unusedVariables false
set_option maxRecDepth 20000

def hsK (rs : List Rw) (lv : List ByteArray) (now : Int) (seed : ByteArray) (key : Int) : Int := if lgB rs lv now = true then sgK seed key (hdB lv) else 0
def hsE (rs : List Rw) (lv : List ByteArray) (now : Int) (seed : ByteArray) (key : Int) : List ByteArray := if lgB rs lv now = true then sgE seed key (hdB lv) else []
def hsP (rs : List Rw) (lv : List ByteArray) (now : Int) (seed : ByteArray) (key : Int) : List ByteArray := if lgB rs lv now = true then sgP seed key (hdB lv) else []
theorem hdB_size (lv : List ByteArray) : 32 ≤ (hdB lv).size ∧ (hdB lv).size ≤ 1048576 := by
  unfold hdB putTextB
  have h := treeB_size lv
  have h1 : (putB (lv.length : Int)).size ≤ 10 := putB_size _
  have h2 : (putB ((treeB lv).size : Int)).size ≤ 10 := putB_size _
  rw [if_neg (by omega), ByteArray.size_append, ByteArray.size_append]
  omega
theorem hdB_ne (lv : List ByteArray) : hdB lv ≠ ByteArray.empty := fun h => by
  have := (hdB_size lv).1
  rw [h] at this
  simp at this
theorem sig_out {w y : World} (hb : Below w.heap.size w y) {g base : Nat} (hg : w.heap.size ≤ g) (hgb : g < base) {v1 v2 : Value} {E P : List ByteArray} (o1 : y.ownsRow base 9 1 v1 E.length (strRow E)) (o2 : y.ownsRow base 9 1 v2 P.length (strRow P)) (a b c : Value) :
    (((y.setCell ⟨g, 0, none⟩ a).setCell ⟨g, 1, none⟩ b).setCell ⟨g, 2, none⟩ c).ownsRow w.heap.size 9 1 v1 E.length (strRow E) ∧ (((y.setCell ⟨g, 0, none⟩ a).setCell ⟨g, 1, none⟩ b).setCell ⟨g, 2, none⟩ c).ownsRow w.heap.size 9 1 v2 P.length (strRow P) ∧ Below w.heap.size w (((y.setCell ⟨g, 0, none⟩ a).setCell ⟨g, 1, none⟩ b).setCell ⟨g, 2, none⟩ c) := by
  have hB : But (fun k => k = g) y (((y.setCell ⟨g, 0, none⟩ a).setCell ⟨g, 1, none⟩ b).setCell ⟨g, 2, none⟩ c) := (((But.refl (fun k => k = g) y).put (p := ⟨g, 0, none⟩) rfl a).put (p := ⟨g, 1, none⟩) rfl b).put (p := ⟨g, 2, none⟩) rfl c
  refine ⟨ownS_mono (ownS_but o1 hB (fun j hj e => by have := (o1.lt j hj).1; omega)) (by omega), ownS_mono (ownS_but o2 hB (fun j hj e => by have := (o2.lt j hj).1; omega)) (by omega), below_set3 hb hg _ _ _⟩
theorem sig_none (w y : World) : y.ownsRow w.heap.size 9 1 (.slice none 0 0) ([] : List ByteArray).length (strRow []) := World.ownsRow_nil _ _ _ _
set_option maxHeartbeats 2000000 in
theorem specHeadSign_any (p : Option Addr) (lv : List ByteArray) (cp : Nat) (q : Option Addr) (rs : List Rw) (cq : Nat) (now : Int) (seed : ByteArray) (key : Int) (w : World) (hs : seed.size ≤ 1048576) (hA : LgAt p lv cp q rs cq w) :
    Calls Tryz.prog 31 #[.agg #[.slice q rs.length cq, .slice p lv.length cp, .int .i64 now], .string seed, .int .i64 key] w fun e w' => ∃ v1 v2, e = .returned (.agg #[.int .i64 (hsK rs lv now seed key), v1, v2]) ∧ w'.ownsRow w.heap.size 9 1 v1 (hsE rs lv now seed key).length (strRow (hsE rs lv now seed key)) ∧ w'.ownsRow w.heap.size 9 1 v2 (hsP rs lv now seed key).length (strRow (hsP rs lv now seed key)) ∧ (v1.ownBlock = none ∨ v1.ownBlock ≠ v2.ownBlock) ∧ Below w.heap.size w w' := by
  obtain ⟨W2, hW2⟩ : ∃ W2, W2 = (w.alloc (.cells #[.slice q rs.length cq, .slice p lv.length cp, .int .i64 now] 41)).alloc (.cells #[.int .i64 0, .slice none 0 0, .slice none 0 0] 27) := ⟨_, rfl⟩
  have HW2 : Hid (W2 = (w.alloc (.cells #[.slice q rs.length cq, .slice p lv.length cp, .int .i64 now] 41)).alloc (.cells #[.int .i64 0, .slice none 0 0, .slice none 0 0] 27)) := hW2
  have B2 : Hid (Below w.heap.size w W2) := by rw [hW2]; exact ((Below.refl _ _).alloc (Nat.le_refl _) _).alloc (by simp) _
  have K1 : Hid (Bxs W2 w.heap.size 41 #[.slice q rs.length cq, .slice p lv.length cp, .int .i64 now]) := by rw [hW2]; exact (Bxs.new _ _ _).alloc _
  have K2 : Hid (Bxs W2 (w.heap.size + 1) 27 #[.int .i64 0, .slice none 0 0, .slice none 0 0]) := by
    rw [hW2]
    have := Bxs.new (w.alloc (.cells #[.slice q rs.length cq, .slice p lv.length cp, .int .i64 now] 41)) 27 #[.int .i64 0, .slice none 0 0, .slice none 0 0]
    rwa [szA] at this
  have hh := hdB_size lv
  have HSg : Hid (∀ x, Below w.heap.size w x → Calls Tryz.prog 79 #[.string seed, .int .i64 key, .string (hdB lv)] x fun e w' => ∃ v1 v2, e = .returned (.agg #[.int .i64 (sgK seed key (hdB lv)), v1, v2]) ∧ w'.ownsRow x.heap.size 9 1 v1 (sgE seed key (hdB lv)).length (strRow (sgE seed key (hdB lv))) ∧ w'.ownsRow x.heap.size 9 1 v2 (sgP seed key (hdB lv)).length (strRow (sgP seed key (hdB lv))) ∧ (v1.ownBlock = none ∨ v1.ownBlock ≠ v2.ownBlock) ∧ Below x.heap.size x w') := fun x hb => specSign_any seed key (hdB lv) x hs hh.2
  have hR := specLogRight_any p lv cp q rs cq now W2 (hA.below B2.out)
  have HH : Hid (lgB rs lv now = true → ∀ x, Below w.heap.size w x → Calls Tryz.prog 78 #[.agg #[.slice q rs.length cq, .slice p lv.length cp, .int .i64 now]] x fun e w' => e = .returned (.string (hdB lv)) ∧ Below x.heap.size x w') := fun hg x hb => l09Head_any p lv cp q rs cq now x (hA.below hb) (lg_small hg)
  have HK : Hid (∀ y, Below W2.heap.size W2 y → (y.cell? ⟨w.heap.size, 0, none⟩ = some (.slice q rs.length cq) ∧ y.cell? ⟨w.heap.size, 1, none⟩ = some (.slice p lv.length cp) ∧ y.cell? ⟨w.heap.size, 2, none⟩ = some (.int .i64 now)) ∧ (y.cell? ⟨w.heap.size + 1, 0, none⟩ = some (.int .i64 0) ∧ y.cell? ⟨w.heap.size + 1, 1, none⟩ = some (.slice none 0 0) ∧ y.cell? ⟨w.heap.size + 1, 2, none⟩ = some (.slice none 0 0)) ∧ y.frozen? ⟨w.heap.size + 1, 0, none⟩ = false ∧ y.frozen? ⟨w.heap.size + 1, 1, none⟩ = false ∧ y.frozen? ⟨w.heap.size + 1, 2, none⟩ = false) := fun y hb => ⟨⟨(K1.out.below hb).cell 0, (K1.out.below hb).cell 1, (K1.out.below hb).cell 2⟩, ⟨(K2.out.below hb).cell 0, (K2.out.below hb).cell 1, (K2.out.below hb).cell 2⟩, (K2.out.below hb).fr 0, (K2.out.below hb).fr 1, (K2.out.below hb).fr 2⟩
  have HZ : Hid (w.heap.size + 1 < W2.heap.size) := K2.out.lt
  obtain ⟨⟨x0, x1, x2⟩, -⟩ := HK.out W2 (Below.refl _ _)
  rw [HW2.out] at x0 x1 x2
  unfold hsK hsE hsP
  clear hW2 hA K1 K2 hh
  cases hg : lgB rs lv now with
  | false =>
    rw [hg] at hR
    rw [if_neg Bool.false_ne_true, if_neg Bool.false_ne_true, if_neg Bool.false_ne_true]
    clear HSg HH
    go_enter Tryz.func31, Tryz.ntmps31
    go_wp2_with fail
    rw [← HW2.out]
    refine hR.mono ?_
    rintro e y ⟨rfl, by_⟩
    obtain ⟨-, ⟨r0, r1, r2⟩, f0, f1, f2⟩ := HK.out y by_
    have HB : Hid (∀ a b c : Value, Below w.heap.size w (((y.setCell ⟨w.heap.size + 1, 0, none⟩ a).setCell ⟨w.heap.size + 1, 1, none⟩ b).setCell ⟨w.heap.size + 1, 2, none⟩ c)) := fun a b c => below_set3 (chainB B2.out by_) (Nat.le_add_right _ _) _ _ _
    clear hR x0 x1 x2 HW2 HK B2 by_
    go_wp2_with fail
    refine bodyPost_ret (v := .agg #[.int .i64 0, .slice none 0 0, .slice none 0 0]) (by simp [results, Tryz.results31, go_sem, r0, r1, r2]) rfl ?_
    exact ⟨_, _, rfl, sig_none _ _, sig_none _ _, .inl rfl, HB.out _ _ _⟩
  | true =>
    rw [hg] at hR
    rw [if_pos rfl, if_pos rfl, if_pos rfl]
    have HH2 : Hid (∀ x, Below w.heap.size w x → Calls Tryz.prog 78 #[.agg #[.slice q rs.length cq, .slice p lv.length cp, .int .i64 now]] x fun e w' => e = .returned (.string (hdB lv)) ∧ Below x.heap.size x w') := HH.out hg
    clear HH hg
    generalize hdB lv = HD at *
    generalize sgK seed key HD = K at *
    generalize sgE seed key HD = E at *
    generalize sgP seed key HD = P at *
    go_enter Tryz.func31, Tryz.ntmps31
    go_wp2_with fail
    rw [← HW2.out]
    refine hR.mono ?_
    rintro e y ⟨rfl, by_⟩
    obtain ⟨⟨x0, x1, x2⟩, -⟩ := HK.out y by_
    have hH := HH2.out y (chainB B2.out by_)
    clear hR HH2 HW2
    go_wp2_with fail
    refine hH.mono ?_
    rintro e y1 ⟨rfl, b1⟩
    have by1 : Below W2.heap.size W2 y1 := chainB by_ b1
    clear hH x0 x1 x2 by_ b1
    have hG := HSg.out y1 (chainB B2.out by1)
    clear HSg
    go_wp2_with fail
    refine hG.mono ?_
    rintro e y2 ⟨v1, v2, rfl, o1, o2, hne, b2⟩
    obtain ⟨p1, c1, rfl, m1, -⟩ := ownS_form o1
    obtain ⟨p2, c2, rfl, m2, -⟩ := ownS_form o2
    have by2 : Below W2.heap.size W2 y2 := chainB by1 b2
    obtain ⟨-, ⟨r0, r1, r2⟩, f0, f1, f2⟩ := HK.out y2 by2
    have hz := HZ.out
    have hz1 := by1.size
    have HO : Hid (∀ a b c : Value, _) := fun a b c => sig_out (chainB B2.out by2) (g := w.heap.size + 1) (by omega) (by omega) o1 o2 a b c
    have HNE : Hid ((Value.slice p1 E.length c1).ownBlock = none ∨ (Value.slice p1 E.length c1).ownBlock ≠ (Value.slice p2 P.length c2).ownBlock) := hne
    clear hG by1 b2 by2 HK B2 o1 o2 hne hz hz1 HZ
    go_wp2_with fail
    refine bodyPost_ret (v := .agg #[.int .i64 K, .slice p1 E.length c1, .slice p2 P.length c2]) (by simp [results, Tryz.results31, go_sem, r0, r1, r2]) rfl ?_
    obtain ⟨h1, h2, h3⟩ := HO.out (.int .i64 K) (.slice p1 E.length c1) (.slice p2 P.length c2)
    exact ⟨_, _, rfl, h1, h2, HNE.out, h3⟩
end Go.Proofs.YtonleickhincgaaGreatDoor
