/-
  Parts of one proof, laid as one text: LwSig, DrawSeed; what each says stands at its head.
-/
import Derived.Test.YtlmkfjlaakmmpaaDoorRows
import Derived.Test.YtlmkfjlaakmmpaaDoorBytes
import Derived.Test.YtlmkfjlaakmmpaaDoorSlA
import Derived.Test.YtlmkfjlaakmmpaaDoorDrawTreeDigest
import Derived.Handy
import Derived.WalkSpells
import Derived.Test.YtlmkfjlaakmmpaaDoorSlBOwnS
import Derived.Test.YtlmkfjlaakmmpaaDoorAppS
import Derived.Test.YtlmkfjlaakmmpaaDoorSrcDrawsDrawKit
import Derived.Test.YtlmkfjlaakmmpaaDoorSome
import Derived.OwnWalk
import Derived.Deep.RegionLaw
import Derived.Deep.RegionWith
/-
  What lwSig answers at two signatures of the same parts: true.
-/
namespace Go.Proofs.YtlmkfjlaakmmpaaDoor
open Go.RowKit Go.Lib
set_option linter.unusedVariables false
set_option maxRecDepth 20000

set_option maxHeartbeats 2000000 in
theorem lwSig_any (k : Int) (p1 p2 q1 q2 : Option Addr) (c1 c2 d1 d2 : Nat) (L1 L2 : List ByteArray) (w : World) (h1 : TxtAt w p1 L1) (h2 : TxtAt w p2 L2) (g1 : TxtAt w q1 L1) (g2 : TxtAt w q2 L2) (n1 : L1.length ≤ 1048576) (n2 : L2.length ≤ 1048576) (m1 : L1.length ≤ c1) (m2 : L2.length ≤ c2) (m3 : L1.length ≤ d1) (m4 : L2.length ≤ d2) :
    Calls Tryd.prog 51 #[.agg #[.int .i64 k, .slice p1 L1.length c1, .slice p2 L2.length c2], .agg #[.int .i64 k, .slice q1 L1.length d1, .slice q2 L2.length d2]] w fun e w' => e = .returned (.bool true) ∧ Below w.heap.size w w' := by
  obtain ⟨W1, hW1⟩ : ∃ W1, W1 = (w.alloc (.cells #[.int .i64 k, .slice p1 L1.length c1, .slice p2 L2.length c2] 62)).alloc (.cells #[.int .i64 k, .slice q1 L1.length d1, .slice q2 L2.length d2] 62) := ⟨_, rfl⟩
  have HW1 : Hid (W1 = (w.alloc (.cells #[.int .i64 k, .slice p1 L1.length c1, .slice p2 L2.length c2] 62)).alloc (.cells #[.int .i64 k, .slice q1 L1.length d1, .slice q2 L2.length d2] 62)) := hW1
  have hB0 : Below w.heap.size w (w.alloc (.cells #[.int .i64 k, .slice p1 L1.length c1, .slice p2 L2.length c2] 62)) := (Below.refl _ _).alloc (Nat.le_refl _) _
  have B1 : Hid (Below w.heap.size w W1) := by rw [hW1]; exact hB0.alloc hB0.size _
  have X1 : Hid (W1.heap[w.heap.size]? = some (.cells #[.int .i64 k, .slice p1 L1.length c1, .slice p2 L2.length c2] 62 (0, 0)) ∧ W1.heap[w.heap.size + 1]? = some (.cells #[.int .i64 k, .slice q1 L1.length d1, .slice q2 L2.length d2] 62 (0, 0))) := by
    rw [hW1]
    refine ⟨(Below.heap_alloc _ _ _ (by simp)).trans (MapKept.heap_alloc w _).1, ?_⟩
    have := (MapKept.heap_alloc (w.alloc (.cells #[.int .i64 k, .slice p1 L1.length c1, .slice p2 L2.length c2] 62)) (.cells #[.int .i64 k, .slice q1 L1.length d1, .slice q2 L2.length d2] 62)).1
    rw [show (w.alloc (.cells #[.int .i64 k, .slice p1 L1.length c1, .slice p2 L2.length c2] 62)).heap.size = w.heap.size + 1 by simp] at this
    exact this
  have HZ : Hid (W1.heap.size = w.heap.size + 2) := by rw [hW1]; show _ = _; simp
  have HC : Hid (∀ x, Below W1.heap.size W1 x → x.cell? ⟨w.heap.size, 2, none⟩ = some (.slice p2 L2.length c2) ∧ x.cell? ⟨w.heap.size + 1, 2, none⟩ = some (.slice q2 L2.length d2)) := fun x hb => by
    have a0 := (hb.block w.heap.size (by rw [HZ.out]; omega)).trans X1.out.1
    have a1 := (hb.block (w.heap.size + 1) (by rw [HZ.out]; omega)).trans X1.out.2
    simp [World.cell?, a0, a1]
  have hE := texts_any p1 q1 c1 d1 L1 L1 W1 (h1.below B1.out) (g1.below B1.out) (by omega) (by omega) m1 m3
  rw [decide_eq_true rfl] at hE
  have T2 : Hid (TxtAt W1 p2 L2 ∧ TxtAt W1 q2 L2) := ⟨h2.below B1.out, g2.below B1.out⟩
  clear hW1 h1 h2 g1 g2 hB0
  go_enter Tryd.func51, Tryd.ntmps51
  go_wp2_with fail
  rw [← HW1.out]
  refine hE.mono ?_
  rintro e w1 ⟨rfl, b1⟩
  obtain ⟨x1, x2⟩ := HC.out w1 b1
  have hF := texts_any p2 q2 c2 d2 L2 L2 w1 (T2.out.1.below b1) (T2.out.2.below b1) (by omega) (by omega) m2 m4
  rw [decide_eq_true rfl] at hF
  have b1 := chainB B1.out b1
  clear hE T2
  go_wp2_with fail
  refine hF.mono ?_
  rintro e w2 ⟨rfl, b2⟩
  have b2 := chainB b1 b2
  clear hF x1 x2
  go_wp2_with fail
  go_ret
  exact ⟨rfl, b2⟩
end Go.Proofs.YtlmkfjlaakmmpaaDoor
/-
  What the draw of a seed draws: a text of at most 65 bytes.
-/
namespace Go.Proofs.YtlmkfjlaakmmpaaDoor
open Go.RowKit Go.Lib
set_option linter.unusedVariables false
set_option maxRecDepth 20000

def seeds3 : List ByteArray := [⟨#[115, 101, 101, 100]⟩, ⟨#[111, 116, 104, 101, 114]⟩, ⟨#[115]⟩]
theorem seeds3_small : ∀ t ∈ seeds3, t.size ≤ 65 := by decide
/-- A row of zeros, wherever it lies, as a text. -/
theorem zconvAt (n g : Nat) (w : World) (h : ∀ i, i < n → w.cell? ⟨g, i, none⟩ = some (.int .u8 0)) :
    (convert 22 9 (.slice (some ⟨g, 0, none⟩) n n)).run Tryd.prog w = .ok (.string (strOfNums (List.replicate n 0))) w :=
  run_convert_bytes_arg (P := Tryd.prog) _ 22 5 Tryd.underlying22 Tryd.underlying5 g 0 n n (List.replicate n 0) (by simp) (fun i hi => by
    rw [Nat.zero_add, h i hi]; simp [hi]) 9 Tryd.underlying9
theorem zcell (n i : Nat) (w : World) (hi : i < n) : (w.alloc (.cells (zrow n).toArray 5)).cell? ⟨w.heap.size, i, none⟩ = some (.int .u8 0) := by
  rw [World.cell?_alloc_mark]; simp [zrow, hi]
theorem zconv0 (n : Nat) (w : World) :
    (convert 22 9 (.slice (some ⟨w.heap.size, 0, none⟩) n n)).run Tryd.prog (w.alloc (.cells (zrow n).toArray 5)).drew = .ok (.string (strOfNums (List.replicate n 0))) (w.alloc (.cells (zrow n).toArray 5)).drew :=
  zconvAt n _ _ (fun i hi => zcell n i w hi)
theorem zconvA (n : Nat) (o : Obj) (w : World) :
    (convert 22 9 (.slice (some ⟨w.heap.size, 0, none⟩) n n)).run Tryd.prog ((w.alloc (.cells (zrow n).toArray 5)).alloc o).drew = .ok (.string (strOfNums (List.replicate n 0))) ((w.alloc (.cells (zrow n).toArray 5)).alloc o).drew :=
  zconvAt n _ _ (fun i hi => (World.cell?_alloc_old _ _ _ (by simp)).trans (zcell n i w hi))
theorem zconvB (n : Nat) (o : Obj) (w : World) :
    (convert 22 9 (.slice (some ⟨w.heap.size + 1, 0, none⟩) n n)).run Tryd.prog ((w.alloc o).alloc (.cells (zrow n).toArray 5)).drew = .ok (.string (strOfNums (List.replicate n 0))) ((w.alloc o).alloc (.cells (zrow n).toArray 5)).drew := by
  have := zconv0 n (w.alloc o)
  rwa [show (w.alloc o).heap.size = w.heap.size + 1 by simp] at this

/-- Where the three texts lie, and the source still. -/
structure SeedS (T : TypeId) (B p : Nat) (a : Option Addr) (len cap : Nat) (w1 : World) (ss : List ByteArray) (g : Nat) (W : World) : Prop where
  src : Src T B p a len cap W
  blk : BlkS W g ss
  ne : g ≠ p
  gr : w1.grownBy W (some p)
theorem seedS_of {T : TypeId} {B p : Nat} {a : Option Addr} {len cap : Nat} {w1 : World} (ss : List ByteArray) (o1 o2 : Obj) (X : World) (hs : Src T B p a len cap X) (hg : w1.grownBy X (some p)) :
    SeedS T B p a len cap w1 ss (X.heap.size + 1 + 1) (((X.alloc o1).alloc o2).alloc (.cells (strRow ss).toArray 9)).drew := by
  have hb : Below X.heap.size X ((X.alloc o1).alloc o2) := by
    have := (Below.refl X.heap.size X).alloc (Nat.le_refl _) o1
    exact this.alloc this.size _
  have hz : ((X.alloc o1).alloc o2).heap.size = X.heap.size + 1 + 1 := by simp
  have hp := hs.lt
  refine ⟨(hs.below hb).below ((Below.refl _ _).alloc (Nat.le_refl _) _).drew, ?_, by omega, touch_below (touch_below hg hb) ((Below.refl _ _).alloc (Nat.le_refl _) _).drew⟩
  have := alloc_str ((X.alloc o1).alloc o2) ss
  rw [hz] at this
  exact this

set_option maxHeartbeats 4000000 in
theorem drawSeed_any (B p : Nat) (a : Option Addr) (len cap : Nat) (w : World) (hs : Src 117 B p a len cap w) :
    Calls Tryd.prog 98 #[.pointer (some ⟨p, 0, none⟩)] w fun e w' =>
      (∃ t : ByteArray, e = .returned (.string t) ∧ t.size ≤ 65) ∧ Src 117 B p a len cap w' ∧ w.grownBy w' (some p) := by
  have HS : Hid (Src 117 B p a len cap w) := hs
  clear hs
  go_enter Tryd.func98, Tryd.ntmps98
  go_wp2_with fail
  refine (one_any B p a len cap 12 _ HS.out (by omega)).mono ?_
  rintro e w1 ⟨⟨b, rfl⟩, hs1, hg1⟩
  have hp := hs1.lt
  have S1 : Hid (Src 117 B p a len cap w1) := hs1
  have G1 : Hid (w.grownBy w1 (some p)) := hg1
  clear hs1 hg1 HS
  cases b
  · have HB4 : Hid (BlkS (w1.alloc (.cells (strRow seeds3).toArray 9)) w1.heap.size seeds3) := alloc_str w1 seeds3
    have HS4 : Hid (Src 117 B p a len cap (w1.alloc (.cells (strRow seeds3).toArray 9))) := S1.out.below ((Below.refl _ _).alloc (Nat.le_refl _) _)
    go_wp2_with fail
    refine (pick_any B p a len cap w1.heap.size seeds3 _ HS4.out HB4.out (by omega) (by decide) (by decide)).mono ?_
    rintro e w2 ⟨⟨t, ht, rfl⟩, hs2, hg2⟩
    have hg2 := touch_trans (touch_trans G1.out (World.grownBy_alloc w1 _ (some p))) hg2
    have t5 := seeds3_small t ht
    clear HB4 HS4 ht
    go_wp2_with fail
    go_ret
    exact ⟨⟨t, rfl, t5⟩, hs2, hg2⟩
  · obtain ⟨R4, hR4⟩ : ∃ R4, R4 = (zrow 64).toArray := ⟨_, rfl⟩
    obtain ⟨R5, hR5⟩ : ∃ R5, R5 = (zrow 65).toArray := ⟨_, rfl⟩
    obtain ⟨Z4, hZ4⟩ : ∃ Z4, Z4 = strOfNums (List.replicate 64 0) := ⟨_, rfl⟩
    obtain ⟨Z5, hZ5⟩ : ∃ Z5, Z5 = strOfNums (List.replicate 65 0) := ⟨_, rfl⟩
    have hz4 : Z4.size ≤ 65 := by rw [hZ4, strOfNums_size, List.length_replicate]; omega
    have hz5 : Z5.size ≤ 65 := by rw [hZ5, strOfNums_size, List.length_replicate]; omega
    have k4 : ∀ W : World, (Instr.makeSlice 22 (.int .i64 64) (.int .i64 64)).run Tryd.prog W = .ok (.slice (some ⟨W.heap.size, 0, none⟩) 64 64) (W.alloc (.cells R4 5)) := fun W => by rw [hR4]; exact run_make_u8s 64 (by omega) W
    have k5 : ∀ W : World, (Instr.makeSlice 22 (.int .i64 65) (.int .i64 65)).run Tryd.prog W = .ok (.slice (some ⟨W.heap.size, 0, none⟩) 65 65) (W.alloc (.cells R5 5)) := fun W => by rw [hR5]; exact run_make_u8s 65 (by omega) W
    have e1 : ∀ W : World, (convert 22 9 (.slice (some ⟨W.heap.size, 0, none⟩) 64 64)).run Tryd.prog (W.alloc (.cells R4 5)).drew = .ok (.string Z4) (W.alloc (.cells R4 5)).drew := fun W => by rw [hR4, hZ4]; exact zconv0 64 W
    have e2 : ∀ W : World, (convert 22 9 (.slice (some ⟨W.heap.size, 0, none⟩) 65 65)).run Tryd.prog (W.alloc (.cells R5 5)).drew = .ok (.string Z5) (W.alloc (.cells R5 5)).drew := fun W => by rw [hR5, hZ5]; exact zconv0 65 W
    have e3 : ∀ W : World, (convert 22 9 (.slice (some ⟨W.heap.size, 0, none⟩) 64 64)).run Tryd.prog ((W.alloc (.cells R4 5)).alloc (.cells R5 5)).drew = .ok (.string Z4) ((W.alloc (.cells R4 5)).alloc (.cells R5 5)).drew := fun W => by rw [hR4, hZ4]; exact zconvA 64 _ W
    have e4 : ∀ W : World, (convert 22 9 (.slice (some ⟨W.heap.size, 0, none⟩) 65 65)).run Tryd.prog ((W.alloc (.cells R5 5)).alloc (.cells R4 5)).drew = .ok (.string Z5) ((W.alloc (.cells R5 5)).alloc (.cells R4 5)).drew := fun W => by rw [hR5, hZ5]; exact zconvA 65 _ W
    have e5 : ∀ W : World, (convert 22 9 (.slice (some ⟨W.heap.size + 1, 0, none⟩) 64 64)).run Tryd.prog ((W.alloc (.cells R5 5)).alloc (.cells R4 5)).drew = .ok (.string Z4) ((W.alloc (.cells R5 5)).alloc (.cells R4 5)).drew := fun W => by rw [hR4, hZ4]; exact zconvB 64 _ W
    have e6 : ∀ W : World, (convert 22 9 (.slice (some ⟨W.heap.size + 1, 0, none⟩) 65 65)).run Tryd.prog ((W.alloc (.cells R4 5)).alloc (.cells R5 5)).drew = .ok (.string Z5) ((W.alloc (.cells R4 5)).alloc (.cells R5 5)).drew := fun W => by rw [hR5, hZ5]; exact zconvB 65 _ W
    have QP : Hid (∀ W g, SeedS 117 B p a len cap w1 [⟨#[]⟩, Z4, Z5] g W → Calls Tryd.prog 111 #[.pointer (some ⟨p, 0, none⟩), .slice (some ⟨g, 0, none⟩) 3 3] W fun e x1 => ∃ t : ByteArray, e = .returned (.string t) ∧ t.size ≤ 65 ∧ Src 117 B p a len cap x1 ∧ w1.grownBy x1 (some p)) := fun W g h => (pick_any B p a len cap g [⟨#[]⟩, Z4, Z5] W h.src h.blk h.ne (by simp) (by simp)).mono (by
      rintro e x1 ⟨⟨t, ht, rfl⟩, s1, g1⟩
      refine ⟨t, rfl, ?_, s1, touch_trans h.gr g1⟩
      simp only [List.mem_cons, List.not_mem_nil, or_false] at ht
      rcases ht with rfl | rfl | rfl
      · decide
      · exact hz4
      · exact hz5)
    clear hR4 hR5 hZ4 hZ5
    go_wp2_with fail
    go_region_law (first
      | (go_simp; go_at_call 111; refine (QP.out _ _ (by first | exact seedS_of _ _ _ w1 S1.out (World.grownBy.refl _ _) | exact seedS_of _ _ _ w1.drew (S1.out.below (Below.refl _ _).drew) (touch_drew (World.grownBy.refl _ _)))).mono ?_; rintro e x1 ⟨t, rfl, ht, s1, g1⟩))
    all_goals
      have G2 := touch_trans G1.out g1
      clear QP k4 k5 e1 e2 e3 e4 e5 e6
      go_wp2_with fail
      go_ret
      exact ⟨⟨t, rfl, ht⟩, s1, G2⟩

theorem results_tmp3 {fn : Func} {t u v : Tmp} (h : fn.results = #[.tmp t, .tmp u, .tmp v]) (tmps : Array Value) (P : Program) (w : World) :
    (results fn tmps).run P w = .ok (.tuple #[tmps.getD t undef, tmps.getD u undef, tmps.getD v undef]) w := by
  simp [results, h]
set_option maxHeartbeats 2000000 in
theorem drawSign_any (B : Nat) (a : Option Addr) (len cap : Nat) (w : World) (hlen : len ≤ 1048576) (hB : B ≤ w.heap.size) (hc : CodeAt B a len w) :
    Calls Tryd.prog 48 #[.slice a len cap] w fun e w' => (∃ (seed : ByteArray) (key : Int) (t : ByteArray), e = .returned (.tuple #[.string seed, .int .i64 key, .string t]) ∧ seed.size ≤ 65 ∧ -1 ≤ key ∧ key ≤ 4 ∧ t.size ≤ 8) ∧ Below w.heap.size w w' := by
  have HC : Hid (CodeAt B a len w) := hc
  clear hc
  go_enter Tryd.func48, Tryd.ntmps48
  go_wp2_with fail
  refine (source_any B a len cap w hlen hB HC.out).mono ?_
  rintro e w1 ⟨rfl, hs1, hb1⟩
  have H1 : Hid (Src 117 B w.heap.size a len cap w1) := hs1
  clear hs1 HC
  go_wp2_with fail
  refine (drawSeed_any B w.heap.size a len cap _ H1.out).mono ?_
  rintro e w2 ⟨⟨seed, rfl, hsd⟩, hs2, hg2⟩
  have hb2 := below_touch hb1 hg2 (Nat.le_refl _)
  have H2 : Hid (Src 117 B w.heap.size a len cap w2) := hs2
  clear hs2 hg2 H1 hb1
  go_wp2_with fail
  refine (n_any B w.heap.size a len cap 6 _ H2.out (by omega)).mono ?_
  rintro e w3 ⟨⟨r, rfl, r0, r1, _⟩, hs3, hg3⟩
  have r2 := r1 (by omega)
  have hb3 := below_touch hb2 hg3 (Nat.le_refl _)
  have H3 : Hid (Src 117 B w.heap.size a len cap w3) := hs3
  clear hs3 hg3 H2 hb2 r1
  go_wp2_with fail
  refine (n_any B w.heap.size a len cap 9 _ H3.out (by omega)).mono ?_
  rintro e w4 ⟨⟨r', rfl, s0, s1, _⟩, hs4, hg4⟩
  have s2 := s1 (by omega)
  have hb4 := below_touch hb3 hg4 (Nat.le_refl _)
  have H4 : Hid (Src 117 B w.heap.size a len cap w4) := hs4
  clear hs4 hg4 H3 hb3 s1
  go_wp2_with fail
  refine (bytes_any B w.heap.size a len cap r' _ H4.out (by omega)).mono ?_
  rintro e w5 ⟨⟨t, rfl, ht⟩, hs5, hg5⟩
  have hb5 := below_touch hb4 hg5 (Nat.le_refl _)
  have ht8 : t.size ≤ 8 := by omega
  clear hs5 hg5 H4 hb4 ht
  go_wp2
  (try simp only [Exit.inBlock, Exit.then])
  refine bodyPost_ret (results_tmp3 rfl _ _ _) rfl ?_
  exact ⟨⟨seed, _, t, rfl, hsd, by omega, by omega, ht8⟩, hb5⟩
end Go.Proofs.YtlmkfjlaakmmpaaDoor
