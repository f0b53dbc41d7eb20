/-
  Parts of one proof, laid as one text: Draws, DrawKit, Some, IsIn, SignS; what each says stands at its head.
-/
import Derived.Test.YtfdihkgkiiekcaaDoorRows
import Derived.Test.YtfdihkgkiiekcaaDoorMac2PutNumAppSSrc
import Derived.Handy
import Derived.WalkSpells
import Derived.RegionTactic
import Derived.BigRegion
import Derived.Deep.QuietTactic
import Derived.BigQuiet
import Derived.Deep.AppendLies
import Derived.Laws.BytesArg
import Derived.Test.YtfdihkgkiiekcaaDoorBytesDigMath
import Derived.Test.YtfdihkgkiiekcaaDoorSlASlBBxK
import Derived.Test.YtfdihkgkiiekcaaDoorLawSLawSGOwnSBox3
import Derived.OwnWalk
import Derived.Test.YtfdihkgkiiekcaaDoorOwnBPadI
import Derived.Test.YtfdihkgkiiekcaaDoorAll2LeafNode
import Derived.Test.YtfdihkgkiiekcaaDoorMacMathPutMathSgnB
import Derived.Test.YtfdihkgkiiekcaaDoorPowerHalvesTreeTree2TreeHPathMathIncMath
import Derived.Test.YtfdihkgkiiekcaaDoorSignMath
/-
  What the draws' functions answer: n: a number from 0 to below most; one: a bool; bytes: a text of n bytes; edge: a number. The source's block alone is written; new memory apart nothing else turns.
  Conditions: the source is one ('Src').
-/
namespace Go.Proofs.YtfdihkgkiiekcaaDoor
open Go.RowKit
set_option linter.unusedVariables false

/-- What n answers. -/
def nAns (most r : Int) : Prop := 0 ≤ r ∧ (1 < most → r < most) ∧ (most ≤ 1 → r = 0)

theorem infoU8d : (Tryd.prog.info? 5).map (fun i => (i.zero, i.size, i.bytes)) = some (some (.int .u8 0), 1, 1) := by kernel_rfl
theorem own_convD {w : World} {base g k cap : Nat} {xs : List Int} (h : w.ownsRow base 5 1 (.slice (some ⟨g, 0, none⟩) k cap) k (xs.map (Value.int .u8))) (hl : xs.length = k) :
    (convert 70 9 (.slice (some ⟨g, 0, none⟩) k cap)).run Tryd.prog w = .ok (.string (strOfNums xs)) w :=
  run_convert_bytes_arg (P := Tryd.prog) w 70 5 Tryd.underlying70 Tryd.underlying5 g 0 k cap xs hl (fun i hi => by
    rw [Nat.zero_add, h.cellAt i (by omega)]
    have : i < xs.length := by omega
    simp [List.getD, List.getElem?_eq_getElem this]) 9 Tryd.underlying9

theorem edge_at : ∀ k : Nat, k < 14 → ∃ v : Int, (#[.int .i64 0, .int .i64 1, .int .i64 (-1), .int .i64 2, .int .i64 1000, .int .i64 1001, .int .i64 2147483648, .int .i64 2147483647, .int .i64 (-2147483648), .int .i64 4611686018427387904, .int .i64 9223372036854775807, .int .i64 (-9223372036854775808), .int .i64 1000000, .int .i64 1000001] : Array Value)[k]? = some (.int .i64 v) ∧ -9223372036854775808 ≤ v ∧ v ≤ 9223372036854775807
  | 0, _ => ⟨_, rfl, by omega, by omega⟩
  | 1, _ => ⟨_, rfl, by omega, by omega⟩
  | 2, _ => ⟨_, rfl, by omega, by omega⟩
  | 3, _ => ⟨_, rfl, by omega, by omega⟩
  | 4, _ => ⟨_, rfl, by omega, by omega⟩
  | 5, _ => ⟨_, rfl, by omega, by omega⟩
  | 6, _ => ⟨_, rfl, by omega, by omega⟩
  | 7, _ => ⟨_, rfl, by omega, by omega⟩
  | 8, _ => ⟨_, rfl, by omega, by omega⟩
  | 9, _ => ⟨_, rfl, by omega, by omega⟩
  | 10, _ => ⟨_, rfl, by omega, by omega⟩
  | 11, _ => ⟨_, rfl, by omega, by omega⟩
  | 12, _ => ⟨_, rfl, by omega, by omega⟩
  | 13, _ => ⟨_, rfl, by omega, by omega⟩
  | k + 14, h => by omega

theorem wrapU_bd (x : Int) : 0 ≤ IntKind.u64.wrap x ∧ IntKind.u64.wrap x ≤ 18446744073709551615 := by
  simp [IntKind.wrap, IntKind.bits, IntKind.signed]; omega

end Go.Proofs.YtfdihkgkiiekcaaDoor
/-
  What all drawn laws share: a new row of zeros as a text; the code's bytes ('CodeAt'); what a step on a source of the call's own leaves.
-/
namespace Go.Proofs.YtfdihkgkiiekcaaDoor
open Go.RowKit Go.Lib
set_option linter.unusedVariables false

theorem infoU8s : (Tryd.prog.info? 5).map (fun i => (i.zero, i.size, i.bytes)) = some (some (.int .u8 0), 1, 1) := by kernel_rfl
theorem run_make_u8s (n : Nat) (hn : n ≤ 281474976710656) (w : World) :
    (Instr.makeSlice 70 (.int .i64 (n : Int)) (.int .i64 (n : Int))).run Tryd.prog w = .ok (.slice (some ⟨w.heap.size, 0, none⟩) n n) (w.alloc (.cells (zrow n).toArray 5)) := by
  obtain ⟨i0, hi, hz0, hz1, hz2⟩ := info_parts infoU8s
  have := run_make (P := Tryd.prog) w 70 5 i0 (.int .u8 0) Tryd.underlying70 hi hz0 .i64 .i64 (n : Int) (n : Int) (by omega) (by omega) (by rw [hz2]; omega) (by omega)
  rw [this, hz1]
  simp only [Int.toNat_natCast, Nat.mul_one]
  rw [← madeZ]; rfl
theorem zconv (n : Nat) (w : World) :
    (convert 70 9 (.slice (some ⟨w.heap.size, 0, none⟩) n n)).run Tryd.prog (w.alloc (.cells (zrow n).toArray 5)) = .ok (.string (strOfNums (List.replicate n 0))) (w.alloc (.cells (zrow n).toArray 5)) :=
  run_convert_bytes_arg (P := Tryd.prog) _ 70 5 Tryd.underlying70 Tryd.underlying5 w.heap.size 0 n n (List.replicate n 0) (by simp) (fun i hi => by
    rw [World.cell?_alloc_mark]; simp [zrow, hi]) 9 Tryd.underlying9

/-- The code's bytes lie there, below B. -/
def CodeAt (B : Nat) (a : Option Addr) (len : Nat) (w : World) : Prop :=
  len = 0 ∨ ∃ xb xo, a = some ⟨xb, xo, none⟩ ∧ xb < B ∧ ∀ i, i < len → ∃ c : Int, 0 ≤ c ∧ c ≤ 255 ∧ w.cell? ⟨xb, xo + i, none⟩ = some (.int .u8 c)
theorem CodeAt.below {B : Nat} {a : Option Addr} {len : Nat} {w w' : World} (h : CodeAt B a len w) (hb : Below B w w') : CodeAt B a len w' := by
  rcases h with h | ⟨xb, xo, ha, hx, hc⟩
  · exact .inl h
  · refine .inr ⟨xb, xo, ha, hx, fun i hi => ?_⟩
    obtain ⟨c, c0, c1, hci⟩ := hc i hi
    exact ⟨c, c0, c1, by rw [hb.cell (p := ⟨xb, xo + i, none⟩) hx]; exact hci⟩
/-- What a step on a source of the call's own leaves. -/
theorem below_touch {w w1 w2 : World} {p : Nat} (h : Below w.heap.size w w1) (k : w1.grownBy w2 (some p)) (hp : w.heap.size ≤ p) : Below w.heap.size w w2 :=
  h.grown k h.size (fun j hj => by cases hj; exact hp)
theorem results_tmp5 {fn : Func} {t u v x y : Tmp} (h : fn.results = #[.tmp t, .tmp u, .tmp v, .tmp x, .tmp y]) (tmps : Array Value) (P : Program) (w : World) :
    (results fn tmps).run P w = .ok (.tuple #[tmps.getD t undef, tmps.getD u undef, tmps.getD v undef, tmps.getD x undef, tmps.getD y undef]) w := by
  simp [results, h]
theorem edge4 (a b r : Int) (a0 : -9223372036854775808 ≤ a) (a1 : a ≤ 9223372036854775807) (b0 : -9223372036854775808 ≤ b) (b1 : b ≤ 9223372036854775807) (r0 : -9223372036854775808 ≤ r) (r1 : r ≤ 9223372036854775807) : ∀ k : Nat, k < 4 → ∃ v : Int, (#[.int .i64 a, .int .i64 b, .int .i64 r, .int .i64 4611686018427387904] : Array Value)[k]? = some (.int .i64 v) ∧ -9223372036854775808 ≤ v ∧ v ≤ 9223372036854775807
  | 0, _ => ⟨_, rfl, a0, a1⟩
  | 1, _ => ⟨_, rfl, b0, b1⟩
  | 2, _ => ⟨_, rfl, r0, r1⟩
  | 3, _ => ⟨_, rfl, by omega, by omega⟩
  | k + 4, h => by omega
end Go.Proofs.YtfdihkgkiiekcaaDoor
/-
  What l03Some draws: at most 30 texts of at most 101 bytes each, in a row that the call owns. The source's block alone is written.
  Conditions: the source is one ('Src').
-/
namespace Go.Proofs.YtfdihkgkiiekcaaDoor
open Go.RowKit Go.Lib
set_option linter.unusedVariables false
set_option maxRecDepth 20000

theorem BlkS.touch {w w' : World} {g p : Nat} {l : List ByteArray} (h : BlkS w g l) (hg : w.grownBy w' (some p)) (hne : g ≠ p) : BlkS w' g l := by
  unfold BlkS at *; rw [hg.block g (lt_of_block h) (fun e => hne (by cases e; rfl))]; exact h
theorem append_size (s t : ByteArray) : (s ++ t).size = s.size + t.size := by simp

theorem app_one (w : World) (base : Nat) (v : Value) (l : List ByteArray) (own : w.ownsRow base 9 1 v l.length (strRow l)) (T : ByteArray) (hl : l.length + 1 ≤ 1048576) (hbase : base ≤ w.heap.size) :
    ∃ v' w', (Builtin.append_ #[24, 24] 24 #[v, .slice (some ⟨w.heap.size, 0, none⟩) 1 1]).run Tryd.prog (w.alloc (.cells #[.string T] 9)) = .ok v' w' ∧ w'.ownsRow base 9 1 v' (l ++ [T]).length (strRow (l ++ [T])) ∧ (w.alloc (.cells #[.string T] 9)).grownBy w' v.ownBlock :=
  app_texts (w.alloc (.cells #[.string T] 9)) base v l (own.alloc _) (some ⟨w.heap.size, 0, none⟩) 1 [T] (alloc_str w [T]).txt hl (by simp; omega)
/-- What an append to an own row leaves of a source and of what was there. -/
theorem app_leaves {T : TypeId} {B p : Nat} {a : Option Addr} {len cap : Nat} {w0 w w' : World} {e : TypeId} {v : Value} {n : Nat} {xs : List Value} {x : Obj} (own : w.ownsRow w0.heap.size e 1 v n xs) (hs : Src T B p a len cap w) (hp : p < w0.heap.size) (hg : w0.grownBy w (some p)) (h : (w.alloc x).grownBy w' v.ownBlock) :
    Src T B p a len cap w' ∧ w0.grownBy w' (some p) := by
  have hrow : ∀ j, v.ownBlock = some j → w0.heap.size ≤ j := fun j hj => (own.lt j hj).1
  exact ⟨(hs.below ((Below.refl _ _).alloc (Nat.le_refl _) _)).other h (fun j hj => by have := hrow j hj; omega), touch_own (touch_below hg ((Below.refl _ _).alloc (Nat.le_refl _) _)) h hrow⟩

def fourS : List ByteArray := [⟨#[97]⟩, ⟨#[98]⟩, ⟨#[]⟩, ⟨#[101, 110, 116, 114, 121]⟩]
theorem fourS_small : ∀ t ∈ fourS, t.size ≤ 5 := by decide

end Go.Proofs.YtfdihkgkiiekcaaDoor
/-
  What the specification's l03Is answers, of any two bounds.
-/
namespace Go.Proofs.YtfdihkgkiiekcaaDoor
open Go.RowKit Go.Lib
set_option linter.unusedVariables false
set_option maxRecDepth 20000

theorem isIn_any (n lo hi : Int) (w : World) : Calls Tryd.prog 49 #[.int .i64 n, .int .i64 lo, .int .i64 hi] w fun e w' => e = .returned (.bool (decide (lo ≤ n ∧ n ≤ hi))) ∧ w' = w := by
  by_cases h1 : lo ≤ n
  · have d1 : decide (lo ≤ n) = true := decide_eq_true h1
    by_cases h2 : n ≤ hi
    · have d2 : decide (n ≤ hi) = true := decide_eq_true h2
      have H : Hid (decide (lo ≤ n ∧ n ≤ hi) = true) := decide_eq_true ⟨h1, h2⟩
      rw [H.out]
      clear H
      go_enter Tryd.func49, Tryd.ntmps49
      go_wp2
      go_ret
      exact ⟨rfl, rfl⟩
    · have d2 : decide (n ≤ hi) = false := decide_eq_false h2
      have H : Hid (decide (lo ≤ n ∧ n ≤ hi) = false) := decide_eq_false fun h => h2 h.2
      rw [H.out]
      clear H
      go_enter Tryd.func49, Tryd.ntmps49
      go_wp2
      go_ret
      exact ⟨rfl, rfl⟩
  · have d1 : decide (lo ≤ n) = false := decide_eq_false h1
    have H : Hid (decide (lo ≤ n ∧ n ≤ hi) = false) := decide_eq_false fun h => h1 h.1
    rw [H.out]
    clear H
    go_enter Tryd.func49, Tryd.ntmps49
    go_wp2
    go_ret
    exact ⟨rfl, rfl⟩
end Go.Proofs.YtfdihkgkiiekcaaDoor
/-
  What the specification's l03Is, l04Seed, l04Steps, l04Begin, l04Publics and KeyRoot answer.
  Conditions: numbers are int64; a seed has at most 2^20 bytes.
-/
namespace Go.Proofs.YtfdihkgkiiekcaaDoor
open Go.RowKit Go.Lib
set_option linter.unusedVariables false
set_option maxRecDepth 20000

set_option maxHeartbeats 1000000 in
theorem specSteps_any (t : ByteArray) (n : Nat) (w : World) (ht : t.size ≤ 1099511627776) (hn : n ≤ 1000) :
    Calls Tryd.prog 34 #[.string t, .int .i64 (n : Int)] w fun e w' => e = .returned (.string (stepsB n t)) ∧ Below w.heap.size w w' := by
  obtain ⟨R, hR⟩ : ∃ R, R = stepsB n t := ⟨_, rfl⟩
  rw [← hR]
  have HR : Hid (R = stepsB n t) := hR
  clear hR
  go_enter Tryd.func34, Tryd.ntmps34
  go_wp2_with fail
  go_loopw [0, 1] (fun s i wr => ∃ (k : Nat) (u : ByteArray), s = .string u ∧ i = .int .i64 k ∧ k ≤ 1000 ∧ u.size ≤ 1099511627776 ∧ Hid (R = stepsB k u) ∧ Hid (Below w.heap.size w wr)) (fun _ i _ => (intOf i).toNat)
  case atStart => exact ⟨n, t, rfl, rfl, hn, ht, HR, Below.refl _ _⟩
  case round =>
    clear HR
    obtain ⟨k, u, rfl, rfl, hk, hu, HR, HB⟩ := hrel
    by_cases hlt : 0 < k
    · have d1 : decide (0 < (k : Int)) = true := decide_eq_true (by omega)
      obtain ⟨m, rfl⟩ : ∃ m, k = m + 1 := ⟨k - 1, by omega⟩
      have HR2 : Hid (R = stepsB m (digB u)) := HR.out
      have hs := digB_size u
      clear HR
      go_wp2_with fail
      refine (specAll_any u wr hu).mono ?_
      rintro e w1 ⟨rfl, b1⟩
      generalize digB u = D at *
      have HB1 : Hid (Below w.heap.size w w1) := chainB HB.out b1
      clear b1 HB
      go_wp2_with fail
      go_roundw
      case rel => exact ⟨m, D, rfl, by go_num, by omega, by omega, HR2, HB1⟩
      case measure => simp [intOf]
    · obtain rfl : k = 0 := by omega
      have HR2 : Hid (R = u) := HR.out
      clear HR
      go_wp2_with fail
      go_ret
      exact ⟨ret_str HR2.out.symm, HB.out⟩

/-- The first k public texts, in a row of the call's own. -/
def PubsRow (seed : ByteArray) (w0 : World) (k : Nat) (v : Value) (w : World) : Prop := w.ownsRow w0.heap.size 9 1 v k (strRow (pubsTo seed k))
theorem PubsRow.form {seed : ByteArray} {w0 w : World} {k : Nat} {v : Value} (h : PubsRow seed w0 k v w) : ∃ q c, v = .slice q k c ∧ k ≤ c := by
  have h' : w.ownsRow w0.heap.size 9 1 v (pubsTo seed k).length (strRow (pubsTo seed k)) := by rw [pubsTo_len]; exact h
  obtain ⟨q, c, h1, h2, _⟩ := ownS_form h'
  rw [pubsTo_len] at h1 h2
  exact ⟨q, c, h1, h2⟩
theorem PubsRow.below {seed : ByteArray} {w0 w w' : World} {k : Nat} {v : Value} (h : PubsRow seed w0 k v w) (hb : Below w.heap.size w w') : PubsRow seed w0 k v w' := ownS_below h hb
theorem PubsRow.more {seed : ByteArray} {w0 w : World} {k : Nat} {v : Value} (h : PubsRow seed w0 k v w) (hB : Below w0.heap.size w0 w) (hk : k ≤ 4) :
    ∃ v' w', (Builtin.append_ #[24, 24] 24 #[v, .slice (some ⟨w.heap.size, 0, none⟩) 1 1]).run Tryd.prog (w.alloc (.cells #[.string (pubB seed k)] 9)) = .ok v' w' ∧ PubsRow seed w0 (k + 1) v' w' ∧ Below w0.heap.size w0 w' := by
  have h' : w.ownsRow w0.heap.size 9 1 v (pubsTo seed k).length (strRow (pubsTo seed k)) := by rw [pubsTo_len]; exact h
  obtain ⟨v', w', hr, ho, hg⟩ := app_one w w0.heap.size v (pubsTo seed k) h' (pubB seed k) (by rw [pubsTo_len]; omega) hB.size
  rw [← pubsTo_step, pubsTo_len] at ho
  exact ⟨v', w', hr, ho, (hB.alloc hB.size _).grown hg (by have := hB.size; simp; omega) (fun j hj => (h'.lt j hj).1)⟩

end Go.Proofs.YtfdihkgkiiekcaaDoor
