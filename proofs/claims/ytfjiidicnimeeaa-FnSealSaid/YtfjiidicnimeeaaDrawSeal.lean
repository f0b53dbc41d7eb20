/-
  What DrawSeal, DrawCrcMore and lwAt answer: some text (short, or of 19995 to 19997 bytes); some crc and a short text; a number below most.
  Conditions: the code's bytes are there, at most 2^20 of them.
-/
import Derived.Test.YtfjiidicnimeeaaRows
import Derived.Test.YtfjiidicnimeeaaBytes
import Derived.Test.YtfjiidicnimeeaaCrc
import Derived.Test.YtfjiidicnimeeaaSrc
import Derived.Test.YtfjiidicnimeeaaDraws
import Derived.Handy
import Derived.WalkSpells
namespace Go.Proofs.Ytfjiidicnimeeaa
open Go.RowKit Go.Lib
set_option linter.unusedVariables false

theorem infoU8s : (Try.prog.info? 5).map (fun i => (i.zero, i.size, i.bytes)) = some (some (.int .u8 0), 1, 1) := by kernel_rfl
theorem run_make_u8s (n : Nat) (hn : n ≤ 281474976710656) (w : World) :
    (Instr.makeSlice 22 (.int .i64 (n : Int)) (.int .i64 (n : Int))).run Try.prog w = .ok (.slice (some ⟨w.heap.size, 0, none⟩) n n) (w.alloc (.cells (zrow n).toArray 5)) := by
  obtain ⟨i0, hi, hz0, hz1, hz2⟩ := info_parts infoU8s
  have := run_make (P := Try.prog) w 22 5 i0 (.int .u8 0) Try.underlying22 hi hz0 .i64 .i64 (n : Int) (n : Int) (by omega) (by omega) (by rw [hz2]; omega) (by omega)
  rw [this, hz1]
  simp only [Int.toNat_natCast, Nat.mul_one]
  rw [← madeZ]; rfl
theorem zconv (n : Nat) (w : World) :
    (convert 22 9 (.slice (some ⟨w.heap.size, 0, none⟩) n n)).run Try.prog (w.alloc (.cells (zrow n).toArray 5)) = .ok (.string (strOfNums (List.replicate n 0))) (w.alloc (.cells (zrow n).toArray 5)) :=
  run_convert_bytes_arg (P := Try.prog) _ 22 5 Try.underlying22 Try.underlying5 w.heap.size 0 n n (List.replicate n 0) (by simp) (fun i hi => by
    rw [World.cell?_alloc_mark]; simp [zrow, hi]) 9 Try.underlying9

/-- The code's bytes lie there, below B. -/
def CodeAt (B : Nat) (a : Option Addr) (len : Nat) (w : World) : Prop :=
  len = 0 ∨ ∃ xb xo, a = some ⟨xb, xo, none⟩ ∧ xb < B ∧ ∀ i, i < len → ∃ c : Int, 0 ≤ c ∧ c ≤ 255 ∧ w.cell? ⟨xb, xo + i, none⟩ = some (.int .u8 c)
theorem CodeAt.below {B : Nat} {a : Option Addr} {len : Nat} {w w' : World} (h : CodeAt B a len w) (hb : Below B w w') : CodeAt B a len w' := by
  rcases h with h | ⟨xb, xo, ha, hx, hc⟩
  · exact .inl h
  · refine .inr ⟨xb, xo, ha, hx, fun i hi => ?_⟩
    obtain ⟨c, c0, c1, hci⟩ := hc i hi
    exact ⟨c, c0, c1, by rw [hb.cell (p := ⟨xb, xo + i, none⟩) hx]; exact hci⟩
/-- What a step on a source of the call's own leaves. -/
theorem below_touch {w w1 w2 : World} {p : Nat} (h : Below w.heap.size w w1) (k : w1.grownBy w2 (some p)) (hp : w.heap.size ≤ p) : Below w.heap.size w w2 :=
  h.grown k h.size (fun j hj => by cases hj; exact hp)

set_option maxHeartbeats 2000000 in
theorem drawSeal_any (B : Nat) (a : Option Addr) (len cap : Nat) (w : World) (hlen : len ≤ 1048576) (hB : B ≤ w.heap.size) (hc : CodeAt B a len w) :
    Calls Try.prog 4 #[.slice a len cap] w fun e w' => (∃ t : ByteArray, e = .returned (.string t) ∧ t.size ≤ 19997) ∧ Below w.heap.size w w' := by
  have HC : Hid (CodeAt B a len w) := hc
  clear hc
  go_enter Try.func4, Try.ntmps4
  go_wp2_with fail
  refine (source_any B a len cap w hlen hB HC.out).mono ?_
  rintro e w1 ⟨rfl, hs1, hb1⟩
  have H1 : Hid (Src 45 B w.heap.size a len cap w1) := hs1
  clear hs1
  go_wp2_with fail
  refine (one_any B w.heap.size a len cap 30 _ H1.out (by omega)).mono ?_
  rintro e w2 ⟨⟨r, rfl⟩, hs2, hg2⟩
  have H2 : Hid (Src 45 B w.heap.size a len cap w2) := hs2
  have hb2 := below_touch hb1 hg2 (Nat.le_refl _)
  clear hs2 hg2 hb1 H1
  cases r
  · go_wp2_with fail
    refine (n_any B w.heap.size a len cap 20 _ H2.out (by omega)).mono ?_
    rintro e w3 ⟨⟨r, rfl, hr0, hr1, _⟩, hs3, hg3⟩
    have hr2 : r < 20 := hr1 (by omega)
    have H3 : Hid (Src 45 B w.heap.size a len cap w3) := hs3
    have hb3 := below_touch hb2 hg3 (Nat.le_refl _)
    clear hs3 hg3 hb2 H2 hr1
    go_wp2_with fail
    refine (bytes_any B w.heap.size a len cap r _ H3.out (by omega)).mono ?_
    rintro e w4 ⟨⟨t, rfl, ht⟩, hs4, hg4⟩
    have HT : Hid (t.size = r.toNat) := ht
    have hb4 := below_touch hb3 hg4 (Nat.le_refl _)
    clear hs4 hg4 hb3 H3 ht
    go_wp2_with fail
    go_ret
    exact ⟨⟨t, rfl, by have := HT.out; omega⟩, hb4⟩
  · go_wp2_with fail
    refine (n_any B w.heap.size a len cap 3 _ H2.out (by omega)).mono ?_
    rintro e w3 ⟨⟨r, rfl, hr0, hr1, _⟩, hs3, hg3⟩
    have hr2 : r < 3 := hr1 (by omega)
    have hb3 := below_touch hb2 hg3 (Nat.le_refl _)
    clear hs3 hg3 hb2 H2 hr1
    obtain ⟨k, rfl⟩ := Int.eq_ofNat_of_zero_le hr0
    have hmk : ∀ W : World, (Instr.makeSlice 22 (.int .i64 (19995 + (k : Int))) (.int .i64 (19995 + (k : Int)))).run Try.prog W = .ok (.slice (some ⟨W.heap.size, 0, none⟩) (19995 + k) (19995 + k)) (W.alloc (.cells (zrow (19995 + k)).toArray 5)) := by
      intro W
      have := run_make_u8s (19995 + k) (by omega) W
      rw [show (((19995 + k : Nat)) : Int) = 19995 + (k : Int) by omega] at this
      exact this
    have hzc := zconv (19995 + k) w3
    go_wp2_with fail
    go_ret
    exact ⟨⟨_, rfl, by rw [strOfNums_size]; simp; omega⟩, hb3.alloc hb3.size _⟩

set_option maxHeartbeats 2000000 in
theorem drawCrcMore_any (B : Nat) (a : Option Addr) (len cap : Nat) (w : World) (hlen : len ≤ 1048576) (hB : B ≤ w.heap.size) (hc : CodeAt B a len w) :
    Calls Try.prog 9 #[.slice a len cap] w fun e w' => (∃ (c : Int) (t : ByteArray), e = .returned (.tuple #[.int .i64 c, .string t]) ∧ t.size ≤ 8) ∧ Below w.heap.size w w' := by
  have HC : Hid (CodeAt B a len w) := hc
  clear hc
  go_enter Try.func9, Try.ntmps9
  go_wp2_with fail
  refine (source_any B a len cap w hlen hB HC.out).mono ?_
  rintro e w1 ⟨rfl, hs1, hb1⟩
  have H1 : Hid (Src 45 B w.heap.size a len cap w1) := hs1
  clear hs1
  go_wp2_with fail
  refine (n_any B w.heap.size a len cap 9 _ H1.out (by omega)).mono ?_
  rintro e w3 ⟨⟨r, rfl, hr0, hr1, _⟩, hs3, hg3⟩
  have hr2 : r < 9 := hr1 (by omega)
  have H3 : Hid (Src 45 B w.heap.size a len cap w3) := hs3
  have hb3 := below_touch hb1 hg3 (Nat.le_refl _)
  clear hs3 hg3 hb1 H1 hr1
  go_wp2_with fail
  refine (bytes_any B w.heap.size a len cap r _ H3.out (by omega)).mono ?_
  rintro e w4 ⟨⟨t, rfl, ht⟩, hs4, hg4⟩
  have ht8 : t.size ≤ 8 := by omega
  have H4 : Hid (Src 45 B w.heap.size a len cap w4) := hs4
  have hb4 := below_touch hb3 hg4 (Nat.le_refl _)
  clear hs4 hg4 hb3 H3 ht
  go_wp2_with fail
  refine (one_any B w.heap.size a len cap 5 _ H4.out (by omega)).mono ?_
  rintro e w5 ⟨⟨q, rfl⟩, hs5, hg5⟩
  have H5 : Hid (Src 45 B w.heap.size a len cap w5) := hs5
  have hb5 := below_touch hb4 hg5 (Nat.le_refl _)
  clear hs5 hg5 hb4 H4
  cases q
  · go_wp2_with fail
    refine (n_any B w.heap.size a len cap 9 _ H5.out (by omega)).mono ?_
    rintro e w6 ⟨⟨r2, rfl, hr20, hr21, _⟩, hs6, hg6⟩
    have hr22 : r2 < 9 := hr21 (by omega)
    have H6 : Hid (Src 45 B w.heap.size a len cap w6) := hs6
    have hb6 := below_touch hb5 hg6 (Nat.le_refl _)
    clear hs6 hg6 hb5 H5 hr21
    go_wp2_with fail
    refine (bytes_any B w.heap.size a len cap r2 _ H6.out (by omega)).mono ?_
    rintro e w7 ⟨⟨t2, rfl, ht2⟩, hs7, hg7⟩
    have hb7 := below_touch hb6 hg7 (Nat.le_refl _)
    have hm : t2.size ≤ maxLen := by unfold maxLen; omega
    clear hs7 hg7 hb6 H6 ht2
    go_wp2_with fail
    refine (specCrc_any t2 _ hm).mono ?_
    rintro e w8 ⟨rfl, hw8⟩
    subst hw8
    go_wp2_with fail
    go_ret2
    exact ⟨⟨_, t, rfl, ht8⟩, hb7⟩
  · go_wp2_with fail
    refine (edge_any B w.heap.size a len cap _ H5.out).mono ?_
    rintro e w6 ⟨⟨r2, rfl, hr20, hr21⟩, hs6, hg6⟩
    have hb6 := below_touch hb5 hg6 (Nat.le_refl _)
    clear hs6 hg6 hb5 H5
    go_wp2_with fail
    go_ret2
    exact ⟨⟨_, t, rfl, ht8⟩, hb6⟩

set_option maxHeartbeats 2000000 in
theorem lwAt_any (B : Nat) (a : Option Addr) (len cap : Nat) (i : Nat) (most : Int) (w : World) (hlen : len ≤ 1048576) (hi : i ≤ 1000) (hm : most ≤ 9223372036854775807) (hc : CodeAt B a len w) :
    Calls Try.prog 7 #[.slice a len cap, .int .i64 i, .int .i64 most] w fun e w' => (∃ r, e = .returned (.int .i64 r) ∧ nAns most r) ∧ w' = w := by
  by_cases h1 : most ≤ 1
  · have d1 : decide (most ≤ 1) = true := by simpa using h1
    clear hc
    go_enter Try.func7, Try.ntmps7
    go_wp2
    go_ret
    exact ⟨⟨0, rfl, Int.le_refl _, fun h => by omega, fun _ => rfl⟩, rfl⟩
  have d1 : decide (most ≤ 1) = false := by simp; omega
  by_cases h0 : len = 0
  · subst h0
    clear hc
    go_enter Try.func7, Try.ntmps7
    go_wp2
    go_ret
    exact ⟨⟨0, rfl, Int.le_refl _, fun h => by omega, fun _ => rfl⟩, rfl⟩
  · rcases hc with hc | ⟨xb, xo, ha, hx, hcell⟩
    · exact absurd hc h0
    subst ha
    have d2 : ((len : Int) == 0) = false := by simp; omega
    have hlt : i % len < len := Nat.mod_lt _ (by omega)
    obtain ⟨c, c0, c1, hci⟩ := hcell (i % len) hlt
    have hmod : (i : Int) % (len : Int) = ((i % len : Nat) : Int) := by omega
    have HM : Hid ((i : Int) % (len : Int) = ((i % len : Nat) : Int)) := hmod
    clear hcell hmod
    go_enter Try.func7, Try.ntmps7
    go_wp2
    go_ret
    exact ⟨⟨c % most, rfl, Int.emod_nonneg _ (by omega), fun _ => Int.emod_lt_of_pos _ (by omega), fun h => by omega⟩, rfl⟩
end Go.Proofs.Ytfjiidicnimeeaa
