/-
  Parts of one proof, laid as one text: Joined, TurnI, WholeR; what each says stands at its head.
-/
import Derived.Test.YtfdihkgkiiekcaaDoorRows
import Derived.Test.YtfdihkgkiiekcaaDoorBytesDigMath
import Derived.Handy
import Derived.Laws.Rows
import Derived.Laws.Tables
import Derived.Laws.ResultCell
import Derived.Deep.WholeRow
import Derived.Deep.AppendLies
/-
  What 'joined' answers: the texts of its slice behind one another, in new memory; nothing that was there turns.
  Conditions: the slice's cells hold those texts; together they are at most 2^46 bytes long.
-/
namespace Go.Proofs.YtfdihkgkiiekcaaDoor
open Go.RowKit Go.Lib
set_option linter.unusedVariables false

theorem infoU8 : (Tryd.prog.info? 5).map (fun i => (i.zero, i.size, i.bytes)) = some (some (.int .u8 0), 1, 1) := by kernel_rfl
theorem sizeU8 : (Tryd.prog.info? 5).map (·.size) = some 1 := by kernel_rfl
theorem run_make_u8 (n : Nat) (hn : n ≤ 281474976710656) (w : World) :
    (Instr.makeSlice 70 (.int .i64 (n : Int)) (.int .i64 (n : Int))).run Tryd.prog w = .ok (.slice (some ⟨w.heap.size, 0, none⟩) n n) (w.alloc (.cells (zrow n).toArray 5)) := by
  obtain ⟨i0, hi, hz0, hz1, hz2⟩ := info_parts infoU8
  have := run_make (P := Tryd.prog) w 70 5 i0 (.int .u8 0) Tryd.underlying70 hi hz0 .i64 .i64 (n : Int) (n : Int) (by omega) (by omega) (by rw [hz2]; omega) (by omega)
  rw [this, hz1]
  simp only [Int.toNat_natCast, Nat.mul_one]
  rw [← madeZ]; rfl

set_option maxHeartbeats 1000000 in
theorem joined_any (b off n cap : Nat) (ss : List ByteArray) (w : World) (hn : ss.length = n) (hb : b < w.heap.size) (hnm : n ≤ 1048576) (hcap : n ≤ cap)
    (hc : ∀ i (h : i < ss.length), w.cell? ⟨b, off + i, none⟩ = some (.string ss[i])) (htot : sumN ss ss.length ≤ 70368744177664) :
    Calls Tryd.prog 24 #[.slice (some ⟨b, off, none⟩) n cap] w fun e w' => e = .returned (.string (cat ss)) ∧ Below w.heap.size w w' := by
  subst hn
  have HC : Hid (∀ i (h : i < ss.length), w.cell? ⟨b, off + i, none⟩ = some (.string ss[i])) := hc
  clear hc
  go_enter Tryd.func24, Tryd.ntmps24
  go_wp2
  go_loop [3, 12] (fun x i => ∃ k : Nat, k ≤ ss.length ∧ i = .int .i64 k ∧ x = .int .i64 (sumN ss k : Nat)) (fun _ i => ss.length - (intOf i).toNat)
  case atStart => exact ⟨0, Nat.zero_le _, rfl, rfl⟩
  case round =>
    obtain ⟨k, hk, rfl, rfl⟩ := hrel
    by_cases hlt : k < ss.length
    · have hck := HC.out k hlt
      have hle := sumN_le ss (k + 1)
      have HS : Hid (sumN ss (k + 1) = sumN ss k + ss[k].size) := sumN_succ ss k hlt
      have hsz : sumN ss k + ss[k].size ≤ 70368744177664 := by have := HS.out; omega
      clear hle
      generalize ss[k] = p at *
      go_wp2
      go_round
      case rel => exact ⟨k + 1, by omega, by go_num, by rw [HS.out]; go_num⟩
      case measure => simp [intOf]; omega
    · have hkk : k = ss.length := by omega
      subst hkk
      obtain ⟨tot, hT⟩ : ∃ tot, tot = sumN ss ss.length := ⟨_, rfl⟩
      have HT : Hid (tot = sumN ss ss.length) := hT
      rw [← hT] at htot ⊢
      clear hT
      have hmk := run_make_u8 tot (by omega)
      go_wp2
      go_loopw [7, 25] (fun x i wr => ∃ k : Nat, k ≤ ss.length ∧ i = .int .i64 k ∧ x = .int .i64 (sumN ss k : Nat) ∧ Hid (wr.heap[w.heap.size]? = some (.cells (rowAt ss k tot).toArray 5 (0, 0))) ∧ Below w.heap.size w wr) (fun _ i _ => ss.length - (intOf i).toNat)
      case atStart =>
        refine ⟨0, Nat.zero_le _, rfl, rfl, ?_, (Below.refl _ _).alloc (Nat.le_refl _) _⟩
        show _ = _
        rw [rowAt_zero]
        exact (MapKept.heap_alloc w _).1
      case round =>
        obtain ⟨k, hk, rfl, rfl, hrow, hnx⟩ := hrel
        have hBz : w.heap.size ≤ wr.heap.size := hnx.size
        by_cases hlt : k < ss.length
        · have hck : wr.cell? ⟨b, off + k, none⟩ = some (.string ss[k]) := (hnx.cell (p := ⟨b, off + k, none⟩) hb).trans (HC.out k hlt)
          have hle := sumN_le ss (k + 1)
          have HS : Hid (sumN ss (k + 1) = sumN ss k + ss[k].size) := sumN_succ ss k hlt
          have hsz : sumN ss k + ss[k].size ≤ tot := by have := HS.out; have := HT.out; omega
          have hlen := rowAt_len ss k tot (by omega)
          have HR : Hid (splice (rowAt ss k tot) (sumN ss k) (byteCells ss[k].data.toList) = rowAt ss (k + 1) tot) := rowAt_succ ss k tot hlt (by have := HS.out; omega)
          have HL : Hid ((rowAt ss k tot).length = tot) := hlen
          clear hle hlen
          generalize ss[k] = p at *
          generalize sumN ss k = m at *
          by_cases hm : m = tot
          · have hp0 : p.size = 0 := by omega
            have hcp := copy_str_none (P := Tryd.prog) wr 70 9 3 5 Tryd.underlying70 sizeU8 (some ⟨w.heap.size, 0, none⟩) 0 0 p hp0
            have HR' : Hid (rowAt ss (k + 1) tot = rowAt ss k tot) := by show _ = _; rw [← HR.out, splice_nil _ _ _ hp0]
            have HX : Hid (wr.heap[w.heap.size]? = some (.cells (rowAt ss (k + 1) tot).toArray 5 (0, 0))) := by show _ = _; rw [HR'.out]; exact hrow.out
            have HP : Hid (sumN ss (k + 1) = m) := by show _ = _; rw [HS.out]; omega
            clear hrow HR HR' HL HS
            subst hm
            go_wp2
            go_roundw
            case rel => exact ⟨k + 1, by omega, by go_num, by rw [HP.out], HX, hnx⟩
            case measure => simp [intOf]; omega
          · have hmlt : m < tot := by omega
            clear hm
            obtain ⟨w2, hcp, hrow2, hbel⟩ := copy_str (P := Tryd.prog) wr 70 9 3 5 Tryd.underlying70 sizeU8 w.heap.size m (tot - m) (tot - m) p (rowAt ss k tot) 5 hrow.out (by omega) (by rw [HL.out]; omega)
            have HW : Hid (w2.heap[w.heap.size]? = some (.cells (rowAt ss (k + 1) tot).toArray 5 (0, 0))) := by show _ = _; rw [← HR.out]; exact hrow2
            have hb2 := hbel w.heap.size w hnx (Nat.le_refl _)
            clear hbel hrow2 hrow HR HL
            go_wp2
            go_roundw
            case rel => exact ⟨k + 1, by omega, by go_num, by rw [HS.out]; go_num, HW, hb2⟩
            case measure => simp [intOf]; omega
        · have hkk : k = ss.length := by omega
          subst hkk
          have hrow' : wr.heap[w.heap.size]? = some (.cells (byteCells (catN ss ss.length)).toArray 5 (0, 0)) := by
            have := hrow.out; rw [HT.out, rowAt_all] at this; exact this
          have hconv := run_convert_bytes_back (P := Tryd.prog) wr 70 9 5 ⟨w.heap.size, 0, none⟩ tot (catN ss ss.length) Tryd.underlying70 Tryd.underlying5 Tryd.underlying9 (row_cell hrow')
          have hl : (catN ss ss.length).length = tot := by rw [HT.out]; rfl
          rw [hl, catN_all] at hconv
          clear hl hrow'
          go_wp2
          go_ret
          exact ⟨rfl, hnx⟩

theorem cat_two (a b : ByteArray) : cat [a, b] = a ++ b := by
  apply ByteArray.ext; simp [cat]
theorem cat_one (a : ByteArray) : cat [a] = a := by
  apply ByteArray.ext; simp [cat]
theorem new_texts (w : World) (ss : List ByteArray) (t : TypeId) (i : Nat) (h : i < ss.length) :
    (w.alloc (.cells (ss.map Value.string).toArray t)).cell? ⟨w.heap.size, 0 + i, none⟩ = some (.string ss[i]) := by
  rw [World.cell?_alloc_mark]; simp [h]

theorem joined_new (ss : List ByteArray) (w : World) (hn : ss.length ≤ 1048576) (htot : (cat ss).size ≤ 70368744177664) :
    Calls Tryd.prog 24 #[.slice (some ⟨w.heap.size, 0, none⟩) ss.length ss.length] (w.alloc (.cells (ss.map Value.string).toArray 9))
      fun e w' => e = .returned (.string (cat ss)) ∧ Below w.heap.size w w' := by
  refine (joined_any w.heap.size 0 ss.length ss.length ss _ rfl (by simp) hn (Nat.le_refl _) (new_texts w ss _) (by rw [cat_size] at htot; exact htot)).mono ?_
  rintro e w' ⟨he, hb⟩
  exact ⟨he, ((Below.refl _ _).alloc (Nat.le_refl _) _).trans (hb.mono (by simp))⟩

theorem joined_two (a b : ByteArray) (w : World) (h : a.size + b.size ≤ 70368744177664) :
    Calls Tryd.prog 24 #[.slice (some ⟨w.heap.size, 0, none⟩) 2 2] (w.alloc (.cells #[.string a, .string b] 9))
      fun e w' => e = .returned (.string (a ++ b)) ∧ Below w.heap.size w w' := by
  have := joined_new [a, b] w (by simp) (by rw [cat_two]; simpa using h)
  rw [cat_two] at this
  exact this

theorem joined_one (a : ByteArray) (w : World) (h : a.size ≤ 70368744177664) :
    Calls Tryd.prog 24 #[.slice (some ⟨w.heap.size, 0, none⟩) 1 1] (w.alloc (.cells #[.string a] 9))
      fun e w' => e = .returned (.string a) ∧ Below w.heap.size w w' := by
  have := joined_new [a] w (by simp) (by rw [cat_one]; exact h)
  rw [cat_one] at this
  exact this
end Go.Proofs.YtfdihkgkiiekcaaDoor
/-
  The program's turnedRight: a number of 32 bits turned right by 1 to 31 places: 'turnR'.
-/
namespace Go.Proofs.YtfdihkgkiiekcaaDoor
open Go.RowKit Go.Lib
set_option linter.unusedVariables false

theorem ret_intT {k : IntKind} {a b : Int} (h : a = b) : Ending.returned (.int k a) = .returned (.int k b) := by rw [h]
theorem bits_or_comm (a b : Int) : bits .or .u32 a b = bits .or .u32 b a := by
  show IntKind.u32.wrap ((BitVec.ofInt 32 a ||| BitVec.ofInt 32 b).toNat : Int) = IntKind.u32.wrap ((BitVec.ofInt 32 b ||| BitVec.ofInt 32 a).toNat : Int)
  rw [BitVec.or_comm]
theorem rot_s (k : Nat) (h0 : 1 ≤ k) (h1 : k ≤ 31) : bits .and .u64 (IntKind.u64.wrap (-(k : Int))) 31 = 32 - (k : Int) := by
  have key : ∀ y : Fin 32, 1 ≤ y.val → bits .and .u64 (IntKind.u64.wrap (-((y.val : Nat) : Int))) 31 = 32 - ((y.val : Nat) : Int) := by decide +kernel
  exact key ⟨k, by omega⟩ h0

set_option maxHeartbeats 400000 in
theorem rot_any (x : Int) (k : Nat) (w : World) (h0 : 0 ≤ x) (h1 : x ≤ 4294967295) (k0 : 1 ≤ k) (k1 : k ≤ 31) :
    Calls Tryd.prog 79 #[.int .u32 x, .int .i64 (-(k : Int))] w fun e w' => e = .returned (.int .u32 (turnR x k)) ∧ w' = w := by
  have hs := rot_s k k0 k1
  have hc : turnR x k = bits .or .u32 (x * 2 ^ (32 - k) % 4294967296) (x / 2 ^ k) := bits_or_comm _ _
  have HC : Hid (turnR x k = bits .or .u32 (x * 2 ^ (32 - k) % 4294967296) (x / 2 ^ k)) := hc
  clear hc
  have e1 : IntKind.u64.wrap (32 - (32 - (k : Int))) = (k : Int) := by rw [IntKind.wrap_u64]; omega
  have e2 : ((32 : Int) - (k : Int)).toNat = 32 - k := by omega
  go_enter Tryd.func79, Tryd.ntmps79
  go_wp2
  go_ret
  exact ⟨ret_intT HC.out.symm, rfl⟩

theorem turnI_c (x c : Int) (w : World) (h0 : 0 ≤ x) (h1 : x ≤ 4294967295) (c0 : 1 ≤ c) (c1 : c ≤ 31) :
    Calls Tryd.prog 78 #[.int .u32 x, .int .i64 c] w fun e w' => e = .returned (.int .u32 (turnR x c.toNat)) ∧ w' = w := by
  obtain ⟨k, rfl⟩ : ∃ k : Nat, c = k := ⟨c.toNat, by omega⟩
  go_enter Tryd.func78, Tryd.ntmps78
  go_wp2_with (go_at_call 79; refine (rot_any _ k _ h0 h1 (by omega) (by omega)).mono ?_; rintro e w' ⟨rfl, rfl⟩)
  go_ret
  exact ⟨rfl, rfl⟩
end Go.Proofs.YtfdihkgkiiekcaaDoor
/-
  A whole array by value out of a block, and into one, as one step of a walk; a result that lies in a block.
  Nothing of the program is named here.
-/
namespace Go.Proofs.YtfdihkgkiiekcaaDoor
open Go.RowKit Go.Lib
set_option linter.unusedVariables false

theorem wpList_load_row {P : Program} {w : World} {ops : Array Oper} {rest : List Oper} {o : Oper} {a : Act} {Q : Exit → Act → World → Prop} (hgd : o.guard = none) (t : TypeId) (x : Operand)
    (ho : o.op = .load t x) (g : Addr) (v : Value) (hx : a.eval x = .pointer (some g)) (hl : (loadVar t g).run P w = .ok v w)
    (h : wpList P ops Q rest (a.put o.dst v) w) : wpList P ops Q (o :: rest) a w :=
  wpList_plain hgd fun _ hK => by
    unfold Oper.wp execOp
    simp only [ho, hx, Instr.loadAt, Instr.sureAddr, Sem.run_bind, Sem.run_pure, Result.andThen_ok, hl]
    exact hK _ _ h
theorem wpList_store_row {P : Program} {w : World} {ops : Array Oper} {rest : List Oper} {o : Oper} {a : Act} {Q : Exit → Act → World → Prop} (hgd : o.guard = none) (t : TypeId) (x y : Operand)
    (ho : o.op = .store t x y) (hd : o.dst = none) (g : Addr) (v : Value) (w' : World) (hx : a.eval x = .pointer (some g)) (hy : a.eval y = v) (hl : (storeVar t g v).run P w = .ok () w')
    (h : wpList P ops Q rest a w') : wpList P ops Q (o :: rest) a w :=
  wpList_plain hgd fun _ hK => by
    have e : a.put o.dst undef = a := by rw [hd]; rfl
    unfold Oper.wp execOp
    simp only [ho, hx, hy, Instr.storeAt, Instr.sureAddr, Sem.run_bind, Sem.run_pure, Result.andThen_ok, hl]
    exact hK _ _ (by rw [e]; exact h)
theorem results_cell {fn : Func} {p : Tmp} {ty : TypeId} (h : fn.results = #[.cell p ty]) (tmps : Array Value) (P : Program) (w : World) :
    (results fn tmps).run P w = ((asAddr (tmps.getD p undef)).run P w).andThen fun a w₁ => (loadVar ty a).run P w₁ := by
  simp only [results, h]
  simp [Sem.run_bind, Result.andThen]
theorem bodyPost_cell {P : Program} {fn : Func} {R : Ending → World → Prop} {a : Act} {w : World} {p : Tmp} {ty : TypeId} {g : Addr} {v : Value} (h : fn.results = #[.cell p ty]) (hd : a.defers = [])
    (hp : a.tmps.getD p undef = .pointer (some g)) (hl : (loadVar ty g).run P w = .ok v w) (hR : R (.returned v) w) : bodyPost P fn R .ret a w := by
  refine bodyPost_ret (v := v) ?_ hd hR
  rw [results_cell h, hp]
  simp [asAddr, Result.andThen, hl]
end Go.Proofs.YtfdihkgkiiekcaaDoor
