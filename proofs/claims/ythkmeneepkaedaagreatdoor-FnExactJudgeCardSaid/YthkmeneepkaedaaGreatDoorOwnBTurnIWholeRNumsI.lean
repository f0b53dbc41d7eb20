/-
  Parts of one proof, laid as one text: OwnB, TurnI, WholeR, NumsI; what each says stands at its head.
-/
import Derived.Test.YthkmeneepkaedaaGreatDoorRows
import Derived.Test.YthkmeneepkaedaaGreatDoorBytesDigMath
import Derived.Handy
import Derived.WalkSmall
import Derived.ArgAppend
import Derived.Lib.LazyBuf
import Derived.Laws.BytesArg
import Derived.Laws.OwnMore
import Derived.Deep.AppendLies
import Derived.Laws.Rows
import Derived.Laws.Tables
import Derived.Laws.ResultCell
import Derived.Deep.WholeRow
import Derived.BigRegion
import Derived.Deep.QuietTactic
import Derived.BigQuiet
import Derived.StillTailTactics
/-
  A row of bytes that the call made, one byte more at a time, also where the row came of a string ('[]byte(s)': the run-time's mark behind its last cell).
  Conditions: the row stays below 2^46 bytes.
-/
namespace Go.Proofs.YthkmeneepkaedaaGreatDoor
open Go.RowKit Go.Lib
set_option linter.unusedVariables false

structure OwnB (w : World) (base g cap : Nat) (xs : List Int) : Prop where
  lo : base ≤ g
  hi : g < w.heap.size
  fit : xs.length ≤ cap
  max : cap ≤ maxLen
  room : ∀ j, j < cap → (w.cell? ⟨g, j, none⟩).isSome = true ∧ w.frozen? ⟨g, j, none⟩ = false
  cells : ∀ j (h : j < xs.length), w.cell? ⟨g, j, none⟩ = some (.int .u8 xs[j])

theorem OwnB.carry {w w' : World} {base g cap : Nat} {xs : List Int} (h : OwnB w base g cap xs) (hs : w.heap.size ≤ w'.heap.size) (hb : w'.heap[g]? = w.heap[g]?) : OwnB w' base g cap xs :=
  ⟨h.lo, Nat.lt_of_lt_of_le h.hi hs, h.fit, h.max, fun j hj => by
    have e1 : w'.cell? ⟨g, j, none⟩ = w.cell? ⟨g, j, none⟩ := World.cell?_of_block hb
    have e2 : w'.frozen? ⟨g, j, none⟩ = w.frozen? ⟨g, j, none⟩ := World.frozen?_of_block hb
    rw [e1, e2]; exact h.room j hj, fun j hj => by
    have e1 : w'.cell? ⟨g, j, none⟩ = w.cell? ⟨g, j, none⟩ := World.cell?_of_block hb
    rw [e1]; exact h.cells j hj⟩
theorem OwnB.drew {w : World} {base g cap : Nat} {xs : List Int} (h : OwnB w base g cap xs) : OwnB w.drew base g cap xs := h.carry (Nat.le_refl _) rfl
theorem OwnB.alloc {w : World} {base g cap : Nat} {xs : List Int} (h : OwnB w base g cap xs) (o : Obj) : OwnB (w.alloc o) base g cap xs :=
  h.carry (by simp) (Below.heap_alloc w o g h.hi)
theorem OwnB.below {w w' : World} {base g cap : Nat} {xs : List Int} (h : OwnB w base g cap xs) (hb : Below w.heap.size w w') : OwnB w' base g cap xs :=
  h.carry hb.size (hb.block g h.hi)

theorem ownB_of_row {w : World} {base g n cap : Nat} {xs : List Int} {T : TypeId} (h : w.ownsRow base T 1 (.slice (some ⟨g, 0, none⟩) n cap) n (xs.map (Value.int .u8))) (hx : xs.length = n) : OwnB w base g cap xs := by
  have hlt := h.lt g rfl
  rcases h.2 with ⟨h0, _⟩ | ⟨g2, cap2, cur, hv, hb, hg, hn, hc, hs, ht⟩
  · cases h0
  · cases hv
    refine ⟨hb, hlt.2, by omega, hc, fun j hj => ?_, fun j hj => ?_⟩
    · have : j < cur.size := by omega
      simp [World.cell?, World.frozen?, hg, this]
    · rw [h.cellAt j (by omega)]
      simp [List.getElem?_eq_getElem hj]

theorem ownB_of_string (w : World) (s : ByteArray) (T : TypeId) (hs : s.size ≤ maxLen) :
    OwnB (w.drew.alloc (.cells (bytesRow s (grownCap w s.size 0 T)) T ((bytesRow s (grownCap w s.size 0 T)).size, (bytesRow s (grownCap w s.size 0 T)).size + 1))) w.heap.size w.heap.size (grownCap w s.size 0 T) (bytesN s) := by
  have hge := grownCap_ge w s.size 0 T
  have hle := grownCap_le_maxLen w s.size 0 T hs
  generalize grownCap w s.size 0 T = C at *
  have hsz : (bytesRow s C).size = C := by
    have : s.data.size = s.size := rfl
    simp [bytesRow, this]; omega
  have hat : (w.drew.alloc (.cells (bytesRow s C) T ((bytesRow s C).size, (bytesRow s C).size + 1))).heap[w.heap.size]? = some (.cells (bytesRow s C) T ((bytesRow s C).size, (bytesRow s C).size + 1)) := heap_alloc_new w.drew _
  refine ⟨Nat.le_refl _, by simp, by rw [bytesN_len]; exact hge, hle, fun j hj => ?_, fun j hj => ?_⟩
  · rw [hsz] at hat ⊢
    refine ⟨?_, ?_⟩
    · have : j < (bytesRow s C).size := by omega
      simp only [World.cell?, hat]
      simp [this]
    · simp only [World.frozen?, hat]
      simp; omega
  · rw [bytesN_len] at hj
    have h2 : j < s.data.size := hj
    simp only [World.cell?, hat]
    simp [bytesRow, bytesN, Array.getElem?_append, hj]

theorem append_b {P : Program} (w : World) (t ty e : TypeId) (i : TypeInfo) (ht : P.underlying t = some (.slice e)) (hi : P.info? e = some i) (hz : i.zero = some (.int .u8 0)) (hz1 : i.size = 1) (hz2 : i.bytes = 1)
    (base g cap : Nat) (xs : List Int) (h : OwnB w base g cap xs) (ad : Addr) (c : Nat) (x : Int) (hx : w.cell? (ad.add 0) = some (.int .u8 x)) (hlen : xs.length < 70368744177664) (hB : base ≤ w.heap.size) :
    ∃ g' cap' w', (Builtin.append_ #[t, t] ty #[.slice (some ⟨g, 0, none⟩) xs.length cap, .slice (some ad) 1 c]).run P w = .ok (.slice (some ⟨g', 0, none⟩) (xs.length + 1) cap') w' ∧
      OwnB w' base g' cap' (xs ++ [x]) ∧ ∀ w0, Below base w0 w → Below base w0 w' := by
  have hnews : ∀ j u, [Value.int .u8 x][j]? = some u → w.cell? (ad.add j) = some u := fun j u hj => by
    match j with
    | 0 => simp at hj; rw [hx, hj]
    | j + 1 => simp at hj
  by_cases hroom : xs.length + 1 ≤ cap
  · have hr := run_append_room_cells (P := P) w t ty e i ht hi g 0 xs.length cap ad 1 c [.int .u8 x] (by rw [hz1]; rfl) hnews (by simp [Value.oneCell']) hroom
      (fun j hj => by rw [hz1]; have : j = 0 := by simpa using hj
                      subst this; simpa using (h.room xs.length (by omega)).1)
      (fun j hj => by rw [hz1]; have : j = 0 := by simpa using hj
                      subst this; simpa using (h.room xs.length (by omega)).2)
    rw [hz1, Nat.zero_add, Nat.mul_one] at hr
    have e0 : (w.setCells g xs.length [.int .u8 x]) = w.setCell ⟨g, xs.length, none⟩ (.int .u8 x) := rfl
    rw [e0] at hr
    have hcs : (w.cell? ⟨g, xs.length, none⟩).isSome = true := (h.room xs.length (by omega)).1
    have hin := World.cell?_setCells_in g [.int .u8 x] xs.length w (fun j hj => by have : j = 0 := by simpa using hj
                                                                                   subst this; exact hcs) 0 (by simp)
    rw [e0] at hin
    have hout : ∀ j, j ≠ xs.length → (w.setCell ⟨g, xs.length, none⟩ (.int .u8 x)).cell? ⟨g, j, none⟩ = w.cell? ⟨g, j, none⟩ := fun j hj => by
      have := World.cell?_setCells_out g [.int .u8 x] xs.length w ⟨g, j, none⟩ (fun _ _ => by simp; omega)
      rwa [e0] at this
    have hfz : ∀ a, (w.setCell ⟨g, xs.length, none⟩ (.int .u8 x)).frozen? a = w.frozen? a := fun a => by
      have := World.frozen?_setCells g [.int .u8 x] xs.length w a
      rwa [e0] at this
    refine ⟨g, cap, _, hr, ⟨h.lo, by simpa using h.hi, by simpa using hroom, h.max, fun j hj => ?_, fun j hj => ?_⟩, fun w0 hb => hb.setCell h.lo _⟩
    · rw [hfz]
      refine ⟨?_, (h.room j hj).2⟩
      by_cases hjn : j = xs.length
      · subst hjn; simp at hin; simp [hin]
      · rw [hout j hjn]; exact (h.room j hj).1
    · by_cases hjn : j = xs.length
      · subst hjn; simp at hin; simp [hin]
      · have hj' : j < xs.length := by simp at hj; omega
        rw [hout j hjn, h.cells j hj', List.getElem_append_left hj']
  · obtain ⟨v', w', hr, hown, hgr⟩ := run_append_arg_grows (P := P) w t ty e i (.int .u8 0) 1 1 ht hi hz hz1 hz2 rfl (by omega) ⟨g, 0, none⟩ xs.length cap (xs.map (Value.int .u8)) (by simp)
      (fun j u hj => by
        have hjl : j < xs.length := by
          rcases Nat.lt_or_ge j xs.length with hh | hh
          · exact hh
          · rw [List.getElem?_eq_none (by simpa using hh)] at hj; cases hj
        have e : (⟨g, 0, none⟩ : Addr).add j = ⟨g, j, none⟩ := by unfold Addr.add; split <;> simp_all
        rw [e, h.cells j hjl]
        simp [List.getElem?_eq_getElem hjl] at hj
        rw [← hj]) ad 1 c [.int .u8 x] rfl hnews (by omega) (by unfold maxLen; omega) (by omega)
    obtain ⟨g', cap', rfl, hbg, hlt⟩ := hown.form (by omega)
    have ho2 := ownB_of_row (xs := xs ++ [x]) (by rw [List.map_append]; exact hown) (by simp)
    refine ⟨g', cap', w', hr, ⟨Nat.le_trans hB hbg, ho2.hi, ho2.fit, ho2.max, ho2.room, ho2.cells⟩, fun w0 hb => hb.grown hgr hB (fun k hk => by cases hk)⟩

theorem wpList_append_run {P : Program} {w : World} {ops : Array Oper} {rest : List Oper} {o : Oper} {a : Act} {Q : Exit → Act → World → Prop} (hgd : o.guard = none) (s x : Operand) (t : TypeId)
    (ho : o.op = .call { callee := .builtin .append, args := #[s, x], argTypes := #[t, t] }) (v1 v2 v' : Value) (w' : World) (hs : a.eval s = v1) (hx : a.eval x = v2)
    (hr : (Builtin.append_ #[t, t] o.type #[v1, v2]).run P w = .ok v' w') (h : wpList P ops Q rest (a.put o.dst v') w') : wpList P ops Q (o :: rest) a w :=
  wpList_plain hgd fun _ hK => by
    unfold Oper.wp execOp
    simp only [ho, resolve, invoke, builtin, Sem.run_bind, Sem.run_pure, Result.andThen_ok, List.map_toArray, List.map_cons, List.map_nil, hs, hx, hr]
    exact hK _ _ h

theorem conv_b {w : World} {base g cap : Nat} {xs : List Int} (h : OwnB w base g cap xs) (off len c : Nat) (hl : off + len ≤ xs.length) :
    (convert 159 9 (.slice (some ⟨g, off, none⟩) len c)).run Tryz.prog w = .ok (.string (strOfNums ((xs.drop off).take len))) w :=
  run_convert_bytes_arg (P := Tryz.prog) w 159 5 Tryz.underlying159 Tryz.underlying5 g off len c ((xs.drop off).take len) (by simp; omega) (fun i hi => by
    rw [h.cells (off + i) (by omega), List.getD_eq_getElem?_getD, List.getElem?_take_of_lt hi, List.getElem?_drop, List.getElem?_eq_getElem (by omega)]; rfl) 9 Tryz.underlying9
end Go.Proofs.YthkmeneepkaedaaGreatDoor
/-
  The program's turnedRight: a number of 32 bits turned right by 1 to 31 places: 'turnR'.
-/
namespace Go.Proofs.YthkmeneepkaedaaGreatDoor
open Go.RowKit Go.Lib
set_option linter.unusedVariables false

theorem ret_intT {k : IntKind} {a b : Int} (h : a = b) : Ending.returned (.int k a) = .returned (.int k b) := by rw [h]
theorem bits_or_comm (a b : Int) : bits .or .u32 a b = bits .or .u32 b a := by
  show IntKind.u32.wrap ((BitVec.ofInt 32 a ||| BitVec.ofInt 32 b).toNat : Int) = IntKind.u32.wrap ((BitVec.ofInt 32 b ||| BitVec.ofInt 32 a).toNat : Int)
  rw [BitVec.or_comm]
theorem rot_s (k : Nat) (h0 : 1 ≤ k) (h1 : k ≤ 31) : bits .and .u64 (IntKind.u64.wrap (-(k : Int))) 31 = 32 - (k : Int) := by
  have key : ∀ y : Fin 32, 1 ≤ y.val → bits .and .u64 (IntKind.u64.wrap (-((y.val : Nat) : Int))) 31 = 32 - ((y.val : Nat) : Int) := by decide +kernel
  exact key ⟨k, by omega⟩ h0

set_option maxHeartbeats 400000 in
theorem rot_any (x : Int) (k : Nat) (w : World) (h0 : 0 ≤ x) (h1 : x ≤ 4294967295) (k0 : 1 ≤ k) (k1 : k ≤ 31) :
    Calls Tryz.prog 190 #[.int .u32 x, .int .i64 (-(k : Int))] w fun e w' => e = .returned (.int .u32 (turnR x k)) ∧ w' = w := by
  have hs := rot_s k k0 k1
  have hc : turnR x k = bits .or .u32 (x * 2 ^ (32 - k) % 4294967296) (x / 2 ^ k) := bits_or_comm _ _
  have HC : Hid (turnR x k = bits .or .u32 (x * 2 ^ (32 - k) % 4294967296) (x / 2 ^ k)) := hc
  clear hc
  have e1 : IntKind.u64.wrap (32 - (32 - (k : Int))) = (k : Int) := by rw [IntKind.wrap_u64]; omega
  have e2 : ((32 : Int) - (k : Int)).toNat = 32 - k := by omega
  go_enter Tryz.func190, Tryz.ntmps190
  go_wp2
  go_ret
  exact ⟨ret_intT HC.out.symm, rfl⟩

theorem turnI_c (x c : Int) (w : World) (h0 : 0 ≤ x) (h1 : x ≤ 4294967295) (c0 : 1 ≤ c) (c1 : c ≤ 31) :
    Calls Tryz.prog 181 #[.int .u32 x, .int .i64 c] w fun e w' => e = .returned (.int .u32 (turnR x c.toNat)) ∧ w' = w := by
  obtain ⟨k, rfl⟩ : ∃ k : Nat, c = k := ⟨c.toNat, by omega⟩
  go_enter Tryz.func181, Tryz.ntmps181
  go_wp2_with (go_at_call 190; refine (rot_any _ k _ h0 h1 (by omega) (by omega)).mono ?_; rintro e w' ⟨rfl, rfl⟩)
  go_ret
  exact ⟨rfl, rfl⟩
end Go.Proofs.YthkmeneepkaedaaGreatDoor
/-
  A whole array by value out of a block, and into one, as one step of a walk; a result that lies in a block.
  Nothing of the program is named here.
-/
namespace Go.Proofs.YthkmeneepkaedaaGreatDoor
open Go.RowKit Go.Lib
set_option linter.unusedVariables false

theorem wpList_load_row {P : Program} {w : World} {ops : Array Oper} {rest : List Oper} {o : Oper} {a : Act} {Q : Exit → Act → World → Prop} (hgd : o.guard = none) (t : TypeId) (x : Operand)
    (ho : o.op = .load t x) (g : Addr) (v : Value) (hx : a.eval x = .pointer (some g)) (hl : (loadVar t g).run P w = .ok v w)
    (h : wpList P ops Q rest (a.put o.dst v) w) : wpList P ops Q (o :: rest) a w :=
  wpList_plain hgd fun _ hK => by
    unfold Oper.wp execOp
    simp only [ho, hx, Instr.loadAt, Instr.sureAddr, Sem.run_bind, Sem.run_pure, Result.andThen_ok, hl]
    exact hK _ _ h
theorem wpList_store_row {P : Program} {w : World} {ops : Array Oper} {rest : List Oper} {o : Oper} {a : Act} {Q : Exit → Act → World → Prop} (hgd : o.guard = none) (t : TypeId) (x y : Operand)
    (ho : o.op = .store t x y) (hd : o.dst = none) (g : Addr) (v : Value) (w' : World) (hx : a.eval x = .pointer (some g)) (hy : a.eval y = v) (hl : (storeVar t g v).run P w = .ok () w')
    (h : wpList P ops Q rest a w') : wpList P ops Q (o :: rest) a w :=
  wpList_plain hgd fun _ hK => by
    have e : a.put o.dst undef = a := by rw [hd]; rfl
    unfold Oper.wp execOp
    simp only [ho, hx, hy, Instr.storeAt, Instr.sureAddr, Sem.run_bind, Sem.run_pure, Result.andThen_ok, hl]
    exact hK _ _ (by rw [e]; exact h)
theorem results_cell {fn : Func} {p : Tmp} {ty : TypeId} (h : fn.results = #[.cell p ty]) (tmps : Array Value) (P : Program) (w : World) :
    (results fn tmps).run P w = ((asAddr (tmps.getD p undef)).run P w).andThen fun a w₁ => (loadVar ty a).run P w₁ := by
  simp only [results, h]
  simp [Sem.run_bind, Result.andThen]
theorem bodyPost_cell {P : Program} {fn : Func} {R : Ending → World → Prop} {a : Act} {w : World} {p : Tmp} {ty : TypeId} {g : Addr} {v : Value} (h : fn.results = #[.cell p ty]) (hd : a.defers = [])
    (hp : a.tmps.getD p undef = .pointer (some g)) (hl : (loadVar ty g).run P w = .ok v w) (hR : R (.returned v) w) : bodyPost P fn R .ret a w := by
  refine bodyPost_ret (v := v) ?_ hd hR
  rw [results_cell h, hp]
  simp [asAddr, Result.andThen, hl]
end Go.Proofs.YthkmeneepkaedaaGreatDoor
/-
  The program's numsOf: the 64 words of a block, in new memory.
  Conditions: the slice holds the block's 64 bytes.
-/
namespace Go.Proofs.YthkmeneepkaedaaGreatDoor
open Go.RowKit Go.Lib
set_option linter.unusedVariables false

theorem orN (a b : Nat) (ha : a < 4294967296) (hb : b < 4294967296) : bits .or .u32 (a : Int) (b : Int) = ((a ||| b : Nat) : Int) := by
  show IntKind.u32.wrap ((BitVec.ofInt 32 (a : Int) ||| BitVec.ofInt 32 (b : Int)).toNat : Int) = _
  rw [BitVec.ofInt_natCast, BitVec.ofInt_natCast, BitVec.toNat_or, BitVec.toNat_ofNat, BitVec.toNat_ofNat, Nat.mod_eq_of_lt (by omega), Nat.mod_eq_of_lt (by omega), IntKind.wrap_u32]
  have h : a ||| b < 2 ^ 32 := Nat.or_lt_two_pow (by omega) (by omega)
  omega
theorem or_add (x y : Int) (k : Nat) (hk : k ≤ 32) (x0 : 0 ≤ x) (y0 : 0 ≤ y) (y1 : y < 2 ^ k) (h : x * 2 ^ k + y < 4294967296) : bits .or .u32 (x * 2 ^ k) y = x * 2 ^ k + y := by
  obtain ⟨a, rfl⟩ : ∃ a : Nat, x = a := ⟨x.toNat, by omega⟩
  obtain ⟨b, rfl⟩ : ∃ b : Nat, y = b := ⟨y.toNat, by omega⟩
  have e : ((a : Int) * 2 ^ k) = ((2 ^ k * a : Nat) : Int) := by rw [Int.natCast_mul, Int.natCast_pow, Int.mul_comm]; rfl
  rw [e] at h ⊢
  have hb : b < 2 ^ k := by
    have : (b : Int) < ((2 ^ k : Nat) : Int) := by rw [Int.natCast_pow]; exact y1
    omega
  rw [orN _ _ (by omega) (by omega), ← Nat.two_pow_add_eq_or_of_lt hb]
  omega
def partW (c1 c2 c3 c4 : Int) : Nat → Int
  | 0 => 0
  | 1 => c1
  | 2 => c1 * 256 + c2
  | 3 => c1 * 65536 + c2 * 256 + c3
  | _ => c1 * 16777216 + c2 * 65536 + c3 * 256 + c4
theorem word4_sum {c1 c2 c3 c4 : Int} (h1 : 0 ≤ c1 ∧ c1 ≤ 255) (h2 : 0 ≤ c2 ∧ c2 ≤ 255) (h3 : 0 ≤ c3 ∧ c3 ≤ 255) (h4 : 0 ≤ c4 ∧ c4 ≤ 255) : word4 c1 c2 c3 c4 = partW c1 c2 c3 c4 4 := by
  unfold word4
  have a1 := or_add c1 (c2 * 65536) 24 (by omega) (by omega) (by omega) (by omega) (by omega)
  rw [show (2 : Int) ^ 24 = 16777216 from rfl] at a1
  rw [a1, show c1 * 16777216 + c2 * 65536 = (c1 * 256 + c2) * 2 ^ 16 by omega, or_add _ (c3 * 256) 16 (by omega) (by omega) (by omega) (by omega) (by omega)]
  rw [show (c1 * 256 + c2) * 2 ^ 16 + c3 * 256 = (c1 * 65536 + c2 * 256 + c3) * 2 ^ 8 by omega, or_add _ c4 8 (by omega) (by omega) (by omega) (by omega) (by omega)]
  show _ = c1 * 16777216 + c2 * 65536 + c3 * 256 + c4
  omega
theorem or_byte {x c : Int} (h0 : 0 ≤ x) (h1 : x < 16777216) (c0 : 0 ≤ c) (c1 : c ≤ 255) : bits .or .u32 (x * 256 % 4294967296) c = x * 256 + c := by
  rw [show x * 256 % 4294967296 = x * 2 ^ 8 by omega, or_add x c 8 (by omega) h0 c0 (by omega) (by omega)]; omega
def partB (b : ByteArray) (k j : Nat) : Int := partW (byteAt b (4 * k)) (byteAt b (4 * k + 1)) (byteAt b (4 * k + 2)) (byteAt b (4 * k + 3)) j
theorem partB_bd (b : ByteArray) (k j : Nat) : 0 ≤ partB b k j ∧ partB b k j ≤ 4294967295 := by
  have h1 := byteAt_bd b (4 * k); have h2 := byteAt_bd b (4 * k + 1); have h3 := byteAt_bd b (4 * k + 2); have h4 := byteAt_bd b (4 * k + 3)
  unfold partB
  match j with
  | 0 => simp [partW]
  | 1 => simp only [partW]; omega
  | 2 => simp only [partW]; omega
  | 3 => simp only [partW]; omega
  | j + 4 => simp only [partW]; omega
theorem partB_step (b : ByteArray) (k j : Nat) (hj : j < 4) : bits .or .u32 (partB b k j * 256 % 4294967296) (byteAt b (4 * k + j)) = partB b k (j + 1) := by
  have h1 := byteAt_bd b (4 * k); have h2 := byteAt_bd b (4 * k + 1); have h3 := byteAt_bd b (4 * k + 2); have h4 := byteAt_bd b (4 * k + 3)
  unfold partB
  match j, hj with
  | 0, _ => simp only [partW, Nat.add_zero]; rw [or_byte (by omega) (by omega) h1.1 h1.2]; omega
  | 1, _ => simp only [partW]; rw [or_byte (by omega) (by omega) h2.1 h2.2]
  | 2, _ => simp only [partW]; rw [or_byte (by omega) (by omega) h3.1 h3.2]; omega
  | 3, _ => simp only [partW]; rw [or_byte (by omega) (by omega) h4.1 h4.2]; omega
theorem partB_four (b : ByteArray) (k : Nat) : wordsTo b k ++ [partB b k 4] = wordsTo b (k + 1) := by
  show _ = wordsTo b k ++ [_]
  rw [word4_sum (byteAt_bd b _) (byteAt_bd b _) (byteAt_bd b _) (byteAt_bd b _)]; rfl
theorem uRow_zero (l : List Int) (h : l.length < 64) : uRow (l ++ [0]) = uRow l := by
  unfold uRow
  have e : 64 - l.length = (64 - (l.length + 1)) + 1 := by omega
  rw [List.length_append, List.length_singleton, e, List.replicate_succ]
  simp
theorem uRow_again (l : List Int) (u v : Int) (h : l.length < 64) : (uRow (l ++ [u])).toArray.setIfInBounds l.length (.int .u32 v) = (uRow (l ++ [v])).toArray := by
  unfold uRow
  simp [List.set_append_right]

theorem under64 : Tryz.prog.underlying 231 = some (.array (Tryz.prog.arrayLen 231) (Tryz.prog.elem 231)) := by kernel_rfl
theorem info64 : (Tryz.prog.info? 231).map (·.size) = some 64 := by kernel_rfl
theorem uRow_one (l : List Int) : (uRow l).toArray.all (·.oneCell') = true := by
  simp [uRow, Value.oneCell']
theorem ret_agg {a b : Array Value} (h : a = b) : Ending.returned (.agg a) = .returned (.agg b) := by rw [h]
theorem size_allocN (w : World) (o : Obj) : (w.alloc o).heap.size = w.heap.size + 1 := by simp
set_option maxHeartbeats 1000000 in
set_option maxRecDepth 20000 in
theorem numsI_any (w : World) (gb off cap : Nat) (b : ByteArray) (hcap : 64 ≤ cap) (hg : gb < w.heap.size)
   (hc : ∀ i, i < 64 → w.cell? ⟨gb, off + i, none⟩ = some (.int .u8 (byteAt b i))) :
    Calls Tryz.prog 180 #[.slice (some ⟨gb, off, none⟩) 64 cap] w fun e w' => e = .returned (.agg (uRow (schedTo b 48)).toArray) ∧ Below w.heap.size w w' := by
  have HC : Hid (∀ i, i < 64 → w.cell? ⟨gb, off + i, none⟩ = some (.int .u8 (byteAt b i))) := hc
  clear hc
  go_enter Tryz.func180, Tryz.ntmps180
  obtain ⟨W1, hW1⟩ : ∃ W1, W1 = w.alloc (.cells (uRow []).toArray 231) := ⟨_, rfl⟩
  have HB1 : Hid (Below w.heap.size w W1) := by show Below _ _ _; rw [hW1]; exact (Below.refl _ _).alloc (Nat.le_refl _) _
  have HR1 : Hid (W1.heap[w.heap.size]? = some (.cells (uRow []).toArray 231 (0, 0))) := by show _ = _; rw [hW1]; exact heap_alloc_new w _
  have HS1 : Hid (W1.heap.size = w.heap.size + 1) := by show _ = _; rw [hW1, size_allocN]
  have HG : Hid ((W1.alloc (.cells (uRow []).toArray 231)).heap[w.heap.size + 1]? = some (.cells (uRow []).toArray 231 (0, 0))) := by show _ = _; rw [← HS1.out]; exact heap_alloc_new W1 _
  have HGB : Hid (Below (w.heap.size + 1) W1 (W1.alloc (.cells (uRow []).toArray 231))) := by show Below _ _ _; exact (Below.refl _ _).alloc (Nat.le_of_eq HS1.out.symm) _
  rw [hW1] at HG HGB
  go_wp2
  go_loopw [12] (fun i wr => ∃ k : Nat, k ≤ 16 ∧ i = .int .i64 k ∧ Hid (wr.heap[w.heap.size + 1]? = some (.cells (uRow (wordsTo b k)).toArray 231 (0, 0))) ∧ Hid (Below (w.heap.size + 1) W1 wr)) (fun i _ => 16 - (intOf i).toNat)
  case atStart => exact ⟨0, by omega, rfl, HG, hW1 ▸ HGB⟩
  case round =>
    clear HG HGB hW1
    obtain ⟨k, hk, rfl, hrow, hnx⟩ := hrel
    by_cases hlt : k < 16
    · have q1 : (4 : Int) * k + 4 ≤ cap := by omega
      have q2 : ((4 : Int) * k).toNat = 4 * k := by omega
      have q3 : ((4 : Int) * k + 4).toNat = 4 * k + 4 := by omega
      have q4 : ¬ cap = 4 * k := by omega
      have q5 : 4 * k + 4 - 4 * k = 4 := by omega
      go_wp2
      clear q1 q2 q3 q4 q5
      go_loopw [23] (fun i wr => ∃ j : Nat, j ≤ 4 ∧ i = .int .i64 j ∧ Hid (wr.heap[w.heap.size + 1]? = some (.cells (uRow (wordsTo b k ++ [partB b k j])).toArray 231 (0, 0))) ∧ Hid (Below (w.heap.size + 1) W1 wr)) (fun i _ => 4 - (intOf i).toNat)
      case atStart => exact ⟨0, by omega, rfl, by show _ = _; rw [show partB b k 0 = 0 from rfl, uRow_zero _ (by rw [wordsTo_len]; omega)]; exact hrow.out, hnx⟩
      case round =>
        clear hrow hnx
        obtain ⟨j, hj, rfl, hrow, hnx⟩ := hrel
        by_cases hjl : j < 4
        · have hck := uRow_cell hrow.out (by rw [List.length_append, wordsTo_len]; show k + 1 ≤ 64; omega) k (by omega)
          have hfk := uRow_free hrow.out k
          have e1 : (wordsTo b k ++ [partB b k j]).getD k 0 = partB b k j := by
            rw [List.getD_eq_getElem?_getD, List.getElem?_append_right (by rw [wordsTo_len]; omega), wordsTo_len]; simp
          rw [e1] at hck
          have hcb : wr.cell? ⟨gb, off + 4 * k + j, none⟩ = some (.int .u8 (byteAt b (4 * k + j))) := by
            rw [hnx.out.cell (p := ⟨gb, off + 4 * k + j, none⟩) (by show gb < _; omega), HB1.out.cell (p := ⟨gb, off + 4 * k + j, none⟩) hg, Nat.add_assoc]
            exact HC.out (4 * k + j) (by omega)
          have hst := partB_step b k j hjl
          have bd := byteAt_bd b (4 * k + j)
          have pd := partB_bd b k j
          have HR : Hid (∀ x c, x = partB b k j → c = byteAt b (4 * k + j) → (wr.setCell ⟨w.heap.size + 1, k, none⟩ (.int .u32 (bits .or .u32 (x * 256 % 4294967296) c))).heap[w.heap.size + 1]? = some (.cells (uRow (wordsTo b k ++ [partB b k (j + 1)])).toArray 231 (0, 0))) := by
            show ∀ _, _
            rintro x c rfl rfl
            rw [hst]
            simp only [World.setCell, Array.getElem?_modify, hrow.out]
            have := uRow_again (wordsTo b k) (partB b k j) (partB b k (j + 1)) (by rw [wordsTo_len]; omega)
            rw [wordsTo_len] at this
            simp [this]
          have HR' := HR.out _ _ rfl rfl
          generalize byteAt b (4 * k + j) = c at *
          generalize partB b k j = x at *
          have HR2 : Hid ((wr.setCell ⟨w.heap.size + 1, k, none⟩ (.int .u32 (bits .or .u32 (x * 256 % 4294967296) c))).heap[w.heap.size + 1]? = some (.cells (uRow (wordsTo b k ++ [partB b k (j + 1)])).toArray 231 (0, 0))) := HR'
          have HN2 : Hid (Below (w.heap.size + 1) W1 (wr.setCell ⟨w.heap.size + 1, k, none⟩ (.int .u32 (bits .or .u32 (x * 256 % 4294967296) c)))) := hnx.out.setCell (Nat.le_refl _) _
          clear HR HR' hst e1 hrow
          obtain ⟨b0, b1⟩ := bd
          obtain ⟨p0, p1⟩ := pd
          have q6 : (k : Int) < 64 := by omega
          have q7 : (j : Int) < 4 := by omega
          go_wp2
          go_roundw
          case rel => exact ⟨j + 1, by omega, by go_num, HR2, HN2⟩
          case measure => simp [intOf]; omega
        · have hj4 : j = 4 := by omega
          subst hj4
          rw [partB_four] at hrow
          go_wp2
          go_roundw
          case rel => exact ⟨k + 1, by omega, by go_num, hrow, hnx⟩
          case measure => simp [intOf]; omega
    · have hk16 : k = 16 := by omega
      subst hk16
      rw [show ((16 : Nat) : Int) = (16 : Int) from rfl]
      clear hlt hk
      go_wp2
      go_loopw [7] (fun i wr => ∃ m : Nat, 16 ≤ m ∧ m ≤ 64 ∧ i = .int .i64 m ∧ Hid (wr.heap[w.heap.size + 1]? = some (.cells (uRow (schedTo b (m - 16))).toArray 231 (0, 0))) ∧ Hid (Below (w.heap.size + 1) W1 wr)) (fun i _ => 64 - (intOf i).toNat)
      case atStart => exact ⟨16, by omega, by omega, rfl, hrow, hnx⟩
      case round =>
        clear hrow hnx
        obtain ⟨m, hm, hk, rfl, hrow, hnx⟩ := hrel
        by_cases hlt : m < 64
        · have hx := uRow_cell hrow.out (by rw [schedTo_len]; omega) (m - 15) (by omega)
          have hy := uRow_cell hrow.out (by rw [schedTo_len]; omega) (m - 2) (by omega)
          have bx := schedTo_in b (m - 16) (m - 15)
          have bY := schedTo_in b (m - 16) (m - 2)
          have bz := schedTo_in b (m - 16) (m - 16)
          have bu := schedTo_in b (m - 16) (m - 7)
          obtain ⟨x, hxe⟩ : ∃ x, x = (schedTo b (m - 16)).getD (m - 15) 0 := ⟨_, rfl⟩
          obtain ⟨y, hye⟩ : ∃ y, y = (schedTo b (m - 16)).getD (m - 2) 0 := ⟨_, rfl⟩
          rw [← hxe] at hx bx
          rw [← hye] at hy bY
          have HX : Hid (x = (schedTo b (m - 16)).getD (m - 15) 0) := hxe
          have HY : Hid (y = (schedTo b (m - 16)).getD (m - 2) 0) := hye
          clear hxe hye
          obtain ⟨x0, x1⟩ := bx
          obtain ⟨y0, y1⟩ := bY
          have i1 : (15 : Int) ≤ (m : Int) := by omega
          have i2 : (m : Int) - 15 < 64 := by omega
          have i3 : (2 : Int) ≤ (m : Int) := by omega
          have i4 : (m : Int) - 2 < 64 := by omega
          have t3 : ((m : Int) - 15).toNat = m - 15 := by omega
          have t4 : ((m : Int) - 2).toNat = m - 2 := by omega
          have jw3 : IntKind.i64.wrap ((m : Int) - 15) = (m : Int) - 15 := by rw [IntKind.wrap_i64]; omega
          have jw4 : IntKind.i64.wrap ((m : Int) - 2) = (m : Int) - 2 := by rw [IntKind.wrap_i64]; omega
          have j1 : (16 : Int) ≤ (m : Int) := by omega
          have j2 : (m : Int) - 16 < 64 := by omega
          have j3 : (7 : Int) ≤ (m : Int) := by omega
          have j4 : (m : Int) - 7 < 64 := by omega
          have j5 : (m : Int) < 64 := by omega
          have t1 : ((m : Int) - 16).toNat = m - 16 := by omega
          have t2 : ((m : Int) - 7).toNat = m - 7 := by omega
          have jw1 : IntKind.i64.wrap ((m : Int) - 16) = (m : Int) - 16 := by rw [IntKind.wrap_i64]; omega
          have jw2 : IntKind.i64.wrap ((m : Int) - 7) = (m : Int) - 7 := by rw [IntKind.wrap_i64]; omega
          go_wp2
          go_quiet (fail)
          go_wp2_with (go_at_call 181; refine (turnI_c _ _ _ (by assumption) (by assumption) (by decide) (by decide)).mono ?_; rintro e w' ⟨rfl, rfl⟩)
          generalize hwq : wr.drewN nq = wq
          have hrow2 : Hid (wq.heap[w.heap.size + 1]? = some (.cells (uRow (schedTo b (m - 16))).toArray 231 (0, 0))) := by show _ = _; rw [← hwq]; exact hrow.out
          have hnx2 : Hid (Below (w.heap.size + 1) W1 wq) := by show Below _ _ _; rw [← hwq]; exact below_drewN hnx.out nq
          clear hwq hrow hnx hx hy
          have hz := uRow_cell hrow2.out (by rw [schedTo_len]; omega) (m - 16) (by omega)
          have hu := uRow_cell hrow2.out (by rw [schedTo_len]; omega) (m - 7) (by omega)
          have hv := uRow_cell hrow2.out (by rw [schedTo_len]; omega) m (by omega)
          have hf := uRow_free hrow2.out m
          have hq : Hid (schedTo b ((m - 16) + 1) = schedTo b (m - 16) ++ [((schedTo b (m - 16)).getD (m - 16) 0 + sigA ((schedTo b (m - 16)).getD (m - 15) 0) + (schedTo b (m - 16)).getD (m - 7) 0 + sigB ((schedTo b (m - 16)).getD (m - 2) 0)) % 4294967296]) := by
            show schedTo b ((m - 16) + 1) = _
            show _ ++ [nextW _ (16 + (m - 16))] = _
            rw [show 16 + (m - 16) = m from by omega]; rfl
          rw [← HX.out, ← HY.out] at hq
          generalize (schedTo b (m - 16)).getD (m - 16) 0 = z at *
          generalize (schedTo b (m - 16)).getD (m - 7) 0 = u at *
          generalize (schedTo b (m - 16)).getD m 0 = v at *
          obtain ⟨z0, z1⟩ := bz
          obtain ⟨u0, u1⟩ := bu
          have HW : Hid ((wq.setCell ⟨w.heap.size + 1, m, none⟩ (.int .u32 ((z + sigA x + u + sigB y) % 4294967296))).drew.heap[w.heap.size + 1]? = some (.cells (uRow (schedTo b (m + 1 - 16))).toArray 231 (0, 0))) := by
            show (wq.setCell ⟨w.heap.size + 1, m, none⟩ (.int .u32 ((z + sigA x + u + sigB y) % 4294967296))).heap[w.heap.size + 1]? = _
            rw [blk_set hrow2.out]
            have := uRow_set (schedTo b (m - 16)) ((z + sigA x + u + sigB y) % 4294967296) (by rw [schedTo_len]; omega)
            rw [schedTo_len, show 16 + (m - 16) = m from by omega] at this
            rw [this, show m + 1 - 16 = (m - 16) + 1 from by omega, hq.out]
          have HBl : Hid (Below (w.heap.size + 1) W1 (wq.setCell ⟨w.heap.size + 1, m, none⟩ (.int .u32 ((z + sigA x + u + sigB y) % 4294967296))).drew) := (hnx2.out.setCell (Nat.le_refl _) _).drew
          clear hq
          refine wp_region_still_tail 15 (by kernel_rfl) (by kernel_rfl) ?_
          simp only [List.take_succ_cons, List.take_zero, List.drop_succ_cons, List.drop_zero]
          repeat still_step
          refine wpStill_nil ?_
          go_wp2
          go_roundw
          case rel => exact ⟨m + 1, by omega, by omega, by go_num, HW, HBl⟩
          case measure => simp [intOf]; omega
        · have hm64 : m = 64 := by omega
          subst hm64
          rw [show ((64 : Nat) : Int) = (64 : Int) from rfl]
          clear hlt hk hm
          have h64 : (uRow (schedTo b 48)).toArray.size = 64 := by rw [List.size_toArray, uRow_len _ (by rw [schedTo_len]; omega)]
          have hRow : wr.heap[w.heap.size + 1]? = some (.cells (uRow (schedTo b 48)).toArray 231 (0, 0)) := hrow.out
          have hld := run_loadVar_row (P := Tryz.prog) wr (w.heap.size + 1) 231 231 _ (0, 0) _ hRow under64 rfl (by rw [h64]; exact info64)
          have hR0 : wr.heap[w.heap.size]? = some (.cells (uRow []).toArray 231 (0, 0)) := (hnx.out.block _ (Nat.lt_succ_self _)).trans HR1.out
          have hst := run_storeVar_row (P := Tryz.prog) wr w.heap.size 231 231 _ (uRow (schedTo b 48)).toArray hR0 (by rw [h64]; exact info64) (by rw [h64]; rfl) (uRow_one _)
          have hR1 := setRow_heap wr w.heap.size _ (uRow (schedTo b 48)).toArray 231 _ hR0
          have hld2 := run_loadVar_row (P := Tryz.prog) (wr.setRow w.heap.size (uRow (schedTo b 48)).toArray) w.heap.size 231 231 _ (0, 0) _ hR1 under64 rfl (by rw [h64]; exact info64)
          have hbe : Hid (Below w.heap.size w (wr.setRow w.heap.size (uRow (schedTo b 48)).toArray)) := below_setRow (HB1.out.trans (hnx.out.mono (Nat.le_succ _))) (Nat.le_refl _) _
          generalize hRE : (uRow (schedTo b 48)).toArray = row at *
          have HRE : Hid ((uRow (schedTo b 48)).toArray = row) := hRE
          clear hRE
          have HL : Hid ((loadVar 231 ⟨w.heap.size + 1, 0, none⟩).run Tryz.prog wr = .ok (.agg row) wr) := hld
          have HT : Hid ((storeVar 231 ⟨w.heap.size, 0, none⟩ (.agg row)).run Tryz.prog wr = .ok () (wr.setRow w.heap.size row)) := hst
          have HL2 : Hid ((loadVar 231 ⟨w.heap.size, 0, none⟩).run Tryz.prog (wr.setRow w.heap.size row) = .ok (.agg row) (wr.setRow w.heap.size row)) := hld2
          generalize wr.setRow w.heap.size row = wz at *
          clear hld hst hld2 hR0 hR1 hRow h64 hrow hnx HR1
          go_wp2_with (first | refine wpList_load_row rfl 231 _ rfl ⟨w.heap.size + 1, 0, none⟩ _ rfl HL.out ?_ | refine wpList_store_row rfl 231 _ _ rfl rfl ⟨w.heap.size, 0, none⟩ _ wz rfl rfl HT.out ?_)
          refine bodyPost_cell rfl rfl rfl HL2.out ⟨ret_agg HRE.out.symm, hbe.out⟩
end Go.Proofs.YthkmeneepkaedaaGreatDoor
