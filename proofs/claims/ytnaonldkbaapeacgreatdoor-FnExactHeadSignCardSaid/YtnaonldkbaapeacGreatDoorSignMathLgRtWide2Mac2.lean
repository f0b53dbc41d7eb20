/-
  Parts of one proof, laid as one text: SignMath, LgRt, Wide2, Mac2; what each says stands at its head.
-/
import Derived.Test.YtnaonldkbaapeacGreatDoorBytesDigMath
import Derived.Test.YtnaonldkbaapeacGreatDoorBox3LawSigLawSigMMacMathSgnBTreeHIncMathTakerTakePathConMathProofLaw
import Derived.Test.YtnaonldkbaapeacGreatDoorTimeBPutMathPutNum
import Derived.Test.YtnaonldkbaapeacGreatDoorTreeMath
import Derived.Test.YtnaonldkbaapeacGreatDoorSlASlBBxKOwnSTakes
import Derived.Test.YtnaonldkbaapeacGreatDoorLawLmOpFOpLgPathMath
import Derived.Test.YtnaonldkbaapeacGreatDoorRows
import Derived.Test.YtnaonldkbaapeacGreatDoorJoinedPutTextFldMath
import Derived.Test.YtnaonldkbaapeacGreatDoorGetValGetTxtNumMathFldRdNumFromTmbMath
import Derived.Test.YtnaonldkbaapeacGreatDoorLgMathLgAtKShwK
import Derived.Test.YtnaonldkbaapeacGreatDoorLgAnsPlaceIEq18ImplGn
import Derived.Handy
import Derived.Test.YtnaonldkbaapeacGreatDoorPowerOwnBTurnIWholeRNumsI
import Derived.Test.YtnaonldkbaapeacGreatDoorPadIDigITurn2
import Derived.Test.YtnaonldkbaapeacGreatDoorAll2LeafNodeTree2
/-
  Signatures as plain functions: steps, keys, digits, what is signed and what is verified; what is signed is verified under the seed's root (P6).
-/
namespace Go.Proofs.YtnaonldkbaapeacGreatDoor
open Go.RowKit Go.Lib
set_option linter.unusedVariables false

def stepsB : Nat → ByteArray → ByteArray
  | 0, t => t
  | n + 1, t => stepsB n (digB t)
theorem stepsB_add (a b : Nat) : ∀ t, stepsB (a + b) t = stepsB b (stepsB a t) := by
  induction a with
  | zero => intro t; rw [Nat.zero_add]; rfl
  | succ a ih => intro t; rw [show a + 1 + b = (a + b) + 1 by omega]; exact ih (digB t)
theorem stepsB_size (n : Nat) : ∀ t : ByteArray, t.size = 32 → (stepsB n t).size = 32 := by
  induction n with
  | zero => intro t h; exact h
  | succ n ih => intro t h; exact ih _ (digB_size t)
theorem putI_le (f : Nat) : ∀ u, (putI f u).length ≤ f + 1 := by
  induction f with
  | zero => intro u; simp [putI]
  | succ f ih =>
    intro u
    have := ih (u / 128)
    unfold putI; split <;> simp <;> omega
theorem putB_le (i : Int) : (putB i).size ≤ 10 := by
  unfold putB; rw [strOfNums_size]; exact putI_le 9 _
theorem putB2_size (i j : Int) : (putB i ++ putB j).size ≤ 20 := by
  have h1 := putI_le 9 (foldN i)
  have h2 := putI_le 9 (foldN j)
  rw [ByteArray.size_append]
  unfold putB
  rw [strOfNums_size, strOfNums_size]; omega
def begB (seed : ByteArray) (i j : Int) : ByteArray := macB seed (putB i ++ putB j)
theorem begB_size (seed : ByteArray) (i j : Int) : (begB seed i j).size = 32 := digB_size _
def catB (f : Nat → ByteArray) : Nat → ByteArray
  | 0 => ByteArray.empty
  | n + 1 => catB f n ++ f n
theorem catB_size (f : Nat → ByteArray) (n : Nat) (h : ∀ j, j < n → (f j).size = 32) : (catB f n).size = 32 * n := by
  induction n with
  | zero => rfl
  | succ n ih =>
    show (catB f n ++ f n).size = _
    rw [ByteArray.size_append, ih (fun j hj => h j (by omega)), h n (by omega)]; omega
theorem catB_congr (f g : Nat → ByteArray) (n : Nat) (h : ∀ j, j < n → f j = g j) : catB f n = catB g n := by
  induction n with
  | zero => rfl
  | succ n ih =>
    show catB f n ++ f n = catB g n ++ g n
    rw [ih (fun j hj => h j (by omega)), h n (by omega)]
/-- Chain j of key i, behind all its steps. -/
def topB (seed : ByteArray) (i : Int) (j : Nat) : ByteArray := stepsB 15 (begB seed i j)
theorem topB_size (seed : ByteArray) (i : Int) (j : Nat) : (topB seed i j).size = 32 := stepsB_size _ _ (begB_size _ _ _)
def pubB (seed : ByteArray) (i : Nat) : ByteArray := digB (catB (topB seed i) 6)
theorem pubB_size (seed : ByteArray) (i : Nat) : (pubB seed i).size = 32 := digB_size _
def pubsTo (seed : ByteArray) (k : Nat) : List ByteArray := (List.range k).map (pubB seed)
def pubsB (seed : ByteArray) : List ByteArray := pubsTo seed 4
theorem pubsTo_step (seed : ByteArray) (k : Nat) : pubsTo seed (k + 1) = pubsTo seed k ++ [pubB seed k] := by simp [pubsTo, List.range_succ]
theorem pubsTo_len (seed : ByteArray) (k : Nat) : (pubsTo seed k).length = k := by simp [pubsTo]
theorem pubsTo_wide (seed : ByteArray) (k : Nat) : ∀ x ∈ pubsTo seed k, x.size = 32 := by
  intro x hx
  obtain ⟨i, _, rfl⟩ := List.mem_map.1 hx
  exact pubB_size _ _
theorem pubsB_ent (seed : ByteArray) : entB (pubsB seed) = true := by
  refine entB_true (by rw [pubsB, pubsTo_len]; omega) (fun j h => ?_)
  rw [pubsTo_wide seed 4 _ (List.getElem_mem h)]; omega
def seedB (seed : ByteArray) : Bool := decide (1 ≤ seed.size ∧ seed.size ≤ 64)
def rootA (seed : ByteArray) : ByteArray := if seedB seed = true then treeB (pubsB seed) else ByteArray.empty

/-- The digits of a text. -/
def digsI (t : ByteArray) : List Int :=
  let a := byteAt (digB t) 0
  let b := byteAt (digB t) 1
  let r := 60 - a / 16 - a % 16 - b / 16 - b % 16
  [a / 16, a % 16, b / 16, b % 16, r / 16, r % 16]
def dg (t : ByteArray) (j : Nat) : Int := (digsI t).getD j 0
theorem dg_bd (t : ByteArray) (j : Nat) (hj : j < 6) : 0 ≤ dg t j ∧ dg t j ≤ 15 := by
  have h0 := byteAt_bd (digB t) 0
  have h1 := byteAt_bd (digB t) 1
  unfold dg digsI
  generalize byteAt (digB t) 0 = a at *
  generalize byteAt (digB t) 1 = b at *
  match j, hj with
  | 0, _ => simp; omega
  | 1, _ => simp; omega
  | 2, _ => simp; omega
  | 3, _ => simp; omega
  | 4, _ => simp; omega
  | 5, _ => simp; omega
  | j + 6, h => omega
theorem digsI_len (t : ByteArray) : (digsI t).length = 6 := rfl

/-- What Ends hold of the first k chains. -/
def endsTo (seed : ByteArray) (key : Int) (text : ByteArray) (k : Nat) : List ByteArray := (List.range k).map fun j => stepsB (dg text j).toNat (begB seed key j)
theorem endsTo_step (seed : ByteArray) (key : Int) (text : ByteArray) (k : Nat) : endsTo seed key text (k + 1) = endsTo seed key text k ++ [stepsB (dg text k).toNat (begB seed key k)] := by simp [endsTo, List.range_succ]
theorem endsTo_len (seed : ByteArray) (key : Int) (text : ByteArray) (k : Nat) : (endsTo seed key text k).length = k := by simp [endsTo]
theorem endsTo_wide (seed : ByteArray) (key : Int) (text : ByteArray) (k : Nat) : ∀ x ∈ endsTo seed key text k, x.size = 32 := by
  intro x hx
  obtain ⟨j, _, rfl⟩ := List.mem_map.1 hx
  exact stepsB_size _ _ (begB_size _ _ _)
theorem endsTo_get (seed : ByteArray) (key : Int) (text : ByteArray) (k j : Nat) (h : j < k) : (endsTo seed key text k).getD j ByteArray.empty = stepsB (dg text j).toNat (begB seed key j) := by
  simp [endsTo, List.getD_eq_getElem?_getD, h]

def signOk (seed : ByteArray) (key : Int) (text : ByteArray) : Bool := seedB seed && (decide (0 ≤ key ∧ key ≤ 3) && decide (text.size ≤ 8000))
def sgK (seed : ByteArray) (key : Int) (text : ByteArray) : Int := if signOk seed key text = true then key else 0
def sgE (seed : ByteArray) (key : Int) (text : ByteArray) : List ByteArray := if signOk seed key text = true then endsTo seed key text 6 else []
def sgP (seed : ByteArray) (key : Int) (text : ByteArray) : List ByteArray := if signOk seed key text = true then pathB (pubsB seed) key.toNat else []

/-- The first k Ends, taken to their tops, one behind the other. -/
def upTo (text : ByteArray) (ends : List ByteArray) (k : Nat) : ByteArray := catB (fun j => stepsB (15 - dg text j).toNat (ends.getD j ByteArray.empty)) k
theorem upTo_step (text : ByteArray) (ends : List ByteArray) (k : Nat) : upTo text ends (k + 1) = upTo text ends k ++ stepsB (15 - dg text k).toNat (ends.getD k ByteArray.empty) := rfl
def verA (root text : ByteArray) (key : Int) (ends path : List ByteArray) : Bool :=
  if sgnB key ends path = true ∧ root.size = 32 ∧ text.size ≤ 8000 then incA (leafB (digB (upTo text ends 6))) key 4 path root else false

theorem pathB_two (l : List ByteArray) (h : l.length = 2) (i : Nat) (hi : i < 2) : (pathB l i).length = 1 := by
  have h2 : halfN l.length = 1 := by rw [h]; exact halfN_unique (n := 2) (j := 0) (by omega) (by omega)
  by_cases hl : i < halfN l.length
  · rw [pathB_left (by omega) hl, pathB_one (by simp; omega)]; simp
  · rw [pathB_right (by omega) hl, pathB_one (by simp; omega)]; simp
theorem pathB_four (l : List ByteArray) (h : l.length = 4) (i : Nat) (hi : i < 4) : (pathB l i).length = 2 := by
  have h2 : halfN l.length = 2 := by rw [h]; exact halfN_unique (n := 4) (j := 1) (by omega) (by omega)
  by_cases hl : i < halfN l.length
  · rw [pathB_left (by omega) hl, List.length_append, pathB_two _ (by simp; omega) _ (by omega)]; simp
  · rw [pathB_right (by omega) hl, List.length_append, pathB_two _ (by simp; omega) _ (by omega)]; simp
theorem pubsB_len (seed : ByteArray) : (pubsB seed).length = 4 := pubsTo_len seed 4
theorem signOk_parts {seed : ByteArray} {key : Int} {text : ByteArray} (h : signOk seed key text = true) : seedB seed = true ∧ (0 ≤ key ∧ key ≤ 3) ∧ text.size ≤ 8000 := by
  unfold signOk at h
  rw [Bool.and_eq_true, Bool.and_eq_true, decide_eq_true_iff, decide_eq_true_iff] at h
  exact h
/-- What is signed is right. -/
theorem sign_right (seed : ByteArray) (key : Int) (text : ByteArray) : sgnB (sgK seed key text) (sgE seed key text) (sgP seed key text) = signOk seed key text := by
  cases h : signOk seed key text with
  | true =>
    obtain ⟨_, hk, _⟩ := signOk_parts h
    unfold sgK sgE sgP
    rw [if_pos h, if_pos h, if_pos h]
    unfold sgnB
    rw [decide_eq_true hk, endsTo_len, pathB_four _ (pubsB_len seed) _ (by omega), wideB_of (endsTo_wide seed key text 6), wideB_of (pathB_wide _ _)]
    rfl
  | false =>
    have hn : ¬ signOk seed key text = true := by rw [h]; exact Bool.false_ne_true
    unfold sgK sgE sgP
    rw [if_neg hn, if_neg hn, if_neg hn]
    rfl
/-- P6: what is signed is verified under the seed's root. -/
theorem sign_true {seed : ByteArray} {key : Int} {text : ByteArray} (h : signOk seed key text = true) : verA (rootA seed) text (sgK seed key text) (sgE seed key text) (sgP seed key text) = true := by
  obtain ⟨hs, hk, ht⟩ := signOk_parts h
  obtain ⟨i, rfl⟩ := Int.eq_ofNat_of_zero_le hk.1
  have hr := sign_right seed i text
  rw [h] at hr
  have hroot : rootA seed = treeB (pubsB seed) := if_pos hs
  unfold verA
  rw [if_pos ⟨hr, by rw [hroot, treeB_size], ht⟩, hroot]
  unfold sgK sgE sgP
  rw [if_pos h, if_pos h, if_pos h, Int.toNat_natCast]
  have hup : upTo text (endsTo seed i text 6) 6 = catB (topB seed i) 6 := by
    refine catB_congr _ _ _ (fun j hj => ?_)
    obtain ⟨b0, b1⟩ := dg_bd text j hj
    show stepsB (15 - dg text j).toNat ((endsTo seed i text 6).getD j ByteArray.empty) = stepsB 15 (begB seed i j)
    rw [endsTo_get _ _ _ _ _ hj, ← stepsB_add, show (dg text j).toNat + (15 - dg text j).toNat = 15 by omega]
  rw [hup]
  have hi : i < (pubsB seed).length := by rw [pubsB_len]; omega
  have hg : (pubsB seed)[i] = pubB seed i := by simp [pubsB, pubsTo]
  have hI := inc_true (pubsB_ent seed) i hi
  rw [hg, pubsB_len] at hI
  have hp : pathA (pubsB seed) (i : Int) = pathB (pubsB seed) i := by
    unfold pathA; rw [if_pos ⟨pubsB_ent seed, by omega, by rw [pubsB_len]; omega⟩, Int.toNat_natCast]
  have ht : treeA (pubsB seed) = treeB (pubsB seed) := if_pos (pubsB_ent seed)
  rw [hp, ht] at hI
  exact hI
end Go.Proofs.YtnaonldkbaapeacGreatDoor
/-
  The root of a log's first leaves and its head, in plain mathematics; the leaves of a right log are small.
-/
namespace Go.Proofs.YtnaonldkbaapeacGreatDoor
open Go.RowKit Go.Lib
set_option linter.unusedVariables false

def roO (rs : List Rw) (lv : List ByteArray) (now n : Int) : ByteArray := if lgB rs lv now = true then (if 0 ≤ n ∧ n ≤ (lv.length : Int) then treeB (lv.take n.toNat) else ByteArray.empty) else ByteArray.empty
def hdB (lv : List ByteArray) : ByteArray := putB (lv.length : Int) ++ putTextB (treeB lv)
def hdO (rs : List Rw) (lv : List ByteArray) (now : Int) : ByteArray := if lgB rs lv now = true then hdB lv else ByteArray.empty
theorem go_small (rs : List Rw) (now : Int) : ∀ (suf pre : List ByteArray) (n n' : Nat), cGo rs now pre n suf = some n' → ∀ t ∈ suf, t.size ≤ 100
  | [], _, _, _, _ => fun t h => by cases h
  | t :: ts, pre, n, n', h => by
    rw [cGo] at h
    have each : ∀ {m : Nat} {q : List ByteArray}, t.size ≤ 100 → cGo rs now q m ts = some n' → ∀ x ∈ t :: ts, x.size ≤ 100 := fun ht hc x hx => by
      rcases List.mem_cons.1 hx with rfl | hx
      · exact ht
      · exact go_small rs now ts _ _ _ hc x hx
    split at h
    · rename_i hn
      refine each ?_ h
      rw [((nx_iff _ _ _).1 hn).2]
      unfold rlB
      rw [ByteArray.size_append, digB_size]
      show 1 + 32 ≤ 100
      omega
    · split at h
      · rename_i hn ho
        refine each ?_ h
        unfold okT at ho
        simp only [Bool.and_eq_true, decide_eq_true_iff] at ho
        obtain ⟨-, -, hR, -⟩ := tr_sound ho.1
        have := (tmRaw_size (trT t)).2
        rw [hR] at this
        omega
      · cases h
theorem lg_small {rs : List Rw} {lv : List ByteArray} {now : Int} (h : lgB rs lv now = true) : ∀ t ∈ lv, t.size ≤ 100 := by
  rw [lg_eq] at h
  unfold imB at h
  simp only [Bool.and_eq_true] at h
  cases hc : cGo rs now [] 0 lv with
  | none => rw [hc] at h; exact absurd h.2.2 (by simp)
  | some n => exact go_small rs now lv [] 0 n hc
theorem ent_take {lv : List ByteArray} (h1 : lv.length ≤ 64) (h2 : ∀ t ∈ lv, t.size ≤ 100) (k : Nat) : entB (lv.take k) = true :=
  entB_true (by simp; omega) (fun j hj => h2 _ (List.mem_of_mem_take (List.getElem_mem hj)))
theorem rtSize (wx : World) : (sizeOf (Tryz.prog.elem 23)).run Tryz.prog wx = .ok 1 wx := by kernel_rfl
theorem rtElem : Tryz.prog.underlying 23 = some (.slice (Tryz.prog.elem 23)) := by kernel_rfl
theorem sl_to (q : Option Addr) (n c k : Nat) (hk : k ≤ c) (wx : World) : (Instr.slice 23 (.slice q n c) none (some (.int .i64 (k : Int))) none).run Tryz.prog wx = .ok (.slice q k c) wx := by
  rw [run_slice_h (P := Tryz.prog) wx 23 q n c rtElem .i64 (k : Int) (by omega) (by omega), rtSize]
  cases q <;> simp [sliced, Result.andThen, Addr.add]
theorem rtSizeL (wx : World) : (sizeOf (Tryz.prog.elem 57)).run Tryz.prog wx = .ok 1 wx := by kernel_rfl
theorem rtElemL : Tryz.prog.underlying 57 = some (.slice (Tryz.prog.elem 57)) := by kernel_rfl
theorem sl_lv (q : Option Addr) (n c k : Nat) (hk : k ≤ c) (wx : World) : (Instr.slice 57 (.slice q n c) none (some (.int .i64 (k : Int))) none).run Tryz.prog wx = .ok (.slice q k c) wx := by
  rw [run_slice_h (P := Tryz.prog) wx 57 q n c rtElemL .i64 (k : Int) (by omega) (by omega), rtSizeL]
  cases q <;> simp [sliced, Result.andThen, Addr.add]
theorem putTextB_32 {t : ByteArray} (h : t.size = 32) : (putTextB t).size ≤ 42 := by
  have := putTextB_le t (by omega)
  omega
end Go.Proofs.YtnaonldkbaapeacGreatDoor
/-
  What the specification's l03Wide answers.
  Conditions: the slice's cells hold those texts; it is at most 2^47 long.
-/
namespace Go.Proofs.YtnaonldkbaapeacGreatDoor
open Go.RowKit Go.Lib
set_option linter.unusedVariables false

end Go.Proofs.YtnaonldkbaapeacGreatDoor
/-
  The specification's l02Pad and l02Mac: 'padK', 'macB', in new memory.
-/
namespace Go.Proofs.YtnaonldkbaapeacGreatDoor
open Go.RowKit Go.Lib
set_option linter.unusedVariables false
set_option maxRecDepth 20000

theorem conv_row {w : World} {g : Nat} {xs : List Int} {T : TypeId} (h : w.heap[g]? = some (.cells (rowN xs).toArray T (0, 0))) (n c : Nat) (hn : xs.length = n) :
    (convert 100 9 (.slice (some ⟨g, 0, none⟩) n c)).run Tryz.prog w = .ok (.string (strOfNums xs)) w :=
  run_convert_bytes_arg (P := Tryz.prog) w 100 5 Tryz.underlying100 Tryz.underlying5 g 0 n c xs hn (fun i hi => by
    have : i < xs.length := by omega
    simp [World.cell?, h, rowN, List.getD_eq_getElem?_getD, this]) 9 Tryz.underlying9

theorem run_make_64 (w : World) : (Instr.makeSlice 100 (.int .i64 64) (.int .i64 64)).run Tryz.prog w = .ok (.slice (some ⟨w.heap.size, 0, none⟩) 64 64) (w.alloc (.cells (zrow 64).toArray 5)) := run_make_u8q 64 (by omega) w
set_option maxHeartbeats 1000000 in
theorem specPad_any (key : ByteArray) (m : Int) (w : World) (hk : key.size ≤ 64) (m0 : 0 ≤ m) (m1 : m ≤ 255) :
    Calls Tryz.prog 139 #[.string key, .int .u8 m] w fun e w' => e = .returned (.string (padK key m)) ∧ Below w.heap.size w w' := by
  have hmk := run_make_64
  obtain ⟨w2, hcp, hrow2, hbel⟩ := copy_str (P := Tryz.prog) (w.alloc (.cells (zrow 64).toArray 5)) 100 9 3 5 Tryz.underlying100 sizeU8q w.heap.size 0 64 64 key (zrow 64) 5 (heap_alloc_new w _) (by omega) (by simp [zrow]; omega)
  have HB2 : Hid (Below w.heap.size w w2) := hbel w.heap.size w ((Below.refl _ _).alloc (Nat.le_refl _) _) (Nat.le_refl _)
  rw [pad_zero key 64 hk, kPart_zero key m hk] at hrow2
  have HR2 : Hid (w2.heap[w.heap.size]? = some (.cells (rowN (kPart key m 0)).toArray 5 (0, 0))) := hrow2
  have HP : Hid (padK key m = strOfNums (kPart key m 64)) := rfl
  clear hrow2 hbel
  go_enter Tryz.func139, Tryz.ntmps139
  go_wp2
  go_loopw [6] (fun x wr => ∃ k : Nat, k ≤ 64 ∧ x = .int .i64 k ∧ Hid (wr.heap[w.heap.size]? = some (.cells (rowN (kPart key m k)).toArray 5 (0, 0))) ∧ Hid (Below w.heap.size w wr)) (fun x _ => 64 - (intOf x).toNat)
  case atStart => exact ⟨0, by omega, rfl, HR2, HB2⟩
  case round =>
    clear HR2 HB2 hmk hcp
    obtain ⟨k, hk2, rfl, hrow, hnx⟩ := hrel
    by_cases hlt : k < 64
    · obtain ⟨hc, hf⟩ := kRow_cell hrow.out hlt
      have hbd := byteAt_bd key k
      have hset := kPart_set key m k hlt
      have H0 : ∀ x, x = byteAt key k → (wr.setCell ⟨w.heap.size, k, none⟩ (.int .u8 (bits .xor .u8 x m))).heap[w.heap.size]? = some (.cells (rowN (kPart key m (k + 1))).toArray 5 (0, 0)) := by
        rintro x rfl; rw [blk_set hrow.out, hset]
      have H1 := H0 _ rfl
      clear H0 hset
      generalize byteAt key k = c at *
      have HR : Hid ((wr.setCell ⟨w.heap.size, k, none⟩ (.int .u8 (bits .xor .u8 c m))).heap[w.heap.size]? = some (.cells (rowN (kPart key m (k + 1))).toArray 5 (0, 0))) := H1
      have HB : Hid (Below w.heap.size w (wr.setCell ⟨w.heap.size, k, none⟩ (.int .u8 (bits .xor .u8 c m)))) := hnx.out.setCell (Nat.le_refl _) _
      clear H1
      have j : (k : Int) < 64 := by omega
      go_wp2
      go_roundw
      case rel => exact ⟨k + 1, by omega, by go_num, HR, HB⟩
      case measure => simp [intOf]; omega
    · have hk64 : k = 64 := by omega
      subst hk64
      have hconv := conv_row hrow.out 64 64 (kPart_len _ _ _)
      rw [← HP.out] at hconv
      go_wp2
      go_ret
      exact ⟨rfl, hnx.out⟩

def Gives (f : FuncId) (args : Array Value) (r : ByteArray) : Prop := ∀ w, Calls Tryz.prog f args w fun e w' => e = .returned (.string r) ∧ Below w.heap.size w w'
set_option maxHeartbeats 1000000 in
theorem specMac_core (key K P1 P2 text D1 D2 : ByteArray) (w : World) (hk : key.size ≤ 1099511627776) (hp1 : P1.size ≤ 64) (hp2 : P2.size ≤ 64) (hd1 : D1.size ≤ 32) (ht : text.size ≤ 1099511620000)
    (A1 : (64 < key.size ∧ Gives 91 #[.string key] K) ∨ (key.size ≤ 64 ∧ K = key))
    (A2 : Gives 139 #[.string K, .int .u8 92] P1) (A3 : Gives 139 #[.string K, .int .u8 54] P2)
    (A4 : Gives 91 #[.string (P2 ++ text)] D1) (A5 : Gives 91 #[.string (P1 ++ D1)] D2) :
    Calls Tryz.prog 117 #[.string key, .string text] w fun e w' => e = .returned (.string D2) ∧ Below w.heap.size w w' := by
  have H2 : Hid (Gives 139 #[.string K, .int .u8 92] P1) := A2
  have H3 : Hid (Gives 139 #[.string K, .int .u8 54] P2) := A3
  have H4 : Hid (Gives 91 #[.string (P2 ++ text)] D1) := A4
  have H5 : Hid (Gives 91 #[.string (P1 ++ D1)] D2) := A5
  clear A2 A3 A4 A5
  rcases A1 with ⟨h, A1⟩ | ⟨h, rfl⟩
  · have H1 : Hid (Gives 91 #[.string key] K) := A1
    clear A1
    go_enter Tryz.func117, Tryz.ntmps117
    go_wp2_with fail
    refine (H1.out _).mono ?_
    rintro e w1 ⟨rfl, b1⟩
    go_wp2_with fail
    refine (H2.out _).mono ?_
    rintro e w2 ⟨rfl, b2⟩
    go_wp2_with fail
    refine (H3.out _).mono ?_
    rintro e w3 ⟨rfl, b3⟩
    go_wp2_with fail
    refine (H4.out _).mono ?_
    rintro e w4 ⟨rfl, b4⟩
    go_wp2_with fail
    refine (H5.out _).mono ?_
    rintro e w5 ⟨rfl, b5⟩
    go_wp2_with fail
    go_ret
    exact ⟨rfl, b1.trans ((b2.trans ((b3.trans ((b4.trans (b5.mono b4.size)).mono b3.size)).mono b2.size)).mono b1.size)⟩
  · go_enter Tryz.func117, Tryz.ntmps117
    go_wp2_with fail
    refine (H2.out _).mono ?_
    rintro e w2 ⟨rfl, b2⟩
    go_wp2_with fail
    refine (H3.out _).mono ?_
    rintro e w3 ⟨rfl, b3⟩
    go_wp2_with fail
    refine (H4.out _).mono ?_
    rintro e w4 ⟨rfl, b4⟩
    go_wp2_with fail
    refine (H5.out _).mono ?_
    rintro e w5 ⟨rfl, b5⟩
    go_wp2_with fail
    go_ret
    exact ⟨rfl, b2.trans ((b3.trans ((b4.trans (b5.mono b4.size)).mono b3.size)).mono b2.size)⟩
theorem specMacB_any (key text : ByteArray) (w : World) (hk : key.size ≤ 1099511627776) (ht : text.size ≤ 1099511620000) :
    Calls Tryz.prog 117 #[.string key, .string text] w fun e w' => e = .returned (.string (macB key text)) ∧ Below w.heap.size w w' := by
  refine specMac_core key (keyK key) (padK (keyK key) 92) (padK (keyK key) 54) text (digB (padK (keyK key) 54 ++ text)) (macB key text) w hk (Nat.le_of_eq (padK_size _ _)) (Nat.le_of_eq (padK_size _ _)) (Nat.le_of_eq (digB_size _)) ht ?_
    (fun w => specPad_any _ 92 w (keyK_size key) (by omega) (by omega)) (fun w => specPad_any _ 54 w (keyK_size key) (by omega) (by omega))
    (fun w => specAll_any _ w (by rw [ByteArray.size_append, padK_size]; omega)) (fun w => specAll_any _ w (by rw [ByteArray.size_append, padK_size, digB_size]; omega))
  by_cases h : 64 < key.size
  · refine .inl ⟨h, ?_⟩
    rw [show keyK key = digB key from if_pos h]
    exact fun w => specAll_any key w hk
  · exact .inr ⟨by omega, if_neg h⟩
end Go.Proofs.YtnaonldkbaapeacGreatDoor
