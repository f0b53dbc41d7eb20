/-
  Parts of one proof, laid as one text: ImplOn, ImplFk, AsD, As2, CodeOf; what each says stands at its head.
-/
import Derived.Test.YtepmoihgemhjcaaGreatDoorRows
import Derived.Test.YtepmoihgemhjcaaGreatDoorBytesDigMath
import Derived.Test.YtepmoihgemhjcaaGreatDoorTreeMathSlABxKSlBOwnS
import Derived.Test.YtepmoihgemhjcaaGreatDoorGrKImplFT
import Derived.Test.YtepmoihgemhjcaaGreatDoorTimeBPutMathPutNumJoinedPutTextFldMath
import Derived.Test.YtepmoihgemhjcaaGreatDoorOwnBPadIDigIDigAllTimeIImplFC
import Derived.Test.YtepmoihgemhjcaaGreatDoorGetValGetTxtNumMathFldRdNumFromTmbMathFldRiseLgMath
import Derived.Test.YtepmoihgemhjcaaGreatDoorImplFR
import Derived.Handy
import Derived.WalkSpells
import Derived.OwnWalk
import Derived.Defers
import Derived.Laws.Pointers
import Derived.Laws.LoneSync
import Derived.RegionTactic
import Derived.RegionCalls
import Derived.Deep.RegionHeld3
import Derived.WalkKit
import Derived.LaidEql
import Derived.Stop.Asserts
import Derived.RowKitTokens
/-
  What a row at work answers: its leaf is reckoned once, by a sync.Once (one goroutine): the parts of sync.Once's slow road, reckon, leaf.
  Conditions: nothing was reckoned yet, the lock is free; the cells of Fields hold the fields; the two tables of the digest lie as laid.
-/
namespace Go.Proofs.YtepmoihgemhjcaaGreatDoor
open Go.RowKit Go.Lib
set_option linter.unusedVariables false
set_option maxRecDepth 20000

theorem oDisable (w : World) : (callFunc 233 #[]).run Tryz.prog w = .ok (.value (.tuple #[])) w := run_call_mark0 Tryz.func233 (by kernel_rfl) (by kernel_rfl) (by kernel_rfl) .disable (by kernel_rfl) w
theorem oEnable (w : World) : (callFunc 235 #[]).run Tryz.prog w = .ok (.value (.tuple #[])) w := run_call_mark0 Tryz.func235 (by kernel_rfl) (by kernel_rfl) (by kernel_rfl) .enable (by kernel_rfl) w
theorem oAcquire (a : Addr) (w : World) : (callFunc 236 #[.pointer (some a)]).run Tryz.prog w = .ok (.value (.tuple #[])) w := run_call_marked Tryz.func236 (by kernel_rfl) (by kernel_rfl) (by kernel_rfl) .acquire (by kernel_rfl) a w
theorem oRelease (a : Addr) (w : World) : (callFunc 238 #[.pointer (some a)]).run Tryz.prog w = .ok (.value (.tuple #[])) w := run_call_marked Tryz.func238 (by kernel_rfl) (by kernel_rfl) (by kernel_rfl) .releaseMerge (by kernel_rfl) a w

theorem store_deferred (a : Addr) (x : Value) (u : FrameMode) (w : World) (hc : w.cell? a = some x) (hz : w.frozen? a = false) :
    CallsD Tryz.prog 221 #[.pointer (some a), .bool true] u w fun e u' w' => u' = u ∧ (e = .returned (.tuple #[]) ∧ w' = w.drew.setCell a (.int .u32 1)) := by
  have hc' : w.drew.cell? a = some x := by go_simp
  have hz' : w.drew.frozen? a = false := by go_simp
  have hst := run_call_store (P := Tryz.prog) Tryz.func228 (by kernel_rfl) (by kernel_rfl) (by kernel_rfl) (by kernel_rfl) (k := .u32) (y := 1) hc' hz'
  go_enter_d Tryz.func221, Tryz.ntmps221
  go_wp2
  go_region_calls
  all_goals (go_end0; exact ⟨rfl, rfl⟩)
theorem unlock_deferred (a : Addr) (u : FrameMode) (w : World) (hc : w.cell? a = some (.int .i32 1)) (hz : w.frozen? a = false) :
    CallsD Tryz.prog 220 #[.pointer (some a)] u w fun e u' w' => u' = u ∧ (e = .returned (.tuple #[]) ∧ w' = w.setCell a (.int .i32 0)) := by
  have hd := oDisable
  have he := oEnable
  have hr := oRelease
  have hadd := run_call_add (P := Tryz.prog) Tryz.func239 (by kernel_rfl) (by kernel_rfl) (by kernel_rfl) .i32 (by kernel_rfl) (y := -1) (s := 0) hc hz (by simp [go_sem]; rfl)
  have hcv := run_convert_to_unsafe (P := Tryz.prog) (src := 231) (dst := 235) Tryz.underlying231 Tryz.underlying235 (by kernel_rfl) hc
  go_enter_d Tryz.func220, Tryz.ntmps220
  go_wp2
  go_end0
  go_wp2
theorem lock_free (a : Addr) (w : World) (hc : w.cell? a = some (.int .i32 0)) (hz : w.frozen? a = false) :
    Calls Tryz.prog 219 #[.pointer (some a)] w fun e w' => e = .returned (.tuple #[]) ∧ w' = w.setCell a (.int .i32 1) := by
  have hd := oDisable
  have he := oEnable
  have ha := oAcquire
  have hcas := run_call_cas_hit (P := Tryz.prog) Tryz.func234 (by kernel_rfl) (by kernel_rfl) (by kernel_rfl) .i32 (by kernel_rfl) (y := 1) hc hz
  have hc' : (w.setCell a (.int .i32 1)).cell? a = some (.int .i32 1) := World.cell?_setCell_same w a _ hc
  have hcv := run_convert_to_unsafe (P := Tryz.prog) (src := 231) (dst := 235) Tryz.underlying231 Tryz.underlying235 (by kernel_rfl) hc'
  go_enter Tryz.func219, Tryz.ntmps219
  go_wp2
  first | go_end0 | (simp only [Exit.inBlock, Exit.then]; refine bodyPost_ret (results_none rfl _ _ _) rfl ?_) | refine bodyPost_ret (results_none rfl _ _ _) rfl ?_
  go_wp2

/-- A row at work: its row, its sync.Once (done or not; the lock), what was reckoned. -/
def RawB (w : World) (P : Nat) (k : ByteArray) (at_ : Int) (v : Value) (d l : Int) (m : ByteArray) : Prop := Bxs w P 145 #[.string k, .int .i64 at_, v, .int .u32 d, .int .i32 l, .int .u32 0, .string m]
theorem RawB.set3 {w : World} {P : Nat} {k : ByteArray} {at_ : Int} {v : Value} {d l : Int} {m : ByteArray} (h : RawB w P k at_ v d l m) (d' : Int) : RawB (w.setCell ⟨P, 3, none⟩ (.int .u32 d')) P k at_ v d' l m := Bxs.set h 3 _
theorem RawB.set4 {w : World} {P : Nat} {k : ByteArray} {at_ : Int} {v : Value} {d l : Int} {m : ByteArray} (h : RawB w P k at_ v d l m) (l' : Int) : RawB (w.setCell ⟨P, 4, none⟩ (.int .i32 l')) P k at_ v d l' m := Bxs.set h 4 _
theorem RawB.set6 {w : World} {P : Nat} {k : ByteArray} {at_ : Int} {v : Value} {d l : Int} {m : ByteArray} (h : RawB w P k at_ v d l m) (m' : ByteArray) : RawB (w.setCell ⟨P, 6, none⟩ (.string m')) P k at_ v d l m' := Bxs.set h 6 _
theorem RawB.drew {w : World} {P : Nat} {k : ByteArray} {at_ : Int} {v : Value} {d l : Int} {m : ByteArray} (h : RawB w P k at_ v d l m) : RawB w.drew P k at_ v d l m := h
theorem RawB.cells {w : World} {P : Nat} {k : ByteArray} {at_ : Int} {v : Value} {d l : Int} {m : ByteArray} (h : RawB w P k at_ v d l m) : w.cell? ⟨P, 0, none⟩ = some (.string k) ∧ w.cell? ⟨P, 1, none⟩ = some (.int .i64 at_) ∧ w.cell? ⟨P, 2, none⟩ = some v ∧ w.cell? ⟨P, 3, none⟩ = some (.int .u32 d) ∧ w.cell? ⟨P, 4, none⟩ = some (.int .i32 l) ∧ w.cell? ⟨P, 6, none⟩ = some (.string m) := ⟨Bxs.cell h 0, Bxs.cell h 1, Bxs.cell h 2, Bxs.cell h 3, Bxs.cell h 4, Bxs.cell h 6⟩

set_option maxHeartbeats 1000000 in
theorem reckon_any (P : Nat) (k : ByteArray) (at_ : Int) (q : Option Addr) (c : Nat) (fs : List Fld) (d l : Int) (w : World) (hT : Tabs w) (hp : RawB w P k at_ (.slice q fs.length c) d l ByteArray.empty) (hf : FldAt w q fs) (hn : fs.length ≤ 1048576) (hc : fs.length ≤ c) (hk : k.size ≤ maxLen) (hz : FldsLe fs) :
    Calls Tryz.prog 180 #[.pointer (some ⟨P, 0, none⟩)] w fun e w' => e = .returned (.tuple #[]) ∧ RawB w' P k at_ (.slice q fs.length c) d l (lfB k at_ fs) ∧ w.grownBy w' (some P) := by
  have HP : Hid (RawB w P k at_ (.slice q fs.length c) d l ByteArray.empty) := hp
  have HTb : Hid (Tabs w) := hT
  have hR := implRowRight_any k at_ q c fs w hT hf hn hc hk hz
  obtain ⟨t0, t1, t2, t3, t4, t6⟩ := hp.cells
  cases hr : rwB k at_ fs with
  | false =>
    have HV : Hid (lfB k at_ fs = ByteArray.empty) := if_neg (by rw [hr]; exact Bool.false_ne_true)
    rw [hr] at hR
    rw [HV.out]
    clear hp hT hf hr t3 t4 t6
    go_enter Tryz.func180, Tryz.ntmps180
    go_wp2_with fail
    refine hR.mono ?_
    rintro e y ⟨rfl, b1⟩
    have HE : Hid (RawB y P k at_ (.slice q fs.length c) d l ByteArray.empty ∧ w.grownBy y (some P)) := ⟨Bxs.below HP.out b1, grown_below b1⟩
    go_wp2_with fail
    go_end0
    exact ⟨rfl, HE.out⟩
  | true =>
    have HV : Hid (lfB k at_ fs = one101 ++ digB (lfT k at_ fs)) := if_pos hr
    rw [hr] at hR
    have HFt : Hid (FldAt w q fs) := hf
    have HRT : Hid (∀ x, Below w.heap.size w x → Calls Tryz.prog 207 #[.agg #[.string k, .int .i64 at_, .slice q fs.length c]] x fun e w' => e = .returned (.string (lfT k at_ fs)) ∧ Below x.heap.size x w') := fun x hb => rowText_any k at_ q c fs x (HFt.out.below hb) hc hr
    have HD : Hid (∀ x, Tabs x → Calls Tryz.prog 152 #[.string (lfT k at_ fs)] x fun e w' => e = .returned (.string (digB (lfT k at_ fs))) ∧ Below x.heap.size x w') := fun x hx => digI_any _ x (by have := lfT_le hr; omega) hx
    have HJ : Hid (∀ x, Calls Tryz.prog 101 #[.slice (some ⟨x.heap.size, 0, none⟩) 2 2] (x.alloc (.cells #[.string ⟨#[101]⟩, .string (digB (lfT k at_ fs))] 9)) fun e w' => e = .returned (.string (one101 ++ digB (lfT k at_ fs))) ∧ Below x.heap.size x w') := fun x => joined_two one101 (digB (lfT k at_ fs)) x (by rw [digB_size]; show 1 + 32 ≤ _; omega)
    rw [HV.out]
    clear hp hT hf hr HFt HV t3 t4 t6
    generalize one101 ++ digB (lfT k at_ fs) = R at *
    generalize digB (lfT k at_ fs) = D at *
    generalize lfT k at_ fs = X at *
    go_enter Tryz.func180, Tryz.ntmps180
    go_wp2_with fail
    refine hR.mono ?_
    rintro e y1 ⟨rfl, b1⟩
    clear t0 t1 t2
    obtain ⟨t0, t1, t2, -, -, -⟩ := RawB.cells (Bxs.below HP.out b1)
    go_wp2_with fail
    refine (HRT.out y1 b1).mono ?_
    rintro e y2 ⟨rfl, b2⟩
    have b2 := chainB b1 b2
    go_wp2_with fail
    refine (HD.out y2 (HTb.out.to b2)).mono ?_
    rintro e y3 ⟨rfl, b3⟩
    have b3 := chainB b2 b3
    go_wp2_with fail
    refine (HJ.out y3).mono ?_
    rintro e y4 ⟨rfl, b4⟩
    have b4 := chainB b3 b4
    clear t0 t1 t2
    have HK : Hid (RawB y4 P k at_ (.slice q fs.length c) d l ByteArray.empty) := Bxs.below HP.out b4
    have t6 : y4.cell? ⟨P, 6, none⟩ = some (.string ByteArray.empty) := HK.out.cells.2.2.2.2.2
    have f6 : y4.frozen? ⟨P, 6, none⟩ = false := Bxs.fr HK.out 6
    have HE : Hid (RawB (y4.setCell ⟨P, 6, none⟩ (.string R)) P k at_ (.slice q fs.length c) d l R ∧ w.grownBy (y4.setCell ⟨P, 6, none⟩ (.string R)) (some P)) := ⟨HK.out.set6 R, grown_set (grown_below b4) _ _⟩
    clear HK HRT HD HJ b1 b2 b3 b4
    go_wp2_with fail
    go_end0
    exact ⟨rfl, HE.out⟩
/-- The fields lie in another block than the row at work. -/
theorem FldAt.turned {w w' : World} {q : Option Addr} {fs : List Fld} {P : Nat} {k : ByteArray} {at_ : Int} {v : Value} {d l : Int} {m : ByteArray} (hf : FldAt w q fs) (hp : RawB w P k at_ v d l m) (hg : w.grownBy w' (some P)) : FldAt w' q fs := by
  intro i hi
  obtain ⟨b, off, rfl, h1, h2, h3, h4, h5, h6⟩ := hf i hi
  have hne : b ≠ P := by
    rintro rfl
    rw [Bxs.cell hp] at h2 h3
    generalize off + i * 5 = o at *
    match o, h2, h3 with
    | 0, h2, h3 => simp at h3
    | 1, h2, h3 => simp at h2
    | 2, h2, h3 => simp at h3
    | 3, h2, h3 => simp at h2
    | 4, h2, h3 => simp at h2
    | 5, h2, h3 => simp at h2
    | 6, h2, h3 => simp at h3
    | o + 7, h2, h3 => simp at h2
  have hc : ∀ o, w'.cell? ⟨b, o, none⟩ = w.cell? ⟨b, o, none⟩ := fun o => hg.cell_far ⟨b, o, none⟩ h1 (by simpa using hne)
  exact ⟨b, off, rfl, Nat.lt_of_lt_of_le h1 hg.size, (hc _).trans h2, (hc _).trans h3, (hc _).trans h4, (hc _).trans h5, (hc _).trans h6⟩
theorem Tabs.turned {w w' : World} {P : Nat} {k : ByteArray} {at_ : Int} {v : Value} {d l : Int} {m : ByteArray} (h : Tabs w) (hp : RawB w P k at_ v d l m) (hg : w.grownBy w' (some P)) : Tabs w' := by
  have e0 : w.cell? ⟨P, 0, none⟩ = some (.string k) := Bxs.cell hp 0
  have n1 : 1 ≠ P := by rintro rfl; have := h.2.1 0 (by omega); rw [e0] at this; cases this
  have n2 : 0 ≠ P := by rintro rfl; have := h.2.2 0 (by omega); rw [e0] at this; cases this
  have l2 : 0 < w.heap.size := World.block_lt_of_cell? w ⟨0, 0, none⟩ (h.2.2 0 (by omega))
  exact ⟨Nat.lt_of_lt_of_le h.1 hg.size, fun i hi => (hg.cell_far ⟨_, i, none⟩ h.1 (by simpa using n1)).trans (h.2.1 i hi), fun i hi => (hg.cell_far ⟨_, i, none⟩ l2 (by simpa using n2)).trans (h.2.2 i hi)⟩

set_option maxRecDepth 100000 in
set_option maxHeartbeats 1600000 in
/-- '(*sync.Once).doSlow', not yet done and the lock free: the leaf is reckoned; then the two deferred calls. -/
theorem slow_any (P : Nat) (k : ByteArray) (at_ : Int) (q : Option Addr) (c : Nat) (fs : List Fld) (w : World) (hT : Tabs w) (hp : RawB w P k at_ (.slice q fs.length c) 0 0 ByteArray.empty) (hf : FldAt w q fs) (hn : fs.length ≤ 1048576) (hc : fs.length ≤ c) (hk : k.size ≤ maxLen) (hz : FldsLe fs) :
    Calls Tryz.prog 206 #[.pointer (some ⟨P, 3, none⟩), .func (.func 180) #[.pointer (some ⟨P, 0, none⟩)] #[]] w fun e w' => e = .returned (.tuple #[]) ∧ RawB w' P k at_ (.slice q fs.length c) 1 0 (lfB k at_ fs) ∧ w.grownBy w' (some P) := by
  have HP1 : Hid (RawB (w.setCell ⟨P, 4, none⟩ (.int .i32 1)) P k at_ (.slice q fs.length c) 0 1 ByteArray.empty) := hp.set4 1
  have HG1 : Hid (w.grownBy (w.setCell ⟨P, 4, none⟩ (.int .i32 1)) (some P)) := grown_set (World.grownBy.refl _ _) _ _
  have HR := reckon_any P k at_ q c fs 0 1 (w.setCell ⟨P, 4, none⟩ (.int .i32 1)) (hT.turned hp HG1.out) HP1.out (hf.turned hp HG1.out) hn hc hk hz
  have h4 : w.cell? ⟨P, 4, none⟩ = some (.int .i32 0) := Bxs.cell hp 4
  have f4 : w.frozen? ⟨P, 4, none⟩ = false := Bxs.fr hp 4
  have hl := run_call_load (P := Tryz.prog) Tryz.func218 (by kernel_rfl) (by kernel_rfl) (by kernel_rfl) .u32 (by kernel_rfl) (w := w.setCell ⟨P, 4, none⟩ (.int .i32 1)) (a := ⟨P, 3, none⟩) (x := 0) (Bxs.cell HP1.out 3)
  have hnot : ∀ (x : Bool) (w : World), (Op.unary .not (.bool x)).run Tryz.prog w = .ok (.bool (!x)) w := fun _ _ => rfl
  clear hT hp hf hz hk
  generalize lfB k at_ fs = R at *
  generalize hW1 : w.setCell ⟨P, 4, none⟩ (.int .i32 1) = W1 at *
  have HW1 : Hid (w.setCell ⟨P, 4, none⟩ (.int .i32 1) = W1) := hW1
  clear hW1
  go_enter_defers Tryz.func206, Tryz.ntmps206
  go_wp2_with (go_at_call 219; refine (lock_free ⟨P, 4, none⟩ _ h4 f4).mono ?_; rintro e w' ⟨rfl, rfl⟩)
  rw [HW1.out]
  go_wp2_with (first | (go_at_call 205; go_in) | (go_at_call 180; refine HR.mono ?_; rintro e y ⟨rfl, hy1, hy2⟩))
  have HY : Hid (RawB y P k at_ (.slice q fs.length c) 0 1 R) := hy1
  have HYG : Hid (w.grownBy y (some P)) := grown_trans HG1.out hy2
  have y3 : y.cell? ⟨P, 3, none⟩ = some (.int .u32 0) := Bxs.cell hy1 3
  have yf3 : y.frozen? ⟨P, 3, none⟩ = false := Bxs.fr hy1 3
  have HY2 : Hid (RawB (y.drew.setCell ⟨P, 3, none⟩ (.int .u32 1)) P k at_ (.slice q fs.length c) 1 1 R) := HY.out.drew.set3 1
  have HYG2 : Hid (w.grownBy (y.drew.setCell ⟨P, 3, none⟩ (.int .u32 1)) (some P)) := grown_set (grown_drew HYG.out) _ _
  have HE : Hid (RawB ((y.drew.setCell ⟨P, 3, none⟩ (.int .u32 1)).setCell ⟨P, 4, none⟩ (.int .i32 0)) P k at_ (.slice q fs.length c) 1 0 R ∧ w.grownBy ((y.drew.setCell ⟨P, 3, none⟩ (.int .u32 1)).setCell ⟨P, 4, none⟩ (.int .i32 0)) (some P)) := ⟨HY2.out.set4 0, grown_set HYG2.out _ _⟩
  clear hy1 hy2
  go_wp2
  refine leaves_cons (f := 221) (args := #[.pointer (some ⟨P, 3, none⟩), .bool true]) (by simp) (by simp [go_sem]) ?_
  refine (store_deferred ⟨P, 3, none⟩ (.int .u32 0) .returning _ y3 yf3).mono ?_
  rintro e u' w'' ⟨rfl, rfl, rfl⟩
  refine leaves_cons (f := 220) (args := #[.pointer (some ⟨P, 4, none⟩)]) (by simp [settle]) (by simp [go_sem]) ?_
  refine (unlock_deferred ⟨P, 4, none⟩ _ _ (Bxs.cell HY2.out 4) (Bxs.fr HY2.out 4)).mono ?_
  rintro e u' w'' ⟨rfl, rfl, rfl⟩
  simp [Leaves, settle, results, Tryz.results206]
  exact HE.out
set_option maxRecDepth 100000 in
set_option maxHeartbeats 1600000 in
/-- '(*sync.Once).Do', not yet done, the lock free. -/
theorem do_any (P : Nat) (k : ByteArray) (at_ : Int) (q : Option Addr) (c : Nat) (fs : List Fld) (w : World) (hT : Tabs w) (hp : RawB w P k at_ (.slice q fs.length c) 0 0 ByteArray.empty) (hf : FldAt w q fs) (hn : fs.length ≤ 1048576) (hc : fs.length ≤ c) (hk : k.size ≤ maxLen) (hz : FldsLe fs) :
    Calls Tryz.prog 179 #[.pointer (some ⟨P, 3, none⟩), .func (.func 180) #[.pointer (some ⟨P, 0, none⟩)] #[]] w fun e w' => e = .returned (.tuple #[]) ∧ RawB w' P k at_ (.slice q fs.length c) 1 0 (lfB k at_ fs) ∧ w.grownBy w' (some P) := by
  have HS := slow_any P k at_ q c fs w hT hp hf hn hc hk hz
  have hl := run_call_load (P := Tryz.prog) Tryz.func218 (by kernel_rfl) (by kernel_rfl) (by kernel_rfl) .u32 (by kernel_rfl) (w := w) (a := ⟨P, 3, none⟩) (x := 0) (Bxs.cell hp 3)
  have hnot : ∀ (x : Bool) (w : World), (Op.unary .not (.bool x)).run Tryz.prog w = .ok (.bool (!x)) w := fun _ _ => rfl
  clear hT hp hf hz hk
  generalize lfB k at_ fs = R at *
  go_enter Tryz.func179, Tryz.ntmps179
  go_wp2_with (first | (go_at_call 206; refine HS.mono ?_; rintro e w' ⟨rfl, hy1, hy2⟩) | (go_at_call 205; go_in))
  go_end0
  exact ⟨rfl, hy1, hy2⟩
set_option maxHeartbeats 1600000 in
/-- The leaf of a row at work, asked for the first time. -/
theorem leaf_any (P : Nat) (k : ByteArray) (at_ : Int) (q : Option Addr) (c : Nat) (fs : List Fld) (w : World) (hT : Tabs w) (hp : RawB w P k at_ (.slice q fs.length c) 0 0 ByteArray.empty) (hf : FldAt w q fs) (hn : fs.length ≤ 1048576) (hc : fs.length ≤ c) (hk : k.size ≤ maxLen) (hz : FldsLe fs) :
    Calls Tryz.prog 129 #[.pointer (some ⟨P, 0, none⟩)] w fun e w' => e = .returned (.string (lfB k at_ fs)) ∧ RawB w' P k at_ (.slice q fs.length c) 1 0 (lfB k at_ fs) ∧ w.grownBy w' (some P) := by
  have HD := do_any P k at_ q c fs w hT hp hf hn hc hk hz
  have hmf : ∀ (fn : Fn) (first cap : Array Value) (w : World), (Instr.makeFunc fn first cap).run Tryz.prog w = .ok (.func fn first cap) w := fun _ _ _ _ => rfl
  obtain ⟨t0, t1, t2, t3, t4, t6⟩ := hp.cells
  clear hT hp hf hz hk
  generalize lfB k at_ fs = R at *
  go_enter Tryz.func129, Tryz.ntmps129
  go_wp2_with fail
  refine HD.mono ?_
  rintro e y ⟨rfl, hy1, hy2⟩
  have HE : Hid (RawB y P k at_ (.slice q fs.length c) 1 0 R ∧ w.grownBy y (some P)) := ⟨hy1, hy2⟩
  have z6 : y.cell? ⟨P, 6, none⟩ = some (.string R) := hy1.cells.2.2.2.2.2
  clear hy1 hy2 t0 t1 t2 t3 t4 t6
  go_wp2_with fail
  go_ret
  exact ⟨rfl, HE.out⟩
end Go.Proofs.YtepmoihgemhjcaaGreatDoor
/-
  What the program's RowLeaf and fieldCode answer.
  Conditions: the cells of Fields hold the fields; the two tables of the digest lie as laid.
-/
namespace Go.Proofs.YtepmoihgemhjcaaGreatDoor
open Go.RowKit Go.Lib
set_option linter.unusedVariables false
set_option maxRecDepth 20000

set_option maxHeartbeats 1000000 in
theorem implRowLeaf_any (k : ByteArray) (at_ : Int) (q : Option Addr) (c : Nat) (fs : List Fld) (w : World) (hT : Tabs w) (hf : FldAt w q fs) (hn : fs.length ≤ 1048576) (hc : fs.length ≤ c) (hk : k.size ≤ maxLen) (hz : FldsLe fs) :
    Calls Tryz.prog 62 #[.agg #[.string k, .int .i64 at_, .slice q fs.length c]] w fun e w' => e = .returned (.string (lfB k at_ fs)) ∧ Below w.heap.size w w' := by
  obtain ⟨W2, hW2⟩ : ∃ W2, W2 = (w.alloc (.cells #[.string k, .int .i64 at_, .slice q fs.length c] 29)).alloc (.cells #[.string k, .int .i64 at_, .slice q fs.length c, .int .u32 0, .int .i32 0, .int .u32 0, .string ⟨#[]⟩] 145) := ⟨_, rfl⟩
  have HW2 : Hid (W2 = (w.alloc (.cells #[.string k, .int .i64 at_, .slice q fs.length c] 29)).alloc (.cells #[.string k, .int .i64 at_, .slice q fs.length c, .int .u32 0, .int .i32 0, .int .u32 0, .string ⟨#[]⟩] 145)) := hW2
  have hs1 : (w.alloc (.cells #[.string k, .int .i64 at_, .slice q fs.length c] 29)).heap.size = w.heap.size + 1 := by simp
  have B2 : Hid (Below w.heap.size w W2) := by rw [hW2]; exact ((Below.refl _ _).alloc (Nat.le_refl _) _).alloc (by rw [hs1]; omega) _
  have KR : RawB W2 (w.heap.size + 1) k at_ (.slice q fs.length c) 0 0 ByteArray.empty := by rw [hW2, ← hs1]; exact Bxs.new _ _ _
  have hL := leaf_any (w.heap.size + 1) k at_ q c fs W2 (hT.to B2.out) KR (hf.below B2.out) hn hc hk hz
  clear hW2 hs1 KR hf hT hz hk
  generalize lfB k at_ fs = R at *
  go_enter Tryz.func62, Tryz.ntmps62
  go_wp2_with fail
  rw [← HW2.out]
  refine hL.mono ?_
  rintro e y ⟨rfl, -, hg⟩
  have HE : Hid (Below w.heap.size w y) := below_turned B2.out hg B2.out.size (by omega)
  clear hg
  go_wp2_with fail
  go_ret
  exact ⟨rfl, HE.out⟩
def fldE : Fld := ⟨ByteArray.empty, ByteArray.empty, ByteArray.empty, ByteArray.empty, false⟩
def fcC (k : ByteArray) (at_ : Int) (fs : List Fld) (i ig : Int) : Int := if rwB k at_ fs = true then (if 0 ≤ i ∧ i ≤ (fs.length : Int) - 1 then (if (fs.getD i.toNat fldE).g = true then ig else 0) else 6) else 1
set_option maxHeartbeats 1000000 in
theorem fieldCode_any (k : ByteArray) (at_ : Int) (q : Option Addr) (c : Nat) (fs : List Fld) (ix ig : Int) (w : World) (hT : Tabs w) (hf : FldAt w q fs) (hn : fs.length ≤ 1048576) (hc : fs.length ≤ c) (hk : k.size ≤ maxLen) (hz : FldsLe fs) :
    Calls Tryz.prog 130 #[.agg #[.string k, .int .i64 at_, .slice q fs.length c], .int .i64 ix, .int .i64 ig] w fun e w' => e = .returned (.int .i64 (fcC k at_ fs ix ig)) ∧ Below w.heap.size w w' := by
  obtain ⟨W1, hW1⟩ : ∃ W1, W1 = w.alloc (.cells #[.string k, .int .i64 at_, .slice q fs.length c] 29) := ⟨_, rfl⟩
  have HW1 : Hid (W1 = w.alloc (.cells #[.string k, .int .i64 at_, .slice q fs.length c] 29)) := hW1
  have B1 : Hid (Below w.heap.size w W1) := by rw [hW1]; exact (Below.refl _ _).alloc (Nat.le_refl _) _
  have K1 : Hid (Bxs W1 w.heap.size 29 #[.string k, .int .i64 at_, .slice q fs.length c]) := by rw [hW1]; exact Bxs.new _ _ _
  have HT : Hid (FldAt W1 q fs) := hf.below B1.out
  have hR := implRowRight_any k at_ q c fs W1 (hT.to B1.out) HT.out hn hc hk hz
  have HX : Hid (∀ x, Below W1.heap.size W1 x → x.cell? ⟨w.heap.size, 0, none⟩ = some (.string k) ∧ x.cell? ⟨w.heap.size, 1, none⟩ = some (.int .i64 at_) ∧ x.cell? ⟨w.heap.size, 2, none⟩ = some (.slice q fs.length c)) := fun x hb => ⟨(K1.out.below hb).cell 0, (K1.out.below hb).cell 1, (K1.out.below hb).cell 2⟩
  obtain ⟨t0, t1, t2⟩ := HX.out W1 (Below.refl _ _)
  rw [HW1.out] at t0 t1 t2
  clear hW1 hf hT hz
  cases hr : rwB k at_ fs with
  | false =>
    have HV : Hid (fcC k at_ fs ix ig = 1) := if_neg (by rw [hr]; exact Bool.false_ne_true)
    rw [hr] at hR
    rw [HV.out]
    clear hr
    go_enter Tryz.func130, Tryz.ntmps130
    go_wp2_with fail
    rw [← HW1.out]
    refine hR.mono ?_
    rintro e y ⟨rfl, b1⟩
    have b2 := chainB B1.out b1
    go_wp2_with fail
    go_ret
    exact ⟨rfl, b2⟩
  | true =>
  rw [hr] at hR
  by_cases h0 : ix < 0
  · have HV : Hid (fcC k at_ fs ix ig = 6) := by show _ = _; unfold fcC; rw [if_pos hr, if_neg (by omega)]
    have d0 : decide (ix < 0) = true := decide_eq_true h0
    rw [HV.out]
    clear hr h0
    go_enter Tryz.func130, Tryz.ntmps130
    go_wp2_with fail
    rw [← HW1.out]
    refine hR.mono ?_
    rintro e y ⟨rfl, b1⟩
    have b2 := chainB B1.out b1
    go_wp2_with fail
    go_ret
    exact ⟨rfl, b2⟩
  have d0 : decide (ix < 0) = false := decide_eq_false h0
  obtain ⟨I, rfl⟩ := Int.eq_ofNat_of_zero_le (show 0 ≤ ix by omega)
  by_cases h1 : fs.length ≤ I
  · have HV : Hid (fcC k at_ fs I ig = 6) := by show _ = _; unfold fcC; rw [if_pos hr, if_neg (by omega)]
    have d1 : decide ((fs.length : Int) ≤ (I : Int)) = true := decide_eq_true (by omega)
    have d2 : decide (fs.length ≤ I) = true := decide_eq_true h1
    rw [HV.out]
    clear hr h0 h1
    go_enter Tryz.func130, Tryz.ntmps130
    go_wp2_with fail
    rw [← HW1.out]
    refine hR.mono ?_
    rintro e y ⟨rfl, b1⟩
    have b2 := chainB B1.out b1
    clear t0 t1 t2
    obtain ⟨t0, t1, t2⟩ := HX.out y b1
    go_wp2_with fail
    go_ret
    exact ⟨rfl, b2⟩
  have d1 : decide ((fs.length : Int) ≤ (I : Int)) = false := decide_eq_false (by omega)
  have d2 : decide (fs.length ≤ I) = false := decide_eq_false h1
  have hIl : I < fs.length := by omega
  have i1 : (I : Int) < fs.length := by omega
  obtain ⟨b, off, rfl, hb0⟩ := HT.out.some_of (by omega)
  have HV : Hid (fcC k at_ fs I ig = if fs[I].g = true then ig else 0) := by show _ = _; unfold fcC; rw [if_pos hr, if_pos (by omega), Int.toNat_natCast, List.getD_eq_getElem?_getD, List.getElem?_eq_getElem hIl]; rfl
  have HC : Hid (∀ x, Below W1.heap.size W1 x → x.cell? ⟨b, off + I * 5 + 4, none⟩ = some (.bool fs[I].g)) := fun x hx => ((HT.out.below hx).at I hIl).2.2.2.2
  rw [HV.out]
  clear HV hr h0 h1
  cases hg : fs[I].g with
  | true =>
    rw [hg] at HC
    rw [if_pos rfl]
    clear hg
    go_enter Tryz.func130, Tryz.ntmps130
    go_wp2_with fail
    rw [← HW1.out]
    refine hR.mono ?_
    rintro e y ⟨rfl, b1⟩
    have b2 := chainB B1.out b1
    clear t0 t1 t2
    obtain ⟨t0, t1, t2⟩ := HX.out y b1
    have c4 := HC.out y b1
    go_wp2_with fail
    go_ret
    exact ⟨rfl, b2⟩
  | false =>
    rw [hg] at HC
    rw [if_neg (by exact Bool.false_ne_true)]
    clear hg
    go_enter Tryz.func130, Tryz.ntmps130
    go_wp2_with fail
    rw [← HW1.out]
    refine hR.mono ?_
    rintro e y ⟨rfl, b1⟩
    have b2 := chainB B1.out b1
    clear t0 t1 t2
    obtain ⟨t0, t1, t2⟩ := HX.out y b1
    have c4 := HC.out y b1
    go_wp2_with fail
    go_ret
    exact ⟨rfl, b2⟩
theorem fcC_zero {k : ByteArray} {at_ : Int} {fs : List Fld} {i ig : Int} (hig : ig ≠ 0) (h : fcC k at_ fs i ig = 0) : rwB k at_ fs = true ∧ (0 ≤ i ∧ i ≤ (fs.length : Int) - 1) ∧ (fs.getD i.toNat fldE).g = false := by
  unfold fcC at h
  by_cases h1 : rwB k at_ fs = true
  · rw [if_pos h1] at h
    by_cases h2 : 0 ≤ i ∧ i ≤ (fs.length : Int) - 1
    · rw [if_pos h2] at h
      cases hg : (fs.getD i.toNat fldE).g with
      | true => rw [hg, if_pos rfl] at h; exact absurd h hig
      | false => exact ⟨h1, h2, rfl⟩
    · rw [if_neg h2] at h; cases h
  · rw [if_neg h1] at h; cases h
end Go.Proofs.YtepmoihgemhjcaaGreatDoor
/-
  errors.As at the target *wrongBytes, by its contracts: a nil error: false, nothing turns; an error that is a wrongBytes: true, and the target holds it; nothing else that was there turns. After the guide's worked example of errors.As.
  Conditions: the variable errors.errorType holds the handle of the type error; the target's cell is there and may be written.
-/
namespace Go.Proofs.YtepmoihgemhjcaaGreatDoor
open Go.RowKit Go.Extern.Stop Go.Stop Go.Extern

theorem as_nil (t : Value) (w : World) :
    Calls Tryz.prog 242 #[.nilIface, t] w fun e w' => e = .returned (.bool false) ∧ w' = w := by
  go_enter Tryz.func242, Tryz.ntmps242
  go_wp2
  go_ret
  exact ⟨rfl, rfl⟩

theorem valueOfP (t : Addr) (w : World) : (ReflectliteValue.unpack (.iface 243 (.pointer (some t)))).run Tryz.prog w
    = .ok (.agg #[.pointer (some ⟨3, 243, none⟩), .pointer (some ⟨w.heap.size, 0, none⟩), .int .u64 150]) (w.alloc (.cells #[.pointer (some t)] 243)) := by kernel_rfl
theorem typeP (a : Addr) (w : World) : (ReflectliteValue.methodAny (ReflectliteValue.valueError "reflectlite.Value.Type" 0) (fun t _ _ _ => ReflectliteType.toType t) #[.agg #[.pointer (some ⟨3, 243, none⟩), .pointer (some a), .int .u64 150]]).run Tryz.prog w
    = .ok (.iface 259 (.agg #[.pointer (some ⟨3, 243, none⟩)])) w := by kernel_rfl
theorem kindP (w : World) : ((ReflectliteType.abiMethod fun t => (fun a : Nat => Value.int IntKind.u8 (a : Int)) <$> Rtype.kind t) #[.pointer (some ⟨3, 243, none⟩)]).run Tryz.prog w = .ok (.int .u8 22) w := by kernel_rfl
theorem kindE (w : World) : ((ReflectliteType.abiMethod fun t => (fun a : Nat => Value.int IntKind.u8 (a : Int)) <$> Rtype.kind t) #[.pointer (some ⟨3, 239, none⟩)]).run Tryz.prog w = .ok (.int .u8 25) w := by kernel_rfl
theorem partsP (a : Addr) (w : World) : (ReflectliteValue.parts (.agg #[.pointer (some ⟨3, 243, none⟩), .pointer (some a), .int .u64 150])).run Tryz.prog w = .ok (some (243, a, 150)) w := by kernel_rfl
theorem isNilP (a p : Addr) (W : World) (ha : W.cell? a = some (.pointer (some p))) :
    (ReflectliteValue.method (ReflectliteValue.valueError "reflectlite.Value.IsNil" 0) ReflectliteValue.isNil #[.agg #[.pointer (some ⟨3, 243, none⟩), .pointer (some a), .int .u64 150]]).run Tryz.prog W = .ok (.bool false) W := by
  show (Sem.run Tryz.prog (ReflectliteValue.parts (.agg #[.pointer (some ⟨3, 243, none⟩), .pointer (some a), .int .u64 150]) >>= _) W) = _
  simp only [Sem.run_bind, partsP, Result.andThen]
  simp [ReflectliteValue.isNil, loadVar, isAgg, underlying, Tryz.underlying243, ha, Result.andThen]
theorem elemTP (w : World) : (ReflectliteType.method ReflectliteType.elem #[.agg #[.pointer (some ⟨3, 243, none⟩)]]).run Tryz.prog w = .ok (.iface 259 (.agg #[.pointer (some ⟨3, 239, none⟩)])) w := by kernel_rfl
theorem implementsE (w : World) : (ReflectliteType.relation "Implements" ReflectliteType.implements_ #[.agg #[.pointer (some ⟨3, 239, none⟩)], .iface 259 (.agg #[.pointer (some ⟨3, 227, none⟩)])]).run Tryz.prog w = .ok (.bool true) w := by kernel_rfl
theorem typeOfE (v : Value) (w : World) : (ReflectliteType.typeOf #[.iface 239 v]).run Tryz.prog w = .ok (.iface 259 (.agg #[.pointer (some ⟨3, 239, none⟩)])) w := by kernel_rfl
theorem assignableE (w : World) : (ReflectliteType.relation "AssignableTo" ReflectliteType.assignableTo #[.agg #[.pointer (some ⟨3, 239, none⟩)], .iface 259 (.agg #[.pointer (some ⟨3, 239, none⟩)])]).run Tryz.prog w = .ok (.bool true) w := by kernel_rfl
theorem valueOfE (c : Int) (w : World) : (ReflectliteValue.unpack (.iface 239 (.agg #[.int .i64 c]))).run Tryz.prog w
    = .ok (.agg #[.pointer (some ⟨3, 239, none⟩), .pointer (some ⟨w.heap.size, 0, none⟩), .int .u64 153]) (w.alloc (.cells #[.int .i64 c] 239)) := by kernel_rfl
theorem elemOfP (w : World) : (Rtype.elem? 243).run Tryz.prog w = .ok (some 239) w := by kernel_rfl
theorem mkE (p : Addr) (w : World) : (ReflectliteValue.mk 239 p ReflectliteValue.flagAddr).run Tryz.prog w = .ok (.agg #[.pointer (some ⟨3, 239, none⟩), .pointer (some p), .int .u64 409]) w := by kernel_rfl
theorem elemVP (a p : Addr) (W : World) (ha : W.cell? a = some (.pointer (some p))) :
    (ReflectliteValue.method (ReflectliteValue.valueError "reflectlite.Value.Elem" 0) ReflectliteValue.elem #[.agg #[.pointer (some ⟨3, 243, none⟩), .pointer (some a), .int .u64 150]]).run Tryz.prog W
      = .ok (.agg #[.pointer (some ⟨3, 239, none⟩), .pointer (some p), .int .u64 409]) W := by
  show (Sem.run Tryz.prog (ReflectliteValue.parts (.agg #[.pointer (some ⟨3, 243, none⟩), .pointer (some a), .int .u64 150]) >>= _) W) = _
  simp only [Sem.run_bind, partsP, Result.andThen]
  simp [ReflectliteValue.elem, loadVar, isAgg, underlying, Tryz.underlying243, ha, Result.andThen, elemOfP, mkE]

theorem partsEa (a : Addr) (w : World) : (ReflectliteValue.parts (.agg #[.pointer (some ⟨3, 239, none⟩), .pointer (some a), .int .u64 409])).run Tryz.prog w = .ok (some (239, a, 409)) w := by kernel_rfl
theorem partsE (a : Addr) (w : World) : (ReflectliteValue.parts (.agg #[.pointer (some ⟨3, 239, none⟩), .pointer (some a), .int .u64 153])).run Tryz.prog w = .ok (some (239, a, 153)) w := by kernel_rfl
theorem directE (w : World) : (Rtype.directlyAssignable 239 239).run Tryz.prog w = .ok true w := by kernel_rfl
theorem sizeE (w : World) : (sizeOf 239).run Tryz.prog w = .ok 1 w := by kernel_rfl
theorem isAggE (w : World) : (isAgg 239).run Tryz.prog w = .ok true w := by kernel_rfl
theorem setE (b1 b2 : Nat) (c : Int) (old : Value) (W : World) (hb : W.cell? ⟨b2, 0, none⟩ = some (.int .i64 c)) (ht : W.cell? ⟨b1, 0, none⟩ = some old) (hf : W.frozen? ⟨b1, 0, none⟩ = false) :
    (ReflectliteValue.set #[.agg #[.pointer (some ⟨3, 239, none⟩), .pointer (some ⟨b1, 0, none⟩), .int .u64 409], .agg #[.pointer (some ⟨3, 239, none⟩), .pointer (some ⟨b2, 0, none⟩), .int .u64 153]]).run Tryz.prog W
      = .ok (.tuple #[]) (W.setCell ⟨b1, 0, none⟩ (.int .i64 c)) := by
  show (Sem.run Tryz.prog (ReflectliteValue.parts (.agg #[.pointer (some ⟨3, 239, none⟩), .pointer (some ⟨b1, 0, none⟩), .int .u64 409]) >>= fun x => ReflectliteValue.parts (.agg #[.pointer (some ⟨3, 239, none⟩), .pointer (some ⟨b2, 0, none⟩), .int .u64 153]) >>= _) W) = _
  simp only [Sem.run_bind, partsEa, partsE, Result.andThen]
  simp [ReflectliteValue.flagAddr, loadVar, Result.andThen, directE, storeVar, Value.cells, storeCells, Addr.add]
  have hl : (loadCells ⟨b2, 0, none⟩ 1).run Tryz.prog W = .ok #[.int .i64 c] W := by
    have := run_loadCells (P := Tryz.prog) W ⟨b2, 0, none⟩ 1 (fun _ => .int .i64 c) (fun j hj => by
      obtain rfl : j = 0 := by omega
      simpa [Addr.add] using hb)
    simpa using this
  rw [hl]
  simp [storeCells, Addr.add]
  rw [run_store Tryz.prog W ⟨b1, 0, none⟩ _ _ (by rfl)]
  simp [ht, hf]
end Go.Proofs.YtepmoihgemhjcaaGreatDoor
/-
  errors.As at the target *wrongBytes, and what codeOf answers. After the guide's worked example of errors.As.
  Conditions: the variable errors.errorType holds the handle of the type error; the target's cell is there and may be written.
-/
namespace Go.Proofs.YtepmoihgemhjcaaGreatDoor
open Go.RowKit Go.Extern.Stop Go.Stop Go.Extern

def etv : Value := .iface 259 (.agg #[.pointer (some ⟨3, 227, none⟩)])

set_option maxHeartbeats 4000000 in
theorem as_hit (c : Int) (tb : Nat) (old : Value) (w : World) (hg : w.cell? ⟨2, 0, none⟩ = some (.iface 259 (.agg #[.pointer (some ⟨3, 227, none⟩)]))) (ht0 : w.cell? ⟨tb, 0, none⟩ = some old) (hf0 : w.frozen? ⟨tb, 0, none⟩ = false) :
    Calls Tryz.prog 242 #[.iface 239 (.agg #[.int .i64 c]), .iface 243 (.pointer (some ⟨tb, 0, none⟩))] w fun ev w' => ev = .returned (.bool true) ∧ w' = ((((w.alloc (.cells #[.pointer (some ⟨tb, 0, none⟩)] 243)).alloc (.cells #[.pointer (some ⟨3, 243, none⟩), .pointer (some ⟨w.heap.size, 0, none⟩), .int .u64 150] 249)).alloc (.cells #[.pointer (some ⟨3, 243, none⟩), .pointer (some ⟨w.heap.size, 0, none⟩), .int .u64 150] 249)).alloc (.cells #[.int .i64 c] 239)).setCell ⟨tb, 0, none⟩ (.int .i64 c) := by
  have h6 := @run_callFunc_extern Tryz.prog 250 _ (fun args => ReflectliteValue.unpack (args.getD 0 (.tuple #[]))) Tryz.func250 (by kernel_rfl) (by kernel_rfl) (by kernel_rfl) (by kernel_rfl)
  have h7 := @run_callFunc_extern Tryz.prog 251 _ (ReflectliteValue.methodAny (ReflectliteValue.valueError "reflectlite.Value.Type" 0) (fun t _ _ _ => ReflectliteType.toType t)) Tryz.func251 (by kernel_rfl) (by kernel_rfl) (by kernel_rfl) (by kernel_rfl)
  have h8 := @run_callFunc_extern Tryz.prog 252 _ (ReflectliteValue.method (ReflectliteValue.valueError "reflectlite.Value.IsNil" 0) ReflectliteValue.isNil) Tryz.func252 (by kernel_rfl) (by kernel_rfl) (by kernel_rfl) (by kernel_rfl)
  have h27 := @run_callFunc_extern Tryz.prog 271 _ (ReflectliteType.abiMethod fun t => do pure (.int .u8 (← Rtype.kind t))) Tryz.func271 (by kernel_rfl) (by kernel_rfl) (by kernel_rfl) (by kernel_rfl)
  have h37 := @run_callFunc_extern Tryz.prog 281 _ (ReflectliteType.method ReflectliteType.elem) Tryz.func281 (by kernel_rfl) (by kernel_rfl) (by kernel_rfl) (by kernel_rfl)
  have h38 := @run_callFunc_extern Tryz.prog 282 _ (ReflectliteType.relation "Implements" ReflectliteType.implements_) Tryz.func282 (by kernel_rfl) (by kernel_rfl) (by kernel_rfl) (by kernel_rfl)
  have h10 := @run_callFunc_extern Tryz.prog 254 _ ReflectliteType.typeOf Tryz.func254 (by kernel_rfl) (by kernel_rfl) (by kernel_rfl) (by kernel_rfl)
  have h35 := @run_callFunc_extern Tryz.prog 279 _ (ReflectliteType.relation "AssignableTo" ReflectliteType.assignableTo) Tryz.func279 (by kernel_rfl) (by kernel_rfl) (by kernel_rfl) (by kernel_rfl)
  have h11 := @run_callFunc_extern Tryz.prog 255 _ (ReflectliteValue.method (ReflectliteValue.valueError "reflectlite.Value.Elem" 0) ReflectliteValue.elem) Tryz.func255 (by kernel_rfl) (by kernel_rfl) (by kernel_rfl) (by kernel_rfl)
  have h12 := @run_callFunc_extern Tryz.prog 256 _ ReflectliteValue.set Tryz.func256 (by kernel_rfl) (by kernel_rfl) (by kernel_rfl) (by kernel_rfl)
  have tO := typeOfE
  have aE := assignableE
  have vE := valueOfE
  have f6 := valueOfP
  have f7 := typeP
  have kP := kindP
  have kE := kindE
  have eP := elemTP
  have iE := implementsE
  have n8 := isNilP ⟨w.heap.size, 0, none⟩ ⟨tb, 0, none⟩ ((w.alloc (.cells #[.pointer (some ⟨tb, 0, none⟩)] 243)).alloc (.cells #[.pointer (some ⟨3, 243, none⟩), .pointer (some ⟨w.heap.size, 0, none⟩), .int .u64 150] 249)) (by simp)
  have hlt : 2 < w.heap.size := World.block_lt_of_cell? w _ hg
  have hg2 : ((w.alloc (.cells #[.pointer (some ⟨tb, 0, none⟩)] 243)).alloc (.cells #[.pointer (some ⟨3, 243, none⟩), .pointer (some ⟨w.heap.size, 0, none⟩), .int .u64 150] 249)).cell? ⟨2, 0, none⟩ = some (.iface 259 (.agg #[.pointer (some ⟨3, 227, none⟩)])) := by
    rw [World.cell?_alloc_lt _ _ ⟨2, 0, none⟩ (by simp <;> omega), World.cell?_alloc_lt _ _ ⟨2, 0, none⟩ hlt]; exact hg
  have htl : tb < w.heap.size := by
    rcases Nat.lt_or_ge tb w.heap.size with h | h
    · exact h
    · simp [World.cell?, Array.getElem?_eq_none h] at ht0
  have el := elemVP ⟨w.heap.size, 0, none⟩ ⟨tb, 0, none⟩ (((w.alloc (.cells #[.pointer (some ⟨tb, 0, none⟩)] 243)).alloc (.cells #[.pointer (some ⟨3, 243, none⟩), .pointer (some ⟨w.heap.size, 0, none⟩), .int .u64 150] 249)).alloc (.cells #[.pointer (some ⟨3, 243, none⟩), .pointer (some ⟨w.heap.size, 0, none⟩), .int .u64 150] 249)) (by rw [World.cell?_alloc_lt _ _ ⟨w.heap.size, 0, none⟩ (by simp; omega)]; simp)
  have st := setE tb (w.heap.size + 1 + 1 + 1) c old ((((w.alloc (.cells #[.pointer (some ⟨tb, 0, none⟩)] 243)).alloc (.cells #[.pointer (some ⟨3, 243, none⟩), .pointer (some ⟨w.heap.size, 0, none⟩), .int .u64 150] 249)).alloc (.cells #[.pointer (some ⟨3, 243, none⟩), .pointer (some ⟨w.heap.size, 0, none⟩), .int .u64 150] 249)).alloc (.cells #[.int .i64 c] 239))
    (by rw [World.cell?_alloc_at _ _ _ _ (by simp)]; rfl)
    (by rw [World.cell?_alloc_lt _ _ ⟨tb, 0, none⟩ (by simp; omega), World.cell?_alloc_lt _ _ ⟨tb, 0, none⟩ (by simp; omega), World.cell?_alloc_lt _ _ ⟨tb, 0, none⟩ (by simp; omega), World.cell?_alloc_lt _ _ ⟨tb, 0, none⟩ htl]; exact ht0)
    (by rw [World.frozen?_alloc_old _ _ ⟨tb, 0, none⟩ (by simp; omega), World.frozen?_alloc_old _ _ ⟨tb, 0, none⟩ (by simp; omega), World.frozen?_alloc_old _ _ ⟨tb, 0, none⟩ (by simp; omega), World.frozen?_alloc_old _ _ ⟨tb, 0, none⟩ (Nat.ne_of_lt htl)]; exact hf0)
  go_enter Tryz.func242, Tryz.ntmps242
  go_wp2
  refine wp_loop_rounds 1 ?_
  rw [rounds_succ]
  go_wp2
  go_ret
  exact ⟨rfl, rfl⟩
end Go.Proofs.YtepmoihgemhjcaaGreatDoor
/-
  What codeOf answers: 0 of a nil error, the code of a wrongBytes. Nothing that was there turns.
  Conditions: the variable errors.errorType holds the handle of the type error.
-/
namespace Go.Proofs.YtepmoihgemhjcaaGreatDoor
open Go.RowKit Go.Extern.Stop Go.Stop Go.Extern

/-- The variable errors.errorType as the program's text lays it. -/
def Laid (w : World) : Prop := w.cell? ⟨2, 0, none⟩ = some (.iface 259 (.agg #[.pointer (some ⟨3, 227, none⟩)]))
theorem Laid.pos {w : World} (h : Laid w) : 2 < w.heap.size := World.block_lt_of_cell? w _ h
theorem Laid.below {w w' : World} (h : Laid w) (hb : Below w.heap.size w w') : Laid w' := by
  unfold Laid; rw [hb.cell (p := ⟨2, 0, none⟩) h.pos]; exact h

def errV (c : Int) : Value := .iface 239 (.agg #[.int .i64 c])

set_option maxHeartbeats 1000000 in
theorem codeOf_nil (w : World) :
    Calls Tryz.prog 232 #[.nilIface] w fun e w' => e = .returned (.int .i64 0) ∧ Below w.heap.size w w' := by
  go_enter Tryz.func232, Tryz.ntmps232
  go_wp2_with (go_at_call 242; refine (as_nil _ _).mono ?_; rintro e w' ⟨rfl, hw⟩; subst hw)
  go_ret
  exact ⟨rfl, (Below.refl _ _).alloc (Nat.le_refl _) _⟩

set_option maxHeartbeats 1000000 in
theorem codeOf_hit (c : Int) (w : World) (hg : Laid w) :
    Calls Tryz.prog 232 #[.iface 239 (.agg #[.int .i64 c])] w fun e w' => e = .returned (.int .i64 c) ∧ Below w.heap.size w w' := by
  have hlt := hg.pos
  have hgA : (w.alloc (.cells #[.int .i64 0] 239)).cell? ⟨2, 0, none⟩ = some (.iface 259 (.agg #[.pointer (some ⟨3, 227, none⟩)])) := by
    rw [World.cell?_alloc_lt _ _ ⟨2, 0, none⟩ hlt]; exact hg
  have htA : (w.alloc (.cells #[.int .i64 0] 239)).cell? ⟨w.heap.size, 0, none⟩ = some (.int .i64 0) := by simp
  have hfA : (w.alloc (.cells #[.int .i64 0] 239)).frozen? ⟨w.heap.size, 0, none⟩ = false := by simp
  have HA : Hid (Laid w) := hg
  clear hg
  go_enter Tryz.func232, Tryz.ntmps232
  go_wp2_with (go_at_call 242; refine (as_hit _ _ (.int .i64 0) _ hgA htA hfA).mono ?_; rintro e w' ⟨rfl, hw⟩; subst hw)
  go_ret
  exact ⟨rfl, by go_grown⟩
end Go.Proofs.YtepmoihgemhjcaaGreatDoor
