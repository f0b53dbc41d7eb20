/-
  What the program's read, flush and flushed do on a disk at work: of each place the last that is pending there, whatever the order in which the map is gone through.
  Conditions: the disk is right: at most 64 sectors, nothing greater than 64 bytes, each place one of the disk's.
-/
import Derived.Test.YtcbclmhkejknoaaRows
import Derived.Test.YtcbclmhkejknoaaBytes
import Derived.Test.YtcbclmhkejknoaaJoined
import Derived.Test.YtcbclmhkejknoaaSlA
import Derived.Test.YtcbclmhkejknoaaSlB
import Derived.Test.YtcbclmhkejknoaaOwnS
import Derived.Test.YtcbclmhkejknoaaOwnB
import Derived.Test.YtcbclmhkejknoaaCopied
import Derived.Test.YtcbclmhkejknoaaDskMath
import Derived.Test.YtcbclmhkejknoaaDskT
import Derived.Test.YtcbclmhkejknoaaDskF
import Derived.Test.YtcbclmhkejknoaaDskK
import Derived.Test.YtcbclmhkejknoaaLawD
import Derived.Test.YtcbclmhkejknoaaDskMap
import Derived.Test.YtcbclmhkejknoaaImplDO
import Derived.Handy
import Derived.WalkSpells
import Derived.OwnWalk
import Derived.Laws.OwnMore
import Derived.Maps.RangeWalk
import Derived.Deep.RegionWith
namespace Go.Proofs.Ytcbclmhkejknoaa
open Go.RowKit Go.Lib Go.Maps
set_option linter.unusedVariables false
set_option maxRecDepth 20000

theorem grown_below {w w' : World} (h : Below w.heap.size w w') : w.grownBy w' none := ⟨h.os, h.tape, h.output, h.size, fun k hk _ => h.block k hk⟩
/-- The step of a range over such a map, whose places are all below N. -/
theorem wpList_next_pnd {P : Program} (w : World) {ops : Array Oper} {rest : List Oper} {o : Oper} {a : Act} {Q : Exit → Act → World → Prop} (hg : o.guard = none) (it : Operand) (hop : o.op = Op.next it false) (k : TypeId) (K : Keyed P k) (hk : P.underlying k = some (.int .i64))
    (b r n : Nat) (D : DataW Pnd) (left : Lit → Bool) (cnt : Nat) (hit : a.eval it = .pointer (some ⟨r, 0, none⟩)) (h : w.ranges P k pndElem b r n D left cnt) (N : Nat) (hin : ∀ x, left (.int .i64 x) = true → ∃ A : Nat, A < N ∧ x = (A : Int))
    (hDone : (∀ kl, left kl = false) → wpList P ops Q rest (a.put o.dst (.tuple #[.bool false])) w)
    (hMore : ∀ (A : Nat) (x : Int) (Dt : ByteArray) (w' : World) (cnt' : Nat), A < N → left (.int .i64 (A : Int)) = true → (∀ zd, D.atKey (.int .i64 (A : Int)) zd = .held (x, Dt)) → w'.ranges P k pndElem b r n D (fun z => left z && !z.sameKey (.int .i64 (A : Int))) cnt' → cnt' < cnt →
      w.grownBy w' (some r) → w'.heap.size = w.heap.size → (Instr.entry (.pointer (some ⟨r, 0, none⟩))).run P w' = .ok (.tuple #[.int .i64 (A : Int), .agg #[.int .i64 x, .string Dt]]) w' → wpList P ops Q rest (a.put o.dst (.tuple #[.bool true, .int .i64 (A : Int), .agg #[.int .i64 x, .string Dt]])) w') :
    wpList P ops Q (o :: rest) a w :=
  wpList_next_ranges w hg it hop k K pndElem (Value.int .i64) (fun p : Pnd => .agg #[.int .i64 p.1, .string p.2]) (fun key kl hkey => by obtain ⟨x, rfl, _⟩ := keyOf_int_inv hk hkey; exact ⟨x, rfl⟩) (fun v y hv => by obtain ⟨c, rfl, _⟩ := pndElem_inv hv; exact ⟨c, rfl⟩)
    b r n D left cnt hit h (fun _ h0 => hDone h0) (fun x c kl y w' cnt' hkey hlk hv hat hrg hlt hgr hsz hen => by
      obtain ⟨x', ex, rfl, hwx⟩ := keyOf_int_inv hk hkey
      cases ex
      obtain ⟨c', ec, rfl⟩ := pndElem_inv hv
      simp only [Value.agg.injEq, Array.mk.injEq, List.cons.injEq, Value.int.injEq, Value.string.injEq, true_and, and_true] at ec
      obtain ⟨A, hA, rfl⟩ := hin x hlk
      obtain ⟨c1, c2⟩ := c
      obtain ⟨d1, d2⟩ := c'
      obtain ⟨e1, e2⟩ := ec
      have e1 : c1 = d1 := e1
      have e2 : c2 = d2 := e2
      subst e1 e2
      exact hMore A c1 c2 w' cnt' hA hlk hat hrg hlt hgr hsz hen)
end Go.Proofs.Ytcbclmhkejknoaa
