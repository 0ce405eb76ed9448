/-
  Small words: tests as Bools, sums of effects on one block, ends of a walk.
-/
import Derived.Test.YtdijakobocnceaaMem
namespace Go.Proofs.Ytdijakobocnceaa
set_option maxRecDepth 100000
open Go.RowKit
theorem dlt_f {a b : Int} (h : b ≤ a) : decide (a < b) = false := by simp; omega
theorem dle_f {a b : Int} (h : b < a) : decide (a ≤ b) = false := by simp; omega
theorem dlt_t {a b : Int} (h : a < b) : decide (a < b) = true := by simp; omega
theorem dle_t {a b : Int} (h : a ≤ b) : decide (a ≤ b) = true := by simp; omega
theorem deq_f {a b : Int} (h : a ≠ b) : (a == b) = false := by simpa using h
theorem deq_t {a b : Int} (h : a = b) : (a == b) = true := by simpa using h
theorem dne_t {a b : Int} (h : a ≠ b) : (a != b) = true := by simpa using h
theorem dne_f {a b : Int} (h : a = b) : (a != b) = false := by simpa using h
theorem dltn_f {a b : Nat} (h : b ≤ a) : decide (a < b) = false := by simp; omega
theorem dltn_t {a b : Nat} (h : a < b) : decide (a < b) = true := by simp; omega
theorem dlen_f {a b : Nat} (h : b < a) : decide (a ≤ b) = false := by simp; omega
theorem Bk.new' {w : World} {g : Nat} {t : TypeId} {cs : Array Value} (h : g = w.heap.size) : Bk (w.alloc (.cells cs t)) g t cs := by subst h; exact Bk.new w t cs
/-- One block more was written. -/
theorem only_set' {w w1 : World} {g : Nat} (h : w.grownBy w1 (some g)) (i : Nat) (u : Value) : w.grownBy (w1.setCell ⟨g, i, none⟩ u) (some g) := only_trans h (only_set w1 g i u)
theorem only_drew {w w1 : World} {r : Option Nat} (h : w.grownBy w1 r) : w.grownBy w1.drew r := ⟨h.os, h.tape, h.output, h.size, h.block⟩
theorem only_alloc {w w1 : World} {r : Option Nat} (h : w.grownBy w1 r) (o : Obj) : w.grownBy (w1.alloc o) r := only_trans h (only_below ((Below.refl _ _).alloc (Nat.le_refl _) o) r)
theorem only_then {w w1 w2 : World} {r : Option Nat} (h : w.grownBy w1 r) (b : Below w1.heap.size w1 w2) : w.grownBy w2 r := only_trans h (only_below b r)
theorem only_refl (w : World) (r : Option Nat) : w.grownBy w r := only_below (Below.refl _ _) r
/-- A block of the call's own was written besides. -/
theorem only_new {w w1 w2 : World} {g h : Nat} (o : w.grownBy w1 (some g)) (k : w1.grownBy w2 (some h)) (hh : w.heap.size ≤ h) : w.grownBy w2 (some g) :=
  ⟨k.os.trans o.os, k.tape.trans o.tape, k.output.trans o.output, Nat.le_trans o.size k.size, fun i hi hr =>
    (k.block i (Nat.lt_of_lt_of_le hi o.size) (fun e => by injection e with e; omega)).trans (o.block i hi hr)⟩
end Go.Proofs.Ytdijakobocnceaa
