/-
  Plain facts on the tables of layer 21: no function of the program is run.
-/
import Derived.Test.YtbfimnlffjkokaaBoundPlain
namespace Go.Proofs.Ytbfimnlffjkokaa
namespace Tb
open Bd
/-- What is known of one: threshold, epoch, tick. -/
abbrev Nt := Option (Int × Int × Int)
/-- The cells of a note. -/
def nv (i : Nat) : Nt → Nat → Value
  | none, 0 => .bool false
  | none, _ => .int .i64 0
  | some _, 0 => .bool true
  | some _, 1 => .int .i64 i
  | some (t, _, _), 2 => .int .i64 t
  | some (_, e, _), 3 => .int .i64 e
  | some (_, _, a), _ => .int .i64 a
def upd (ns : Nat → Nt) (k : Nat) (x : Nt) : Nat → Nt := fun i => if i = k then x else ns i
theorem upd_same (ns : Nat → Nt) (k : Nat) (x : Nt) : upd ns k x k = x := if_pos rfl
theorem upd_other (ns : Nat → Nt) (k : Nat) (x : Nt) {i : Nat} (h : i ≠ k) : upd ns k x i = ns i := if_neg h
def lrn (n : Nt) (th ep now : Int) : Nt :=
  match n with
  | none => some (th, ep, kp now tMost)
  | some (t0, e0, a0) => if ep < e0 then some (t0, e0, a0) else if e0 = ep then some (t0, ep, kp now tMost) else some (th, ep, kp now tMost)
def lok (n : Nt) (ep : Int) : Bool :=
  match n with
  | none => true
  | some (_, e0, _) => decide (e0 ≤ ep)
/-- It is known at a tick. -/
def fresh (n : Nt) (ttl now : Int) : Bool :=
  match n with
  | none => false
  | some (_, _, a) => decide (leftT now a ≤ ttl)
def kv (i : Nat) : Nt → Bool → Array Value
  | some (t, e, a), true => #[.int .i64 i, .int .i64 t, .int .i64 e, .int .i64 a]
  | _, _ => #[.int .i64 0, .int .i64 0, .int .i64 0, .int .i64 0]
end Tb
end Go.Proofs.Ytbfimnlffjkokaa
