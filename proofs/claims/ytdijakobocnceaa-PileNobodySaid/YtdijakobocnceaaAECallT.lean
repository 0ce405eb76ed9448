/-
  A call as the last operation but one of a region, by what is known of the function; its answer may hold numbers that are not told.
-/
import Derived.Test.YtdijakobocnceaaAECall
import Derived.Test.YtdijakobocnceaaAETailT
namespace Go.Proofs.Ytdijakobocnceaa.AE
set_option maxRecDepth 100000
open Go.RowKit
def callT (l : List Oper) (g : FuncId) (j k i : Nat) : Prop := ∃ o2 o3, l = [o2, o3] ∧ ((∀ act, call? act o2 = some (g, [ev act (.tmp j)])) ∧ o2.dst = some k ∧ o2.guard = none) ∧ o3.op = .assign (.tmp k) ∧ o3.dst = some i ∧ o3.guard = none
theorem tl_call {P : Program} {ro : Nat → Option (List Value)} (hN : Named P) {ops : Array Oper} {l : List Oper} {g j k i : Nat} (hc : callT l g j k i) {act : List AV} {H : AH} {x : AV} {Φ : AV → AH → Prop} (hx : ev act (.tmp j) = x) (hk : k < act.length) (hF : Fs P ro g [x] H Φ) :
    TlL P ro ops l act H fun e a h => e = .normal ∧ ∃ r, Φ r h ∧ a = (act.set k r).set i r := by
  obtain ⟨o2, o3, rfl, ⟨p2, d2, g2⟩, p3, d3, g3⟩ := hc
  intro G W a hI hR hA
  have hcall := p2 act
  rw [hx] at hcall
  obtain ⟨cargs, h1, h2⟩ := call_run (W := W) hN hA hcall
  obtain ⟨hf, hcal⟩ := hF G W cargs hI hR h1
  unfold wpList
  rw [if_pos (by simp [Region.wanted, g2])]
  left
  unfold Oper.wp
  rw [h2 hf]
  refine Calls.mono hcal ?_
  rintro e W' ⟨v, G', r, H', rfl, hΦ, e1, e2, e3⟩
  have A2 : RVs G' W' (act.set k r) (a.put o2.dst v).tmps.toList := by
    have := put_rel (hA.ext e1) o2.dst e3
    rw [d2] at this ⊢
    exact this
  have r2 : RV G' W' r ((a.put o2.dst v).eval (.tmp k)) := by
    have := ev_rel A2 (.tmp k)
    rwa [ev_set hk] at this
  refine wpl_stepC (c := (a.put o2.dst v).eval (.tmp k)) (W' := W') g3 (by rw [execOp, p3]; simp) ?_
  have A3 := put_rel A2 o3.dst r2
  refine ⟨_, _, G', ⟨rfl, r, hΦ, rfl⟩, e1, e2, ?_, by rw [put_defers, put_defers]⟩
  rw [d3] at A3 ⊢
  exact A3
end Go.Proofs.Ytdijakobocnceaa.AE
