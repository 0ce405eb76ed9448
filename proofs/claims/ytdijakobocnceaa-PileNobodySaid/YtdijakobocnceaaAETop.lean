/-
  From an abstract run to the program's call.
-/
import Derived.Test.YtdijakobocnceaaAEDrawD
import Derived.KernelRfl
namespace Go.Proofs.Ytdijakobocnceaa.AE
set_option maxRecDepth 100000
open Go.RowKit
def H0 : AH := ⟨[], [], 0, 0, false, [], True⟩
/-- All that is there when the run begins does not change. -/
def G0 (w : World) : Gh := { δ := fun _ => none, tip := fun _ => none, prot := fun b _ => b < w.heap.size, own := fun _ => False }
theorem inv0 (w : World) : Inv (G0 w) H0 w where
  blk := fun id t cs h => by simp [H0] at h
  inj := fun i j b h => by cases h
  δown := fun i b h => by cases h
  δpr := fun i b o h => by cases h
  δlen := fun i b h => by cases h
  tip := fun t v h => by simp [H0] at h
  tlen := fun t i h => by cases h
  row := fun t i h => by cases h
  trow := fun t i b off n cap h => by cases h
  tδ := fun t i b h => by cases h
  tt := fun t t' i i' b h => by cases h
  plt := fun b o h => h
  olt := fun b h => h.elim
theorem Ext.below {w : World} {G' : Gh} {w' : World} (h : Ext (G0 w) w G' w') : Below w.heap.size w w' :=
  ⟨h.os, h.tape, h.output, h.size, fun k hk => h.block k hk (fun h => h)⟩
/-- The run of this program. -/
noncomputable abbrev run (ro : Nat → Option (List Value)) (mu : FuncId → Bool) (pr : FuncId → Option (List AV → AH → Ans)) (d : Nat) : Hd := fn Try.prog ro (dr Try.prog ro mu) pr d
theorem named_of (P : Program) (h : (P.funcs.toList.all fun fn => fn.body.isNone || !(fn.name == "runtime.NumGoroutine")) = true) : Named P := by
  intro g fn hf hb
  rw [List.all_eq_true] at h
  have := h fn (by rw [Array.mem_toList_iff]; exact Array.mem_of_getElem? hf)
  have hn : fn.body.isNone = false := by cases e : fn.body <;> simp_all
  rw [hn] at this
  simpa using this
theorem named : Named Try.prog := named_of _ (by kernel_rfl)
theorem mixed : Try.prog.follows .mixedOrders = true := by kernel_rfl
/-- Functions of data alone are known otherwise. -/
def FlatP (p : List AV → AH → Ans) : Prop := ∀ args H r h, p args H = some (r, h) → ∀ b t mb mc, p args ⟨b, t, mb, mc, H.sy, H.orc, H.cd⟩ = some (r, ⟨b, t, mb, mc, h.sy, h.orc, h.cd⟩)
def Flats (mu : FuncId → Bool) (pr : FuncId → Option (List AV → AH → Ans)) : Prop := ∀ g, mu (g + 1000000) = true → ∃ p, pr g = some p ∧ FlatP p
theorem flat_fn {P : Program} {ro : Nat → Option (List Value)} {dr : Hd → Dr} {mu : FuncId → Bool} {pr : FuncId → Option (List AV → AH → Ans)} (h : Flats mu pr) : ∀ d, Flat (fn P ro dr pr d) mu
  | 0 => fun _ _ _ _ _ _ e => by cases e
  | d + 1 => fun g hg args H r h' e b t mb mc => by
    obtain ⟨p, hp, hf⟩ := h g hg
    unfold fn at e ⊢
    rw [hp] at e ⊢
    obtain ⟨u, hu, e⟩ := retd_some e
    cases hu
    simp only [hf _ _ _ _ e b t mb mc, retd]
theorem run_sound (ro : Nat → Option (List Value)) (mu : FuncId → Bool) (d : Nat) (hm : Flats mu (fun _ => none)) : HSound Try.prog ro (run ro mu (fun _ => none) d) :=
  fn_sound named (fun d h => dr_sound named mixed _ h (flat_fn hm d)) dr_keep (fun g p h => by cases h) d
/-- A law. -/
theorem law_calls {ro : Nat → Option (List Value)} {mu : FuncId → Bool} {d : Nat} {g : FuncId} {args : List AV} {c : Value} {H' : AH} (h : run ro mu (fun _ => none) d g args H0 = some (.ret (.v c), H')) (hcd : H'.cd) (w : World) (cargs : Array Value) (hR : Ro ro (G0 w) w) (hA : RVs (G0 w) w args cargs.toList) (hm : Flats mu (fun _ => none)) :
    Calls Try.prog g cargs w fun e w' => e = .returned c ∧ Below w.heap.size w w' := by
  refine ((((run_sound ro mu d hm) g args H0 _ H' h).one).2 hcd (G0 w) w cargs (inv0 w) hR hA).2.mono ?_
  rintro e w' ⟨u, G', rfl, e1, e2, e3⟩
  cases e3
  exact ⟨rfl, e1.below⟩
def nro : Nat → Option (List Value) := fun _ => none
theorem ro_none (G : Gh) (W : World) : Ro nro G W := by intro b cs h; cases h
/-- The run ends with this. -/
def ends (x : Ans2) (b : Bool) : Prop := match x with
  | some (.ret (.v (.bool c)), H) => c = b ∧ H.cd
  | _ => False
theorem law_closed {mu : FuncId → Bool} {d : Nat} {g : FuncId} {b : Bool} (h : ends (run nro mu (fun _ => none) d g [] H0) b) (w : World) (hm : Flats mu (fun _ => none) := by intro g h; cases h) : Calls Try.prog g #[] w fun e w' => e = .returned (.bool b) ∧ Below w.heap.size w w' := by
  unfold ends at h
  split at h
  · rename_i c H' e
    obtain ⟨rfl, hc⟩ := h
    exact law_calls e hc w #[] (ro_none _ _) .nil hm
  · exact h.elim
end Go.Proofs.Ytdijakobocnceaa.AE
