/-
  The abstract run of code, and that it stands for the program's.
-/
import Derived.Test.YtdijakobocnceaaAEEx
import Derived.Scope
namespace Go.Proofs.Ytdijakobocnceaa.AE
set_option maxRecDepth 100000
open Go.RowKit
abbrev Ans := Option (AV × AH)
/-- What a call comes to: it returns, or it panics. -/
inductive Res where
  | ret (r : AV)
  | pan (v : Value)
abbrev Ans2 := Option (Res × AH)
abbrev Hd := FuncId → List AV → AH → Ans2
def retd : Ans → Ans2
  | some rh => some (.ret rh.1, rh.2)
  | none => none
def ret? : Ans2 → Ans
  | some rh => match rh.1 with
    | .ret r => some (r, rh.2)
    | .pan _ => none
  | none => none
/-- What is done behind a call. -/
def aft {α : Type} (x : Ans2) (K : AV → AH → Option α) (KP : Value → AH → Option α) : Option α := match x with
  | some rh => match rh.1 with
    | .ret r => K r rh.2
    | .pan v => KP v rh.2
  | none => none
abbrev Kt (α : Type) := Exit → List AV → AH → Option α
abbrev Kn (α : Type) := List AV → AH → Option α
def panE (v : Value) : Exit := .panic [{ v, recovered := false }]
/-- A region that draws its order. -/
abbrev Dr := ∀ {α : Type}, Array Oper → List AV → AH → Kn α → Option α
def call? (act : List AV) (o : Oper) : Option (FuncId × List AV) := match o.op with
  | .call c => match c.callee with
    | .value f => match ev act f with
      | .v (.func (.func g) first captured) => some (g, first.toList.map .v ++ c.args.toList.map (ev act) ++ captured.toList.map .v)
      | .fn (.func g) first captured => some (g, first ++ c.args.toList.map (ev act) ++ captured)
      | _ => none
    | _ => none
  | _ => none
/-- A computation that panics, whatever the world is. -/
def ph (P : Program) {α : Type} : Sem α → Option Value
  | .program k => ph P (k P)
  | .mark _ k => ph P k
  | .halt (.panic v) => some v
  | _ => none
/-- An operation on plain values that panics. -/
def pan? (P : Program) (act : List AV) (o : Oper) : Option Value := match o.op with
  | .select _ _ => none
  | _ => if o.op.operands.toList.all (fun x => isV (ev act x)) then ph P (execOp (fun x => vOf (ev act x)) o) else none
/-- A call of a method of what stands behind an interface, of plain data. -/
def inv? (P : Program) (act : List AV) (o : Oper) : Option (FuncId × List AV) := match o.op with
  | .call c => match c.callee with
    | .invoke recv name => match ev act recv with
      | .v (.iface t v) => match pu P (method (P.types.size + Made.depth) t v name) with
        | some fr => some (fr.1, .v fr.2 :: c.args.toList.map (ev act))
        | none => none
      | _ => none
    | _ => none
  | _ => none
def put (act : List AV) (dst : Option Tmp) (r : AV) : List AV := match dst with
  | some d => act.set d r
  | none => act
inductive Gd where
  | yes | no | bad
  | test (d : Nat) (want b : Bool)
def gd (all : Array Oper) (act : List AV) (o : Oper) : Gd := match o.guard with
  | none => .yes
  | some (j, want) => match all[j]? with
    | some p => match p.dst with
      | some d => match act[d]? with
        | some (.v (.bool b)) => .test d want b
        | some .dead => .bad
        | _ => .no
      | none => .no
    | none => .no
def step (P : Program) (ro : Nat → Option (List Value)) (C : Hd) (act : List AV) (H : AH) (o : Oper) : Ans2 := match call? act o with
  | some ga => C ga.1 ga.2 H
  | none => match op2 P ro act H o with
    | some rh => some (.ret rh.1, rh.2)
    | none => match inv? P act o with
      | some ga => C ga.1 ga.2 H
      | none => match pan? P act o with
        | some v => some (.pan v, H)
        | none => none
def ops {α : Type} (P : Program) (ro : Nat → Option (List Value)) (C : Hd) (all : Array Oper) : List Oper → List AV → AH → Kt α → Option α
  | [], act, H, K => K .normal act H
  | o :: rest, act, H, K => match gd all act o with
    | .yes => aft (step P ro C act H o) (fun r h => ops P ro C all rest (put act o.dst r) h K) (fun v h => K (panE v) act h)
    | .no => ops P ro C all rest (put act o.dst (.v undef)) H K
    | .bad => none
    | .test d want b => match conc H b with
      | some gH => match gH.1 with
        | true => match want with
          | true => aft (step P ro C (act.set d (.v (.bool true))) gH.2 o) (fun r h => ops P ro C all rest (put (act.set d (.v (.bool true))) o.dst r) h K) (fun v h => K (panE v) (act.set d (.v (.bool true))) h)
          | false => ops P ro C all rest (put (act.set d (.v (.bool true))) o.dst (.v undef)) gH.2 K
        | false => match want with
          | false => aft (step P ro C (act.set d (.v (.bool false))) gH.2 o) (fun r h => ops P ro C all rest (put (act.set d (.v (.bool false))) o.dst r) h K) (fun v h => K (panE v) (act.set d (.v (.bool false))) h)
          | true => ops P ro C all rest (put (act.set d (.v (.bool false))) o.dst (.v undef)) gH.2 K
      | none => none
def kseq {α : Type} (f : Kn α) (K : Kt α) : Kt α := fun e act H => match e with
  | .normal => f act H
  | e => K e act H
def kblk {α : Type} (id : Nat) (K : Kt α) : Kt α := fun e act H => match e with
  | .exit i => if i = id then K .normal act H else K (.exit i) act H
  | e => K e act H
def kscp {α : Type} (K : Kt α) : Kt α := fun e act H => match e with
  | .goto _ => none
  | e => K e act H
def iter {α : Type} (f : List AV → AH → Kt α → Option α) : Nat → List AV → AH → Kt α → Option α
  | 0, _, _, _ => none
  | n + 1, act, H, K => f act H (kseq (fun act H => iter f n act H K) K)
def fuel : Nat := 1099511627776
def exec {α : Type} (P : Program) (ro : Nat → Option (List Value)) (C : Hd) (dr : Dr) : Code → List AV → AH → Kt α → Option α
  | .skip, act, H, K => K .normal act H
  | .label _, act, H, K => K .normal act H
  | .region _ os draw, act, H, K => match draw with
    | true => dr os act H (K .normal)
    | false => ops P ro C os os.toList act H K
  | .seq x y, act, H, K => exec P ro C dr x act H (kseq (fun act H => exec P ro C dr y act H K) K)
  | .cond c x y, act, H, K => match ev act c with
    | .v (.bool b) => match conc H b with
      | some gH => match gH.1 with
        | true => exec P ro C dr x act gH.2 K
        | false => exec P ro C dr y act gH.2 K
      | none => none
    | _ => none
  | .block id c, act, H, K => exec P ro C dr c act H (kblk id K)
  | .loop c, act, H, K => iter (exec P ro C dr c) fuel act H K
  | .exit id, act, H, K => K (.exit id) act H
  | .scope c, act, H, K => exec P ro C dr c act H (kscp K)
  | .ret, act, H, K => K .ret act H
  | _, _, _, _ => none
def resVar (P : Program) (ro : Nat → Option (List Value)) (act : List AV) (H : AH) : ResultVar → Option (AV × AH)
  | .tmp t => some (act.getD t (.v undef), H)
  | .cell a t => load P ro H t (act.getD a (.v undef))
def resVars (P : Program) (ro : Nat → Option (List Value)) (act : List AV) (H : AH) : List ResultVar → Option (List AV × AH)
  | [] => some ([], H)
  | x :: l => match resVar P ro act H x with
    | some u => match resVars P ro act u.2 l with
      | some us => some (u.1 :: us.1, us.2)
      | none => none
    | none => none
def resOf (P : Program) (ro : Nat → Option (List Value)) (rs : List ResultVar) (act : List AV) (H : AH) : Ans := match resVars P ro act H rs with
  | some us => match us.1 with
    | [u] => some (u, us.2)
    | l => some (mkTuple l, us.2)
  | none => none
def kret (P : Program) (ro : Nat → Option (List Value)) (rs : List ResultVar) : Kt (Res × AH) := fun e act H => match e with
  | .normal => retd (resOf P ro rs act H)
  | .ret => retd (resOf P ro rs act H)
  | .panic ch => match ch with
    | [en] => match en.recovered, en.goexit with
      | false, false => some (.pan en.v, H)
      | _, _ => none
    | _ => none
  | _ => none
/-- What the program's operation o, a call, comes to. -/
def HSound1 (P : Program) (ro : Nat → Option (List Value)) (g : FuncId) (args : List AV) (H : AH) (r : AV) (H' : AH) : Prop :=
  Keep H H' ∧ (H'.cd → ∀ G W (cargs : Array Value), Inv G H W → Ro ro G W → RVs G W args cargs.toList → (∃ fn, P.funcs[g]? = some fn ∧ fn.body.isSome = true) ∧
    Calls P g cargs W fun e W' => ∃ c G', e = .returned c ∧ Ext G W G' W' ∧ Inv G' H' W' ∧ RV G' W' r c)
/-- How a call ends. -/
def EndR (G' : Gh) (W' : World) (e : Ending) : Res → Prop
  | .ret r => ∃ c, e = .returned c ∧ RV G' W' r c
  | .pan v => e = .panicked [{ v, recovered := false }]
def HSound2 (P : Program) (ro : Nat → Option (List Value)) (g : FuncId) (args : List AV) (H : AH) (r : Res) (H' : AH) : Prop :=
  Keep H H' ∧ (H'.cd → ∀ G W (cargs : Array Value), Inv G H W → Ro ro G W → RVs G W args cargs.toList → (∃ fn, P.funcs[g]? = some fn ∧ fn.body.isSome = true) ∧
    Calls P g cargs W fun e W' => ∃ G', Ext G W G' W' ∧ Inv G' H' W' ∧ EndR G' W' e r)
theorem HSound1.two {P : Program} {ro : Nat → Option (List Value)} {g : FuncId} {args : List AV} {H : AH} {r : AV} {H' : AH} (h : HSound1 P ro g args H r H') : HSound2 P ro g args H (.ret r) H' :=
  ⟨h.1, fun hcd G W cargs hI hR hA => ⟨(h.2 hcd G W cargs hI hR hA).1, (h.2 hcd G W cargs hI hR hA).2.mono fun _ _ ⟨c, G', h1, h2, h3, h4⟩ => ⟨G', h2, h3, c, h1, h4⟩⟩⟩
theorem HSound2.one {P : Program} {ro : Nat → Option (List Value)} {g : FuncId} {args : List AV} {H : AH} {r : AV} {H' : AH} (h : HSound2 P ro g args H (.ret r) H') : HSound1 P ro g args H r H' :=
  ⟨h.1, fun hcd G W cargs hI hR hA => ⟨(h.2 hcd G W cargs hI hR hA).1, (h.2 hcd G W cargs hI hR hA).2.mono fun _ _ ⟨G', h2, h3, c, h1, h4⟩ => ⟨c, G', h1, h2, h3, h4⟩⟩⟩
def HSound (P : Program) (ro : Nat → Option (List Value)) (C : Hd) : Prop := ∀ g args H r H', C g args H = some (r, H') → HSound2 P ro g args H r H'
def Named (P : Program) : Prop := ∀ (g : Nat) (fn : Func), P.funcs[g]? = some fn → fn.body.isSome = true → (fn.name == "runtime.NumGoroutine") = false
section
variable {P : Program} {ro : Nat → Option (List Value)} {C : Hd} {G : Gh} {H H' : AH} {W : World} {act : List AV} {a : Act} {o : Oper} {r : AV} {α : Type}
theorem call_run (hN : Named P) (hA : RVs G W act a.tmps.toList) {g : FuncId} {args : List AV} (h : call? act o = some (g, args)) :
    ∃ cargs : Array Value, RVs G W args cargs.toList ∧ ((∃ fn, P.funcs[g]? = some fn ∧ fn.body.isSome = true) → (execOp a.eval o).run P W = .ok (.enter g cargs) W) := by
  have hcf : (∃ fn, P.funcs[g]? = some fn ∧ fn.body.isSome = true) → ∀ args, (callFunc g args).run P W = .ok (.enter g args) W := by
    rintro ⟨fn, hf, hb⟩ args
    have hn : ¬ fn.name = "runtime.NumGoroutine" := by simpa using hN g fn hf hb
    have hb' : ¬ fn.body = none := fun e => by rw [e] at hb; cases hb
    simp [callFunc, Go.program, Sem.run, hf, hn, hb']
  unfold call? at h
  split at h
  · rename_i c hop
    split at h
    · rename_i f hcal
      have hfr := ev_rel hA f
      split at h
      · rename_i g' first captured he
        cases h
        rw [he] at hfr
        have hev : a.eval f = .func (.func g) first captured := by
          generalize a.eval f = u at hfr
          cases hfr; rfl
        refine ⟨first ++ c.args.map a.eval ++ captured, ?_, fun hg => ?_⟩
        · simp only [Array.toList_append, Array.toList_map]
          exact ((RVs.map_v _).app (evs_rel hA _)).app (RVs.map_v _)
        · rw [execOp, hop]
          simp [resolve, hcal, hev, Deferred.ofValue, invoke, hcf hg]
      · rename_i g' first captured he
        cases h
        rw [he] at hfr
        have hev : ∃ x y, a.eval f = .func (.func g) x y ∧ RVs G W first x.toList ∧ RVs G W captured y.toList := by
          generalize a.eval f = u at hfr
          cases hfr; exact ⟨_, _, rfl, by assumption, by assumption⟩
        obtain ⟨x, y, hev, h1, h2⟩ := hev
        refine ⟨x ++ c.args.map a.eval ++ y, ?_, fun hg => ?_⟩
        · simp only [Array.toList_append, Array.toList_map]
          exact (h1.app (evs_rel hA _)).app h2
        · rw [execOp, hop]
          simp [resolve, hcal, hev, Deferred.ofValue, invoke, hcf hg]
      · cases h
    · cases h
  · cases h
theorem method_cut {P : Program} {W : World} {t : TypeId} {v : Value} {name : String} {f : FuncId} {x : Value} (h : pu P (method (P.types.size + Made.depth) t v name) = some (f, x)) : (method (P.types.size + Made.depth) t v name).run P W = .ok (f, x) W := pu_run _ _ W h
theorem inv_run (hN : Named P) (hA : RVs G W act a.tmps.toList) {g : FuncId} {args : List AV} (h : inv? P act o = some (g, args)) :
    ∃ cargs : Array Value, RVs G W args cargs.toList ∧ ((∃ fn, P.funcs[g]? = some fn ∧ fn.body.isSome = true) → (execOp a.eval o).run P W = .ok (.enter g cargs) W) := by
  have hcf : (∃ fn, P.funcs[g]? = some fn ∧ fn.body.isSome = true) → ∀ args, (callFunc g args).run P W = .ok (.enter g args) W := by
    rintro ⟨fn, hf, hb⟩ args
    have hn : ¬ fn.name = "runtime.NumGoroutine" := by simpa using hN g fn hf hb
    have hb' : ¬ fn.body = none := fun e => by rw [e] at hb; cases hb
    simp [callFunc, Go.program, Sem.run, hf, hn, hb']
  unfold inv? at h
  split at h
  · rename_i c hop
    split at h
    · rename_i recv name hcal
      have hfr := ev_rel hA recv
      split at h
      · rename_i t v he
        split at h
        · rename_i fr hm
          cases h
          rw [he] at hfr
          have hev : a.eval recv = .iface t v := by
            generalize a.eval recv = u at hfr
            cases hfr; rfl
          refine ⟨#[fr.2] ++ c.args.map a.eval, ?_, fun hg => ?_⟩
          · simp only [Array.toList_append, Array.toList_map]
            exact RVs.app (.cons (.v _) .nil) (evs_rel hA _)
          · have hmr := method_cut (W := W) (f := fr.1) (x := fr.2) hm
            rw [execOp, hop]
            simp only [Sem.run_bind, resolve, hcal, Sem.run_pure, Result.andThen_ok, invoke]
            have e0 : (#[a.eval recv] ++ c.args.map a.eval)[0]? = some (.iface t v) := by rw [hev, Array.getElem?_append_left (by simp)]; rfl
            have e1 : (#[a.eval recv] ++ c.args.map a.eval).extract 1 (#[a.eval recv] ++ c.args.map a.eval).size = c.args.map a.eval := by
              apply Array.ext'
              simp
              exact List.take_of_length_le (by simp)
            simp only [e0, e1, callMethod, Sem.run_bind, Go.program, Sem.run, Result.andThen_ok, hmr, hcf hg]
        · cases h
      · cases h
    · cases h
  · cases h
theorem ph_run (s : Sem α) (v : Value) (W : World) (h : ph P s = some v) : s.run P W = .halt (.panic v) W := by
  induction s with
  | program k ih => exact ih P h
  | mark m k ih => exact ih h
  | halt x =>
    unfold ph at h
    cases x <;> simp at h
    subst h
    rfl
  | _ => simp [ph] at h
theorem pan_run {v : Value} (hA : RVs G W act a.tmps.toList) (h : pan? P act o = some v) : (execOp a.eval o).run P W = .halt (.panic v) W := by
  unfold pan? at h
  split at h
  · cases h
  · rename_i hs
    split at h
    · rename_i hv
      rw [List.all_eq_true] at hv
      have e : execOp a.eval o = execOp (fun x => vOf (ev act x)) o := execOp_congr o (fun cs b e => hs cs b e) (fun x hx => isV_rel hA (hv x (by simpa using hx)))
      rw [e]
      exact ph_run _ _ _ h
    · cases h
theorem put_rel (hA : RVs G W act a.tmps.toList) (dst : Option Tmp) {c : Value} (h : RV G W r c) : RVs G W (put act dst r) (a.put dst c).tmps.toList := by
  cases dst with
  | none => exact hA
  | some d =>
    show RVs G W (act.set d r) (a.tmps.setIfInBounds d c).toList
    rw [Array.toList_setIfInBounds]
    exact hA.set d h
theorem put_defers (dst : Option Tmp) (c : Value) : (a.put dst c).defers = a.defers := by cases dst <;> rfl
theorem step_keep {rr : Res} (hC : ∀ g args H r H', C g args H = some (r, H') → Keep H H') (h : step P ro C act H o = some (rr, H')) : Keep H H' := by
  unfold step at h
  split at h
  · exact hC _ _ _ _ _ h
  · split at h
    · rename_i rh hr
      cases h
      exact op2_keep (r := rh.1) hr
    · split at h
      · exact hC _ _ _ _ _ h
      · split at h
        · cases h; exact .refl _
        · cases h
theorem step_sound (hN : Named P) (hC : HSound P ro C) (hI : Inv G H W) (hR : Ro ro G W) (hA : RVs G W act a.tmps.toList) {rr : Res} (h : step P ro C act H o = some (rr, H')) (hcd : H'.cd) {next : Act → World → Prop} {Q : Exit → Act → World → Prop}
    (hK : ∀ r, rr = .ret r → ∀ G' W' c, Ext G W G' W' → Inv G' H' W' → RV G' W' r c → next (a.put o.dst c) W') (hP : ∀ v, rr = .pan v → ∀ G' W', Ext G W G' W' → Inv G' H' W' → Q (panE v) a W') : o.wp P a W next Q := by
  have call : ∀ g args, C g args H = some (rr, H') → (∃ cargs : Array Value, RVs G W args cargs.toList ∧ ((∃ fn, P.funcs[g]? = some fn ∧ fn.body.isSome = true) → (execOp a.eval o).run P W = .ok (.enter g cargs) W)) → o.wp P a W next Q := by
    intro g args h hc
    have hs := hC g args H rr H' h
    obtain ⟨cargs, h1, h2⟩ := hc
    replace h2 := h2 (hs.2 hcd G W cargs hI hR h1).1
    unfold Oper.wp
    rw [h2]
    refine Calls.mono (hs.2 hcd G W cargs hI hR h1).2 ?_
    rintro e W' ⟨G', e1, e2, e3⟩
    cases rr with
    | ret r =>
      obtain ⟨c, rfl, e4⟩ := e3
      exact hK r rfl G' W' c e1 e2 e4
    | pan v =>
      have e3 : e = _ := e3
      subst e3
      exact hP v rfl G' W' e1 e2
  unfold step at h
  split at h
  · rename_i ga hc
    exact call ga.1 ga.2 h (call_run (W := W) hN hA hc)
  · split at h
    · rename_i rh hr
      cases h
      obtain ⟨G', W', nx, c, h1, h2, h3, h4, h5⟩ := op2_sound (r := rh.1) hI hR hA hr hcd
      unfold Oper.wp
      rw [h1]
      rcases h2 with rfl | ⟨rfl, rfl⟩
      · exact hK _ rfl G' W' c h3 h4 h5
      · exact hK _ rfl G' W' undef h3 h4 h5
    · split at h
      · rename_i ga hc
        exact call ga.1 ga.2 h (inv_run (W := W) hN hA hc)
      · split at h
        · rename_i v hv
          cases h
          unfold Oper.wp
          rw [pan_run hA hv]
          exact hP v rfl G W (.refl _ _) hI
        · cases h
theorem set_same {d : Nat} {x : AV} (h : act[d]? = some x) : act.set d x = act := by
  obtain ⟨h1, h2⟩ := List.getElem?_eq_some_iff.1 h
  rw [← h2, List.set_getElem_self]
theorem yielded_of {all : Array Oper} (hA : RVs G W act a.tmps.toList) {j d : Nat} {p : Oper} (hp : all[j]? = some p) (hd : p.dst = some d) {x : AV} (hx : act[d]? = some x) :
    ∃ c, RV G W x c ∧ yielded all a.tmps j = match c with | .bool b => some b | _ => none := by
  obtain ⟨c, hc, hr⟩ := hA.get d x hx
  refine ⟨c, hr, ?_⟩
  have : a.tmps[d]? = some c := by simpa using hc
  unfold yielded
  rw [hp]
  simp only [Option.bind_some, hd, this]
  cases c <;> rfl
theorem gd_sound {all : Array Oper} (hA : RVs G W act a.tmps.toList) : match gd all act o with
    | .yes => Region.wanted o (yielded all a.tmps) = true
    | .no => Region.wanted o (yielded all a.tmps) = false
    | .bad => True
    | .test d want b => Region.wanted o (yielded all a.tmps) = (b == want) ∧ act[d]? = some (.v (.bool b)) := by
  unfold gd
  split
  · rename_i heq
    split at heq
    · rename_i hg; simp [Region.wanted, hg]
    · split at heq
      · split at heq
        · split at heq <;> cases heq
        · cases heq
      · cases heq
  · rename_i heq
    split at heq
    · cases heq
    · rename_i j want hg
      simp only [Region.wanted, hg]
      split at heq
      · rename_i p hp
        split at heq
        · rename_i d hd
          split at heq
          · cases heq
          · cases heq
          · rename_i hnb hnd
            cases hx : act[d]? with
            | none =>
              have : a.tmps[d]? = none := by
                have := hA.len
                rw [List.getElem?_eq_none_iff] at hx
                simp at this
                exact Array.getElem?_eq_none (by omega)
              simp [yielded, hp, hd, this]
            | some x =>
              obtain ⟨c, hr, hy⟩ := yielded_of hA hp hd hx
              rw [hy]
              cases c with
              | bool b => cases hr <;> first | exact absurd hx (hnb b) | exact absurd hx hnd
              | _ => rfl
        · rename_i hd; simp [yielded, hp, hd]
      · rename_i hp; simp [yielded, hp]
  · trivial
  · rename_i d want b heq
    split at heq
    · cases heq
    · rename_i j want' hg
      simp only [Region.wanted, hg]
      split at heq
      · rename_i p hp
        split at heq
        · rename_i d' hd
          split at heq
          · rename_i b' hx
            cases heq
            obtain ⟨c, hr, hy⟩ := yielded_of hA hp hd hx
            rw [hy]
            cases hr
            exact ⟨by cases b <;> cases want <;> rfl, hx⟩
          · cases heq
          · cases heq
        · cases heq
      · cases heq
theorem aft_some {α : Type} {x : Ans2} {K : AV → AH → Option α} {KP : Value → AH → Option α} {ans : α} (h : aft x K KP = some ans) : (∃ r h', x = some (.ret r, h') ∧ K r h' = some ans) ∨ (∃ v h', x = some (.pan v, h') ∧ KP v h' = some ans) := by
  unfold aft at h
  split at h
  · rename_i rh
    obtain ⟨rr, h'⟩ := rh
    cases rr with
    | ret r => exact .inl ⟨r, h', rfl, h⟩
    | pan v => exact .inr ⟨v, h', rfl, h⟩
  · cases h
theorem ops_keep {α : Type} (hC : ∀ g args H r H', C g args H = some (r, H') → Keep H H') {all : Array Oper} {ans : α} {K : Kt α} : ∀ (rest : List Oper) (act : List AV) (H : AH), ops P ro C all rest act H K = some ans → ∃ e act' H', K e act' H' = some ans ∧ Keep H H'
  | [], act, H, h => ⟨_, act, H, h, .refl _⟩
  | o :: rest, act, H, h => by
    have take : ∀ act' H1, Keep H H1 → aft (step P ro C act' H1 o) (fun r h => ops P ro C all rest (put act' o.dst r) h K) (fun v h => K (panE v) act' h) = some ans → ∃ e act' H', K e act' H' = some ans ∧ Keep H H' := fun act' H1 hk h => by
      rcases aft_some h with ⟨r, h', hs, h⟩ | ⟨v, h', hs, h⟩
      · obtain ⟨e, a2, H2, h1, h2⟩ := ops_keep hC rest _ _ h
        exact ⟨e, a2, H2, h1, hk.trans ((step_keep hC hs).trans h2)⟩
      · exact ⟨_, _, _, h, hk.trans (step_keep hC hs)⟩
    have skip : ∀ act' H1, Keep H H1 → ops P ro C all rest act' H1 K = some ans → ∃ e act' H', K e act' H' = some ans ∧ Keep H H' := fun act' H1 hk h => by
      obtain ⟨e, a2, H2, h1, h2⟩ := ops_keep hC rest _ _ h
      exact ⟨e, a2, H2, h1, hk.trans h2⟩
    unfold ops at h
    cases e : gd all act o with
    | yes => rw [e] at h; exact take _ _ (.refl _) h
    | bad => rw [e] at h; cases h
    | no => rw [e] at h; exact skip _ _ (.refl _) h
    | test d want b =>
      rw [e] at h
      simp only at h
      split at h
      · rename_i gH hg
        obtain ⟨g, H1⟩ := gH
        have hk := conc_keep hg
        cases g <;> cases want <;> simp only at h
        · exact take _ _ hk h
        · exact skip _ _ hk h
        · exact skip _ _ hk h
        · exact take _ _ hk h
      · cases h
theorem ops_sound {α : Type} (hN : Named P) (hC : HSound P ro C) {all : Array Oper} {ans : α} {K : Kt α} (hKc : ∀ e act H, K e act H = some ans → H.cd) {G0 : Gh} {W0 : World} {H0 : AH} {ds : List Deferred} {Q : Exit → Act → World → Prop}
    (hQ : ∀ e act H G (a : Act) W, K e act H = some ans → Keep H0 H → Ext G0 W0 G W → Inv G H W → RVs G W act a.tmps.toList → a.defers = ds → Q e a W) :
    ∀ (rest : List Oper) (act : List AV) (H : AH) (G : Gh) (a : Act) (W : World), ops P ro C all rest act H K = some ans → Keep H0 H → Ext G0 W0 G W → Inv G H W → Ro ro G W → RVs G W act a.tmps.toList → a.defers = ds → wpList P all Q rest a W := by
  have hCk : ∀ g args H r H', C g args H = some (r, H') → Keep H H' := fun g args H r H' h => (hC g args H r H' h).1
  have hcd : ∀ rest act H, ops P ro C all rest act H K = some ans → H.cd := fun rest act H h => by
    obtain ⟨e, a2, H2, h1, h2⟩ := ops_keep hCk rest _ _ h
    exact h2.cd (hKc _ _ _ h1)
  have acd : ∀ rest act (o : Oper) H1, aft (step P ro C act H1 o) (fun r h => ops P ro C all rest (put act o.dst r) h K) (fun v h => K (panE v) act h) = some ans → H1.cd := fun rest act o H1 h => by
    rcases aft_some h with ⟨r, h', hs, h⟩ | ⟨v, h', hs, h⟩
    · exact (step_keep hCk hs).cd (hcd _ _ _ h)
    · exact (step_keep hCk hs).cd (hKc _ _ _ h)
  intro rest
  induction rest with
  | nil => intro act H G a W h hKp hE hI hR hA hd; exact hQ _ act H G a W h hKp hE hI hA hd
  | cons o rest ih =>
    intro act H G a W h hKp hE hI hR hA hd
    have hgd := gd_sound (o := o) (all := all) hA
    have take : ∀ act' H1, act' = act → Keep H0 H1 → Inv G H1 W → aft (step P ro C act' H1 o) (fun r h => ops P ro C all rest (put act' o.dst r) h K) (fun v h => K (panE v) act' h) = some ans → (H1.cd → Region.wanted o (yielded all a.tmps) = true) → wpList P all Q (o :: rest) a W := by
      rintro _ H1 rfl hKp hI h hw
      have hH1 := acd _ _ _ _ h
      unfold wpList
      rw [if_pos (hw hH1)]
      left
      rcases aft_some h with ⟨r, h', hs, h⟩ | ⟨v, h', hs, h⟩
      · have hk := step_keep hCk hs
        refine step_sound hN hC hI hR hA hs (hcd _ _ _ h) (fun r' hr' G' W' c e1 e2 e3 => ?_) (fun v hv => by cases hv)
        cases hr'
        exact ih _ _ _ _ _ h (hKp.trans hk) (hE.trans e1) e2 (hR.ext e1) (put_rel (hA.ext e1) o.dst e3) (by rw [put_defers, hd])
      · have hk := step_keep hCk hs
        refine step_sound hN hC hI hR hA hs (hKc _ _ _ h) (fun r hr => by cases hr) (fun v' hv G' W' e1 e2 => ?_)
        cases hv
        exact hQ _ _ _ G' a W' h (hKp.trans hk) (hE.trans e1) e2 (hA.ext e1) hd
    have skip : ∀ act' H1, act' = act → Keep H0 H1 → Inv G H1 W → ops P ro C all rest (put act' o.dst (.v undef)) H1 K = some ans → (H1.cd → Region.wanted o (yielded all a.tmps) = false) → wpList P all Q (o :: rest) a W := by
      rintro _ H1 rfl hKp hI h hw
      unfold wpList
      rw [if_neg (by rw [hw (hcd _ _ _ h)]; simp)]
      exact ih _ _ _ _ _ h hKp hE hI hR (put_rel hA o.dst (.v _)) (by rw [put_defers, hd])
    have h0 := h
    unfold ops at h
    cases e : gd all act o with
    | yes => rw [e] at h hgd; exact take act H rfl hKp hI h fun _ => hgd
    | bad => rw [e] at h; cases h
    | no => rw [e] at h hgd; exact skip act H rfl hKp hI h fun _ => hgd
    | test d want b =>
      rw [e] at h hgd
      obtain ⟨hw, hx⟩ := hgd
      simp only at h
      split at h
      · rename_i gH hg
        obtain ⟨g, H1⟩ := gH
        have hk := conc_keep hg
        obtain ⟨hS, hc⟩ := conc_some hg
        have hb : H1.cd → b = g := fun x => (hc x).2
        have hI1 : Inv G H1 W := hI.same hS.b hS.t
        have hbg : b = g := by
          cases g <;> cases want <;> simp only at h
          · exact hb (acd _ _ _ _ h)
          · exact hb (hcd _ _ _ h)
          · exact hb (hcd _ _ _ h)
          · exact hb (acd _ _ _ _ h)
        subst hbg
        cases b <;> cases want <;> simp only at h
        · exact take _ _ (set_same hx) (hKp.trans hk) hI1 h fun _ => hw
        · exact skip _ _ (set_same hx) (hKp.trans hk) hI1 h fun _ => hw
        · exact skip _ _ (set_same hx) (hKp.trans hk) hI1 h fun _ => hw
        · exact take _ _ (set_same hx) (hKp.trans hk) hI1 h fun _ => hw
      · cases h
end
end Go.Proofs.Ytdijakobocnceaa.AE
