/-
  A function that defers one closure, which asks what is panicked with.
-/
import Derived.Test.YtlonpmcgejdkkaaGreatDoorAEData
import Derived.Recover
namespace Go.Proofs.YtlonpmcgejdkkaaGreatDoor.AE
set_option maxRecDepth 100000
open Go.RowKit
/-- Code that makes a closure and defers it: its function, what it holds, and the slot. -/
def defAt? (c : Code) : Option (FuncId × List Operand × Nat) := match c with
  | .region _ os draw => match draw with
    | true => none
    | false => match os.toList with
      | [o1, o2] => match o1.op with
        | .makeFunc fn first cap => match o2.op with
          | .defer cl => match fn with
            | .func h => match first.toList with
              | [] => match o1.dst with
                | some d => match o1.guard with
                  | none => match o2.guard with
                    | none => match o2.dst with
                      | none => match cl.callee with
                        | .value (.tmp d') => match cl.args.toList with
                          | [] => if d = d' then some (h, cap.toList, d) else none
                          | _ => none
                        | _ => none
                      | _ => none
                    | _ => none
                  | _ => none
                | _ => none
              | _ => none
            | _ => none
          | _ => none
        | _ => none
      | _ => none
  | _ => none
/-- Operations on plain values alone. -/
def gOps (P : Program) (all : Array Oper) : List Oper → List AV → Option (List AV)
  | [], act => some act
  | o :: rest, act => match gd all act o with
    | .yes => match gen P act o with
      | some r => gOps P all rest (put act o.dst r)
      | none => none
    | .no => gOps P all rest (put act o.dst (.v undef))
    | .bad => none
    | .test _ want b => match b == want with
      | true => match gen P act o with
        | some r => gOps P all rest (put act o.dst r)
        | none => none
      | false => gOps P all rest (put act o.dst (.v undef))
/-- A region that begins by asking what is panicked with. -/
def recG (P : Program) (c : Code) (act : List AV) (rv : Value) : Option (List AV) := match c with
  | .region _ os draw => match draw with
    | true => none
    | false => match os.toList with
      | o :: rest => match o.op with
        | .call cl => match cl.callee with
          | .builtin .recover => match o.guard with
            | none => match cl.args.toList with
              | [] => gOps P os rest (put act o.dst (.v rv))
              | _ => none
            | _ => none
          | _ => none
        | _ => none
      | _ => none
  | _ => none
section
variable {P : Program} {ro : Nat → Option (List Value)} {G : Gh} {W : World} {act act' : List AV} {a : Act}
theorem def_wp {c : Code} {h : FuncId} {cap : List Operand} {d : Nat} (hd : defAt? c = some (h, cap, d)) (hl : d < a.tmps.size) {Q : Exit → Act → World → Prop}
    (hQ : Q .normal { tmps := a.tmps.setIfInBounds d (.func (.func h) #[] (cap.map a.eval).toArray), defers := { target := .fn (.func h) (cap.map a.eval).toArray, args := #[] } :: a.defers } W) : c.wp P Q a W := by
  unfold defAt? at hd
  split at hd
  · rename_i id os draw
    split at hd
    · cases hd
    · split at hd
      · rename_i o1 o2 hos
        split at hd
        · rename_i fn first cp hop1
          split at hd
          · rename_i cl hop2
            split at hd
            · rename_i h'
              split at hd
              · rename_i hfirst
                split at hd
                · rename_i d1 hd1
                  split at hd
                  · rename_i hg1
                    split at hd
                    · rename_i hg2
                      split at hd
                      · rename_i hd2
                        split at hd
                        · rename_i d2 hcal
                          split at hd
                          · rename_i hargs
                            split at hd
                            · rename_i hdd
                              cases hd
                              subst hdd
                              refine wp_region_list ?_
                              rw [hos]
                              have hf0 : first = #[] := Array.ext' hfirst
                              have ha0 : cl.args = #[] := Array.ext' hargs
                              have hcp : (cp.toList.map a.eval).toArray = cp.map a.eval := by apply Array.ext'; simp
                              rw [hcp] at hQ
                              obtain ⟨A, hA⟩ : ∃ A : Act, A = { tmps := a.tmps.setIfInBounds d (.func (.func h) #[] (cp.map a.eval)), defers := a.defers } := ⟨_, rfl⟩
                              have hev : A.eval (.tmp d) = .func (.func h) #[] (cp.map a.eval) := by
                                rw [hA]
                                show (a.tmps.setIfInBounds d _).getD d undef = _
                                simp [Array.getD_eq_getD_getElem?, hl]
                              have hrun2 : (execOp A.eval o2).run P W = .ok (.defer { target := .fn (.func h) (cp.map a.eval), args := #[] }) W := by
                                rw [execOp, hop2]
                                simp only [resolve, hcal, hev, ha0, Deferred.ofValue, Sem.run_bind, Sem.run_pure, Result.andThen_ok]
                                simp
                              have hput : a.put o1.dst (.func (.func h) (first.map a.eval) (cp.map a.eval)) = A := by
                                rw [hA, hd1, hf0]
                                simp [Act.put]
                              unfold wpList
                              rw [if_pos (by simp [Region.wanted, hg1])]
                              left
                              unfold Oper.wp
                              rw [execOp, hop1]
                              simp only [Instr.makeFunc, Sem.run_bind, Sem.run_pure, Result.andThen_ok, Oper.upon, hput]
                              unfold wpList
                              rw [if_pos (by simp [Region.wanted, hg2])]
                              left
                              unfold Oper.wp
                              rw [hrun2]
                              simp only [Oper.upon, hd2, Act.put, wpList]
                              rw [hA]
                              exact hQ
                            · cases hd
                          · cases hd
                        · cases hd
                      · cases hd
                    · cases hd
                  · cases hd
                · cases hd
              · cases hd
            · cases hd
          · cases hd
        · cases hd
      · cases hd
  · cases hd
theorem gOps_sound {os : Array Oper} {cs : List Frame} {Q : Exit → Act → List Frame → World → Prop} : ∀ (l : List Oper) (k : Nat) (act act' : List AV) (a : Act), (∀ j, l[j]? = os[k + j]?) → gOps P os l act = some act' → RVs G W act a.tmps.toList →
    (∀ a' : Act, RVs G W act' a'.tmps.toList → a'.defers = a.defers → Q .normal a' cs W) → wpOpsS P os Q (List.range' k l.length) a cs W
  | [], k, act, act', a, hl, h, hA, hQ => by
    cases h
    exact hQ a hA rfl
  | o :: rest, k, act, act', a, hl, h, hA, hQ => by
    have ho : os[k]? = some o := by have := hl 0; simpa using this.symm
    have hl' : ∀ j, rest[j]? = os[k + 1 + j]? := fun j => by
      have := hl (j + 1)
      rw [show k + 1 + j = k + (j + 1) by omega]
      simpa using this
    have hgd := gd_sound (o := o) (all := os) hA
    have take : (match gen P act o with | some r => gOps P os rest (put act o.dst r) | none => none) = some act' → Region.wanted o (yielded os a.tmps) = true → wpOpsS P os Q (List.range' k (rest.length + 1)) a cs W := by
      intro h hw
      split at h
      · rename_i r hr
        obtain ⟨c, rfl, hrun⟩ := gen_run hA hr
        rw [List.range'_succ]
        simp only [wpOpsS, ho, hw, if_true, hrun]
        exact gOps_sound rest (k + 1) _ _ _ hl' h (put_rel hA o.dst (.v c)) (fun a' h1 h2 => hQ a' h1 (h2.trans (put_defers _ _)))
      · cases h
    have skip : gOps P os rest (put act o.dst (.v undef)) = some act' → Region.wanted o (yielded os a.tmps) = false → wpOpsS P os Q (List.range' k (rest.length + 1)) a cs W := by
      intro h hw
      rw [List.range'_succ]
      simp only [wpOpsS, ho, hw, Bool.false_eq_true, if_false]
      exact gOps_sound rest (k + 1) _ _ _ hl' h (put_rel hA o.dst (.v _)) (fun a' h1 h2 => hQ a' h1 (h2.trans (put_defers _ _)))
    unfold gOps at h
    rw [List.length_cons]
    cases e : gd os act o with
    | yes => rw [e] at h hgd; exact take h hgd
    | bad => rw [e] at h; cases h
    | no => rw [e] at h hgd; exact skip h hgd
    | test d want b =>
      rw [e] at h hgd
      obtain ⟨hw, _⟩ := hgd
      simp only at h
      cases hb : b == want with
      | true => rw [hb] at h hw; exact take h hw
      | false => rw [hb] at h hw; exact skip h hw
/-- What recover answers, and in which way the frame is behind it. -/
def recMode (rv : Option Value) : FrameMode := match rv with
  | none => .returning
  | some v => .panicking [{ v, recovered := false }]
def recdMode (rv : Option Value) : FrameMode := match rv with
  | none => .returning
  | some v => .panicking [{ v, recovered := true }]
theorem recG_sound {c : Code} {rv : Option Value} (hr : recG P c act (rv.getD .nilIface) = some act') (hA : RVs G W act a.tmps.toList) {c₀ : Frame} (hc : c₀.mode = recMode rv) {cs : List Frame} {Q : Exit → Act → List Frame → World → Prop}
    (hQ : ∀ a' : Act, RVs G W act' a'.tmps.toList → a'.defers = a.defers → Q .normal a' ({ c₀ with mode := recdMode rv } :: cs) W) : c.wpS P Q a (c₀ :: cs) W := by
  unfold recG at hr
  split at hr
  · rename_i id os draw
    split at hr
    · cases hr
    · split at hr
      · rename_i o rest hos
        split at hr
        · rename_i cl hop
          split at hr
          · rename_i hcal
            split at hr
            · rename_i hg
              split at hr
              · rename_i hargs
                refine wpS_region ?_
                have hsz : os.size = rest.length + 1 := by rw [← Array.length_toList, hos]; rfl
                have ho : os[0]? = some o := by rw [← Array.getElem?_toList, hos]; rfl
                have hl' : ∀ j, rest[j]? = os[1 + j]? := fun j => by
                  rw [← Array.getElem?_toList, hos, Nat.add_comm]; rfl
                rw [hsz, List.range_eq_range', List.range'_succ]
                have ha0 : cl.args = #[] := Array.ext' hargs
                have hrun : (execOp a.eval o).run P W = .ok .recover W := by
                  rw [execOp, hop]
                  simp [resolve, hcal, ha0, invoke, builtin]
                have hw : Region.wanted o (yielded os a.tmps) = true := by simp [Region.wanted, hg]
                simp only [wpOpsS, ho, hw, if_true, hrun]
                cases rv with
                | none =>
                  have hrec : recoverD (c₀ :: cs) = none := by simp [recoverD, hc, recMode]
                  rw [hrec]
                  have hc0 : ({ c₀ with mode := recdMode none } : Frame) = c₀ := by
                    have hc : c₀.mode = .returning := hc
                    show ({ c₀ with mode := .returning } : Frame) = c₀
                    rw [← hc]
                  rw [hc0] at hQ
                  exact gOps_sound rest 1 _ _ _ hl' hr (put_rel hA o.dst (.v _)) (fun a' h1 h2 => hQ a' h1 (h2.trans (put_defers _ _)))
                | some v =>
                  have hrec : recoverD (c₀ :: cs) = some (v, { c₀ with mode := recdMode (some v) } :: cs) := by simp [recoverD, hc, recMode, recdMode]
                  rw [hrec]
                  exact gOps_sound rest 1 _ _ _ hl' hr (put_rel hA o.dst (.v _)) (fun a' h1 h2 => hQ a' h1 (h2.trans (put_defers _ _)))
              · cases hr
            · cases hr
          · cases hr
        · cases hr
      · cases hr
  · cases hr
end
/-- How code is left: with nothing, or with what is panicked with. -/
def endV (e : Exit) : Option (Option Value) := match e with
  | .normal => some none
  | .ret => some none
  | .panic ch => match ch with
    | [en] => match en.recovered with
      | false => match en.goexit with
        | false => some (some en.v)
        | true => none
      | true => none
    | _ => none
  | _ => none
/-- A function that defers a closure: c = (x; the deferring; y), the closure's code is (z; t), z asks what is panicked with. -/
theorem Fs.of_defer {P : Program} {ro : Nat → Option (List Value)} {g : FuncId} {fn : Func} {x d y : Code} {h : FuncId} {cap : List Operand} {s : Nat} (hf : P.funcs[g]? = some fn) (hc : fn.body = some (.seq x (.seq d y))) (hd : defAt? d = some (h, cap, s))
    {fn2 : Func} {z t : Code} (hf2 : P.funcs[h]? = some fn2) (hc2 : fn2.body = some (.seq z t)) (hn2 : fn2.results = #[]) (hnm : (fn2.name == "runtime.NumGoroutine") = false) {args : List AV} {H : AH} {Φ : AV → AH → Prop}
    (h1 : Tr P ro x (args ++ List.replicate (fn.ntmps - args.length) (.v undef)) H fun e a1 H1 => e = .normal ∧ s < a1.length ∧ Tr P ro y (a1.set s (.fn (.func h) [] (cap.map (ev a1)))) H1 fun e2 a2 H2 =>
      ∃ rv ar, endV e2 = some rv ∧ recG P z (cap.map (ev a1) ++ List.replicate (fn2.ntmps - cap.length) (.v undef)) (rv.getD .nilIface) = some ar ∧
        Tr P ro t ar H2 fun e3 _ H3 => (e3 = .normal ∨ e3 = .ret) ∧ ansOk Φ (resOf P ro fn.results.toList a2 H3)) : Fs P ro g args H Φ := by
  intro G W cargs hI hR hA
  refine ⟨⟨fn, hf, by rw [hc]; rfl⟩, ?_⟩
  have hlen : args.length = cargs.size := by have := hA.len; simpa using this
  refine calls_of_wp_defers hf hc (wp_seq (wp_mono (h1 G W { tmps := cargs ++ Array.replicate (fn.ntmps - cargs.size) undef, defers := [] } hI hR ?_) ?_))
  · simp only [Array.toList_append, Array.toList_replicate]
    refine hA.app ?_
    rw [← hlen]
    generalize fn.ntmps - args.length = n
    induction n with
    | zero => exact .nil
    | succ n ih => exact .cons (.v _) ih
  · rintro e a1 W1 ⟨act1, H1, G1, ⟨rfl, hs, hy⟩, e1, i1, r1, d1⟩
    have hs1 : s < a1.tmps.size := by have := r1.len; rw [this] at hs; simpa using hs
    refine wp_seq (def_wp hd hs1 ?_)
    have hcaps : ∀ {G2 : Gh} {W2 : World}, Ext G1 W1 G2 W2 → RVs G2 W2 (cap.map (ev act1)) (cap.map a1.eval) := fun e => by
      have r := r1.ext e
      clear hd hy h1
      induction cap with
      | nil => exact .nil
      | cons o l ih => exact .cons (ev_rel r o) ih
    have r2 : RVs G1 W1 (act1.set s (.fn (.func h) [] (cap.map (ev act1)))) (a1.tmps.setIfInBounds s (.func (.func h) #[] (cap.map a1.eval).toArray)).toList := by
      rw [Array.toList_setIfInBounds]
      exact r1.set s (.fn .nil (by simpa using hcaps (.refl _ _)))
    refine wp_mono (hy G1 W1 { tmps := a1.tmps.setIfInBounds s (.func (.func h) #[] (cap.map a1.eval).toArray), defers := { target := .fn (.func h) (cap.map a1.eval).toArray, args := #[] } :: a1.defers } i1 (hR.ext e1) r2) ?_
    rintro e2 a2 W2 ⟨act2, H2, G2, ⟨rv, ar, hev, hrec, ht⟩, e2', i2, r3, d2⟩
    have hdef : a2.defers = [{ target := .fn (.func h) (cap.map a1.eval).toArray, args := #[] }] := by rw [d2]; show _ :: a1.defers = _; rw [d1]
    have key : ∀ u, u = recMode rv → Leaves P fn a2.tmps (fun e W' => ∃ c G' r H', e = .returned c ∧ Φ r H' ∧ Ext G W G' W' ∧ Inv G' H' W' ∧ RV G' W' r c) a2.defers u W2 := by
      rintro u rfl
      rw [hdef]
      have hcf : (callFunc h (#[] ++ (cap.map a1.eval).toArray)).run P W2 = .ok (.enter h (#[] ++ (cap.map a1.eval).toArray)) W2 := by
        have hn : ¬ fn2.name = "runtime.NumGoroutine" := by simpa using hnm
        have hb' : ¬ fn2.body = none := by rw [hc2]; simp
        simp [callFunc, Go.program, Sem.run, hf2, hn, hb']
      refine leaves_cons (by cases rv <;> simp [recMode]) (by show (callFunc h _).run P W2 = _; exact hcf) ?_
      refine (callsD_of_wpS hf2 hc2 (R := fun e u' w' => e = .returned (.tuple #[]) ∧ u' = recdMode rv ∧ Leaves P fn a2.tmps (fun e W' => ∃ c G' r H', e = .returned c ∧ Φ r H' ∧ Ext G W G' W' ∧ Inv G' H' W' ∧ RV G' W' r c) [] (settle u') w') (fun c₀ cs hm => ?_)).mono ?_
      · refine wpS_seq (recG_sound (act := cap.map (ev act1) ++ List.replicate (fn2.ntmps - cap.length) (.v undef)) (G := G2) hrec ?_ hm ?_)
        · simp only [Array.toList_append, Array.toList_replicate, List.nil_append]
          have hsz : ((#[] : Array Value) ++ (cap.map a1.eval).toArray).size = cap.length := by simp
          rw [hsz]
          refine (hcaps e2').app ?_
          generalize fn2.ntmps - cap.length = n
          induction n with
          | zero => exact .nil
          | succ n ih => exact .cons (.v _) ih
        · intro a3 r4 d3
          refine wpS_of_wp (wp_mono (ht G2 W2 a3 i2 (hR.ext (e1.trans e2')) r4) ?_)
          rintro e3 a4 W4 ⟨act4, H4, G4, ⟨he, hk⟩, e4, i4, r5, d4⟩
          have hnil : a4.defers = [] := by rw [d4, d3]
          have fin : Leaves P fn a2.tmps (fun e W' => ∃ c G' r H', e = .returned c ∧ Φ r H' ∧ Ext G W G' W' ∧ Inv G' H' W' ∧ RV G' W' r c) [] (settle (recdMode rv)) W4 := by
            have hst : settle (recdMode rv) = .returning := by cases rv <;> simp [recdMode, settle]
            rw [hst]
            unfold ansOk at hk
            split at hk
            · rename_i rh hrh
              obtain ⟨r, H5⟩ := rh
              obtain ⟨hS, c, hcr, hr⟩ := resOf_sound (a := a2) i4 (hR.ext ((e1.trans e2').trans e4)) (r3.ext e4) hrh hk.1
              exact ⟨c, hcr, c, G4, r, _, rfl, hk.2, (e1.trans e2').trans e4, inv_tidy (i4.same hS.b hS.t), hr⟩
            · exact hk.elim
          have hres : (results fn2 a4.tmps).run P W4 = .ok (.tuple #[]) W4 := by
            rw [results_eq, hn2]
            simp
          rcases he with rfl | rfl
          · exact ⟨hnil, recdMode rv, rfl, _, hres, rfl, rfl, fin⟩
          · exact ⟨hnil, recdMode rv, rfl, _, hres, rfl, rfl, fin⟩
      · rintro e u' w' ⟨rfl, rfl, hL⟩
        exact hL
    unfold endV at hev
    unfold bodyPostD
    cases e2 with
    | normal => cases hev; exact key _ rfl
    | ret => cases hev; exact key _ rfl
    | panic ch =>
      simp only at hev
      split at hev
      · rename_i en
        obtain ⟨v, rc, ge⟩ := en
        cases rc with
        | true => cases hev
        | false =>
          cases ge with
          | true => cases hev
          | false => cases hev; exact key _ rfl
      · cases hev
    | _ => cases hev
end Go.Proofs.YtlonpmcgejdkkaaGreatDoor.AE
