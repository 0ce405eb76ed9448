/-
  A region that draws its order: the theorem.
-/
import Derived.Test.YtdijakobocnceaaAEDrawC
namespace Go.Proofs.Ytdijakobocnceaa.AE
set_option maxRecDepth 100000
open Go.RowKit
def hb (H : AH) : List (TypeId × List AV) × List Nat := (H.blks, H.tips)
theorem Same.hb {H H' : AH} (h : Same H H') : hb H' = hb H := by unfold AE.hb; rw [h.b, h.t]
theorem Inv.hb {G : Gh} {H H' : AH} {W : World} (h : Inv G H W) (e : hb H' = hb H) : Inv G H' W := h.same (congrArg Prod.fst e) (congrArg Prod.snd e)
def heaps (H0 : AH) (tb : List Ent) : List (List (TypeId × List AV) × List Nat) := hb H0 :: (tb.filter (·.T)).map fun e => hb e.H'
theorem cnt_succ {tb : List Ent} {k : Nat} {e : Ent} (h : tb[k]? = some e) : cnt tb (k + 1) = cnt tb k + if e.T then 1 else 0 := by
  obtain ⟨hk, rfl⟩ := List.getElem?_eq_some_iff.1 h
  unfold cnt
  rw [List.take_succ_eq_append_getElem hk, List.countP_append]
  simp [List.countP_cons]
theorem heaps_at {H0 : AH} {tb : List Ent} {k : Nat} {e : Ent} (h : tb[k]? = some e) (hT : e.T = true) : (heaps H0 tb)[cnt tb k + 1]? = some (hb e.H') := by
  obtain ⟨hk, rfl⟩ := List.getElem?_eq_some_iff.1 h
  unfold heaps cnt
  rw [List.getElem?_cons_succ, List.getElem?_map]
  have e1 : tb.filter (·.T) = (tb.take k).filter (·.T) ++ tb[k] :: (tb.drop (k + 1)).filter (·.T) := by
    conv => lhs; rw [← List.take_append_drop k tb, List.filter_append, List.drop_eq_getElem_cons hk, List.filter_cons_of_pos hT]
  rw [e1, List.getElem?_append_right (by rw [List.countP_eq_length_filter]; exact Nat.le_refl _), List.countP_eq_length_filter, Nat.sub_self]
  rfl
theorem cnt_mono {tb : List Ent} {i j : Nat} (h : i ≤ j) : cnt tb i ≤ cnt tb j := by
  unfold cnt
  have : tb.take i <+: tb.take j := List.take_prefix_take_left h
  exact this.sublist.countP_le
theorem cnt_lt {tb : List Ent} {i j : Nat} {e : Ent} (he : tb[i]? = some e) (hT : e.T = true) (h : i < j) : cnt tb i < cnt tb j := by
  have h1 := cnt_succ he
  have h2 := cnt_mono (tb := tb) (show i + 1 ≤ j by omega)
  rw [hT] at h1
  simp at h1
  omega
theorem cnt_all (tb : List Ent) (k : Nat) (h : tb.length ≤ k) : cnt tb k = tb.countP (·.T) := by unfold cnt; rw [List.take_of_length_le h]
theorem cnt_hit {tb : List Ent} : ∀ n k, k < cnt tb n → ∃ t e, tb[t]? = some e ∧ e.T = true ∧ cnt tb t = k
  | 0, k, h => by simp [cnt] at h
  | n + 1, k, h => by
    cases he : tb[n]? with
    | none =>
      have hl := List.getElem?_eq_none_iff.1 he
      rw [cnt_all tb _ (by omega), ← cnt_all tb n hl] at h
      exact cnt_hit n k h
    | some e =>
      rw [cnt_succ he] at h
      by_cases hk : k < cnt tb n
      · exact cnt_hit n k hk
      · cases hT : e.T with
        | false => rw [hT] at h; simp at h; omega
        | true => rw [hT] at h; simp at h; exact ⟨n, e, he, hT, by omega⟩
section
variable {P : Program} {ro : Nat → Option (List Value)} {C : Hd} {mu : FuncId → Bool} {all : Array Oper}
/-- What is written down of each operation. -/
theorem RunOk.spec {os : List Oper} {tb0 : List Ent} {act0 : List AV} {H0 : AH} (hS : Stat os all) (htb : tb0.length = os.length) {l : List Oper} {act : List AV} {H : AH} {tb : List Ent} {act' : List AV} {H' : AH} (h : RunOk P ro C mu all l act H tb act' H') :
    ∀ k, os.drop k = l → tb0.drop k = tb → IsL os tb0 act0 (fun j => decide (j < k)) act → (heaps H0 tb0)[cnt tb0 k]? = some (hb H) →
      (∀ (i : Nat) (o : Oper) (e : Ent), k ≤ i → os[i]? = some o → tb0[i]? = some e → Ev P ro C mu all e o ∧ IsL os tb0 act0 (fun j => decide (j < i)) e.act ∧ (heaps H0 tb0)[cnt tb0 i]? = some (hb e.H)) ∧
      IsL os tb0 act0 (fun j => decide (j < os.length)) act' ∧ (heaps H0 tb0)[cnt tb0 os.length]? = some (hb H') := by
  induction h with
  | nil =>
    intro k hk hkt hL hH
    have hlen : os.length ≤ k := List.drop_eq_nil_iff.1 hk
    refine ⟨fun i o e hi ho _ => ?_, ?_, ?_⟩
    · have := (List.getElem?_eq_some_iff.1 ho).1; omega
    · refine ⟨hL.1, fun j o e s hj he hs hlt _ => hL.2.1 j o e s hj he hs hlt ?_, fun s hs => hL.2.2 s fun j o hj hs' => ?_⟩
      · have := (List.getElem?_eq_some_iff.1 hj).1; simp; omega
      · have h1 := hs j o hj hs'
        have := (List.getElem?_eq_some_iff.1 hj).1
        simp at h1; omega
    · rw [cnt_all tb0 _ (by omega)]
      rwa [cnt_all tb0 _ (by omega)] at hH
  | @cons o l e tb act' H H' hsm hsc hev ht ih =>
    intro k hk hkt hL hH
    rw [← hsm.hb] at hH
    have hko : os[k]? = some o := by rw [← List.head?_drop, hk]; rfl
    have hke : tb0[k]? = some e := by rw [← List.head?_drop, hkt]; rfl
    have hk1 : os.drop (k + 1) = l := by rw [← List.tail_drop, hk]; rfl
    have hkt1 : tb0.drop (k + 1) = tb := by rw [← List.tail_drop, hkt]; rfl
    have hL1 := hL.step hS hko hke (L' := fun j => decide (j < k + 1)) (fun j _ => by
      by_cases h1 : j < k
      · simp [h1]; omega
      · by_cases h2 : j = k
        · subst h2; simp
        · have : ¬ j < k + 1 := by omega
          simp [h1, h2, this])
    have hH1 : (heaps H0 tb0)[cnt tb0 (k + 1)]? = some (hb e.H') := by
      rw [cnt_succ hke]
      cases hT : e.T with
      | true => simp only [if_true]; exact heaps_at hke hT
      | false => rw [(hev.same hT).hb]; simpa using hH
    obtain ⟨i1, i2, i3⟩ := ih (k + 1) hk1 hkt1 hL1 hH1
    refine ⟨fun i o' e' hi ho he => ?_, i2, i3⟩
    by_cases hik : i = k
    · subst hik
      rw [hko] at ho; cases ho
      rw [hke] at he; cases he
      exact ⟨hev, hL, hH⟩
    · exact i1 i o' e' (by omega) ho he
theorem ev_of {act act' : List AV} {o : Oper} (h : ∀ s ∈ o.looksAt all, act[s]? = act'[s]?) : (∀ x ∈ o.op.operands.toList, ev act x = ev act' x) ∧ gd all act o = gd all act' o := by
  constructor
  · intro x hx
    cases x with
    | tmp t =>
      have : t ∈ o.looksAt all := by
        unfold Oper.looksAt
        refine List.mem_append_left _ ?_
        rw [List.mem_filterMap]
        exact ⟨.tmp t, hx, rfl⟩
      simp only [ev, List.getD_eq_getElem?_getD, h t this]
    | _ => rfl
  · unfold gd
    cases hg : o.guard with
    | none => rfl
    | some jw =>
      obtain ⟨j, w⟩ := jw
      simp only
      cases hj : all[j]? with
      | none => rfl
      | some p =>
        simp only
        cases hd : p.dst with
        | none => rfl
        | some d =>
          have : d ∈ o.looksAt all := by
            unfold Oper.looksAt
            refine List.mem_append_right _ ?_
            simp [hg, hj, hd]
          simp only [h d this]
theorem wantA_eq {act : List AV} {o : Oper} {G : Gh} {W : World} {a : Act} (hA : RVs G W act a.tmps.toList) (hnb : gd all act o ≠ .bad) : Region.wanted o (yielded all a.tmps) = wantA all act o := by
  have := gd_sound (o := o) (all := all) hA
  unfold wantA
  split <;> rename_i e <;> rw [e] at this
  · exact this
  · exact this
  · exact absurd e hnb
  · exact this.1
def lst (L : Array Bool) : Nat → Bool := fun i => L.getD i true
theorem lst_set {L : Array Bool} {i j : Nat} (hi : i < L.size) : lst (L.setIfInBounds i true) j = (lst L j || j == i) := by
  unfold lst
  simp only [Array.getD_eq_getD_getElem?, Array.getElem?_setIfInBounds]
  by_cases h : i = j
  · subst h; simp [hi]
  · have : ¬ j = i := fun e => h e.symm
    simp [h, this]
/-- How many have not come yet. -/
def open_ (n : Nat) (L : Array Bool) : Nat := (List.range n).countP fun i => !lst L i
theorem open_set {n i : Nat} {L : Array Bool} (hi : i < n) (hs : L.size = n) (hu : lst L i = false) : open_ n (L.setIfInBounds i true) < open_ n L := by
  unfold open_
  have hmem : i ∈ List.range n := List.mem_range.2 hi
  obtain ⟨l1, l2, hl⟩ := List.append_of_mem hmem
  have hnd : (List.range n).Nodup := List.nodup_range
  rw [hl] at hnd ⊢
  simp only [List.countP_append, List.countP_cons, hu]
  have h1 : lst (L.setIfInBounds i true) i = true := by rw [lst_set (by omega)]; simp
  have hle : ∀ l : List Nat, l.countP (fun j => !lst (L.setIfInBounds i true) j) ≤ l.countP (fun j => !lst L j) := fun l => List.countP_mono_left fun j _ h => by
    rw [lst_set (by omega)] at h
    simp at h ⊢
    exact h.1
  have := hle l1
  have := hle l2
  simp [h1]
  omega
theorem at_bt {H : AH} {b : List (TypeId × List AV)} {t : List Nat} {id : Nat} (h : b[id]? = H.blks[id]?) : (H.bt b t).at id = H.at id := by
  show (match b[id]? with
    | some b => match Nat.beq b.1 999998 with
      | true => none
      | false => match Nat.beq b.1 999997 with
        | true => none
        | false => some b
    | none => none) = _
  rw [h]; rfl
theorem ld_free {act : List AV} {H H' : AH} {o : Oper} {r : AV} {b : List (TypeId × List AV)} {t : List Nat} {ty : TypeId} {a : Operand} {id : Nat} (hop : o.op = .load ty a) (ha : pid? (ev act a) = some id) (hb : b[id]? = H.blks[id]?)
    (h : op2 P ro act H o = some (r, H')) : op2 P ro act (H.bt b t) o = some (r, H'.bt b t) := by
  have m1 : ∀ X : AH, op2 P ro act X o = load P ro X ty (ev act a) := fun X => by
    unfold op2 opN opM opX op1 op0
    simp only [hop]
  rw [m1] at h ⊢
  cases hx : ev act a with
  | ptr i off =>
    rw [hx] at ha h
    cases ha
    unfold load at h ⊢
    dsimp only at h ⊢
    rw [at_bt hb]
    cases hat : H.at id with
    | none => rw [hat] at h; cases h
    | some c =>
      rw [hat] at h
      dsimp only at h ⊢
      cases hl : loadFrom P ty c.2 off with
      | none => rw [hl] at h; cases h
      | some x => rw [hl] at h; cases h; rfl
  | pi i off =>
    rw [hx] at ha h
    cases ha
    unfold load at h ⊢
    dsimp only at h ⊢
    rw [at_bt hb, show (H.bt b t).sy = H.sy from rfl]
    cases hat : H.at id with
    | none => rw [hat] at h; cases h
    | some c =>
      rw [hat] at h
      dsimp only at h ⊢
      cases hsy : H.sy with
      | true =>
        rw [hsy] at h
        dsimp only at h ⊢
        cases h1 : sz? P ty with
        | none => rw [h1] at h; cases h
        | some n =>
          cases h2 : cellTys P 8 ty with
          | none => rw [h1, h2] at h; cases h
          | some ts =>
            rw [h1, h2] at h
            dsimp only at h ⊢
            cases h3 : loadFrom P ty (expandC P (fun i => c.2.getD (off + i) .dead) 0 ts) 0 with
            | none => rw [h3] at h; cases h
            | some x => rw [h3] at h; cases h; rfl
      | false =>
        rw [hsy] at h
        dsimp only at h ⊢
        cases hl : loadFrom P ty c.2 off with
        | none => rw [hl] at h; cases h
        | some x => rw [hl] at h; cases h; rfl
  | _ => rw [hx] at ha; cases ha
theorem alloc_app {act : List AV} {H H' : AH} {o : Oper} {r : AV} (ho : allocOp o = true) (h : op2 P ro act H o = some (r, H')) : ∃ x, H'.blks = H.blks ++ [x] := by
  unfold allocOp at ho
  split at ho
  · rename_i ty hop
    unfold op2 opN opM opX op1 op0 at h
    simp only [hop] at h
    repeat' (split at h)
    all_goals first
      | (cases h; exact ⟨_, rfl⟩)
      | (cases h; done)
      | (exfalso; simp_all; done)
  · cases ho
theorem heaps_ld {os : List Oper} {tb : List Ent} {H0 : AH} {id : Nat}
    (sp : ∀ (i : Nat) (o : Oper) (e : Ent), os[i]? = some o → tb[i]? = some e → Ev P ro C mu all e o ∧ (heaps H0 tb)[cnt tb i]? = some (hb e.H)) :
    ∀ (d j : Nat), (∀ (t : Nat) (e : Ent), tb[t]? = some e → e.T = true → j ≤ cnt tb t → cnt tb t < j + d → (id < e.H.blks.length ∧ ∃ p, os[t]? = some p ∧ allocOp p = true) ∨ ((∃ p, os[t]? = some p) ∧ e.H.blks[id]? = e.H'.blks[id]?)) → j + d ≤ tb.countP (·.T) →
      ∀ x y, (heaps H0 tb)[j]? = some x → (heaps H0 tb)[j + d]? = some y → x.1[id]? = y.1[id]?
  | 0, j, _, _, x, y, hx, hy => by
    rw [Nat.add_zero, hx] at hy
    cases hy; rfl
  | d + 1, j, ht, hle, x, y, hx, hy => by
    obtain ⟨t, e, h1, h2, h3⟩ := cnt_hit (tb := tb) tb.length (j + d) (by rw [cnt_all tb _ (Nat.le_refl _)]; omega)
    obtain ⟨p, h5⟩ : ∃ p, os[t]? = some p := by
      rcases ht t e h1 h2 (by omega) (by omega) with ⟨_, p, h5, _⟩ | ⟨⟨p, h5⟩, _⟩
      · exact ⟨p, h5⟩
      · exact ⟨p, h5⟩
    obtain ⟨s1, s2⟩ := sp t p e h5 h1
    have h7 := heaps_at (H0 := H0) h1 h2
    rw [h3] at s2 h7
    have ih := heaps_ld sp d j (fun t e a b c c' => ht t e a b c (by omega)) (by omega) x _ hx s2
    rw [ih]
    rw [show j + (d + 1) = j + d + 1 by omega, h7] at hy
    cases hy
    show e.H.blks[id]? = e.H'.blks[id]?
    rcases ht t e h1 h2 (by omega) (by omega) with ⟨h4, p', h5', h6⟩ | ⟨_, hsame⟩
    rotate_left
    · exact hsame
    rw [h5] at h5'
    cases h5'
    rcases s1.2 with ⟨_, q2, _⟩ | ⟨_, _, q3, _⟩
    · have hnc : call? e.act p = none := by
        unfold allocOp at h6
        split at h6
        · rename_i hop
          unfold call?
          rw [hop]
        · cases h6
      have q2 := stepD_op hnc (by
        unfold allocOp at h6
        split at h6
        · rename_i hop
          unfold inv?
          rw [hop]
        · cases h6) q2
      obtain ⟨z, hz⟩ := alloc_app h6 q2
      rw [hz, List.getElem?_append_left h4]
    · rw [q3]
theorem slotOnly_inv {act act' : List AV} {o : Oper} (h : slotOnly act o = true) : inv? P act' o = none := by
  unfold inv?
  split
  · rename_i c hop
    split
    · rename_i recv name hcal
      simp only [slotOnly, hop, hcal] at h
      cases h
    · rfl
  · rfl
theorem ldB_inv {act act' : List AV} {o : Oper} (h : ldB act o = true) : inv? P act' o = none := by
  unfold inv?
  split
  · rename_i c hop
    simp only [ldB, hop] at h
    cases h
  · rfl
theorem dr_go (hN : Named P) (hC : HSound P ro C) {os : Array Oper} {tb : List Ent} {act0 act1 : List AV} {H0 H1 : AH} (hS : Stat os.toList os) (hrun : RunOk P ro C mu os os.toList act0 H0 tb act1 H1) (hF : Flat C mu) (hchk : chk mu os.toList (bsets os.toList []) tb = true) (hP : ∀ x ∈ chkP os.toList (bsets os.toList []) tb, x.1 = true ∨ x.2) (hP2 : ∀ x ∈ chkC (fun act H o K => match stepD P ro C mu act H o with
      | some rh => K rh.1 rh.2
      | none => none) mu os (bsets os.toList []) H0 tb, x.1 = true ∨ x.2) (hcds : ∀ e ∈ tb, e.H'.cd)
    {G0 : Gh} {W0 : World} (hRo : Ro ro G0 W0) {ds : List Deferred} {Q : Exit → Act → World → Prop} (hQ : ∀ (a : Act) G W, Ext G0 W0 G W → Inv G H1 W → RVs G W act1 a.tmps.toList → a.defers = ds → Q .normal a W) :
    ∀ (fuel : Nat) (L : Array Bool) (k : Nat) (a : Act) (W : World), L.size = os.size → Dn os.toList (lst L) → open_ os.size L ≤ fuel → (∀ (t : Nat) (e : Ent), tb[t]? = some e → e.T = true → (lst L t = true ↔ cnt tb t < k)) → k ≤ tb.countP (·.T) →
      (∃ G H actL, Ext G0 W0 G W ∧ (heaps H0 tb)[k]? = some (hb H) ∧ Inv G H W ∧ RVs G W actL a.tmps.toList ∧ IsL os.toList tb act0 (lst L) actL ∧ a.defers = ds) → wpAny P .any os Q fuel L a W := by
  have htb : tb.length = os.toList.length := hrun.len
  obtain ⟨sp1, sp2, sp3⟩ := hrun.spec (tb0 := tb) (act0 := act0) (H0 := H0) hS htb 0 rfl rfl ⟨rfl, fun j o e s _ _ _ _ h => by simp at h, fun s _ => rfl⟩ (by simp [cnt, heaps])
  have hall : ∀ (L : Array Bool) (k : Nat) (a : Act) (W : World), (∀ i, i < os.size → lst L i = true) → (∀ (t : Nat) (e : Ent), tb[t]? = some e → e.T = true → (lst L t = true ↔ cnt tb t < k)) → k ≤ tb.countP (·.T) →
      (∃ G H actL, Ext G0 W0 G W ∧ (heaps H0 tb)[k]? = some (hb H) ∧ Inv G H W ∧ RVs G W actL a.tmps.toList ∧ IsL os.toList tb act0 (lst L) actL ∧ a.defers = ds) → Q .normal a W := by
    rintro L k a W hl hT hk ⟨G, H, actL, e1, e2, e3, e4, e5, e6⟩
    have hkm : k = cnt tb os.toList.length := by
      rw [cnt_all tb _ (by omega)]
      rcases Nat.lt_or_ge k (tb.countP (·.T)) with h | h
      · exfalso
        rw [← cnt_all tb os.toList.length (by omega)] at h
        obtain ⟨t, e, h1, h2, h3⟩ := cnt_hit _ k h
        have := (hT t e h1 h2).1 (hl t (by have := (List.getElem?_eq_some_iff.1 h1).1; rw [htb] at this; simpa using this))
        omega
      · omega
    rw [hkm, sp3] at e2
    have e2 := (Option.some.inj e2)
    have : actL = act1 := e5.all sp2 htb (fun j hj => hl j (by simpa using hj)) (fun j hj => by simpa using hj)
    subst this
    exact hQ a G W e1 (e3.hb e2) e4 e6
  have hready : ∀ (L : Array Bool) (i : Nat), i ∈ Region.ready .any os L → i < os.size ∧ lst L i = false ∧ Rd os.toList (lst L) i := by
    intro L i hi
    obtain ⟨h1, o, h2, h3⟩ := mem_ready.1 hi
    refine ⟨(Array.getElem?_eq_some_iff.1 h2).1, h1, fun p hp e he hb => ?_⟩
    have : p = o := by rw [Array.getElem?_toList] at hp; rw [h2] at hp; cases hp; rfl
    subst this
    have := h3 e (by simpa using he) hb
    unfold lst
    simp only [Array.getD_eq_getD_getElem?] at this ⊢
    cases hq : L[e.on]? with
    | none => rfl
    | some b => rw [hq] at this; exact this
  have hnone : ∀ L : Array Bool, L.size = os.size → Region.ready .any os L = [] → ∀ i, i < os.size → lst L i = true := by
    intro L hs h i
    induction i using Nat.strongRecOn with
    | _ i ih =>
      intro hi
      cases hli : lst L i with
      | true => rfl
      | false =>
        exfalso
        have : i ∈ Region.ready .any os L := by
          refine mem_ready.2 ⟨hli, os[i], Array.getElem?_eq_getElem hi, fun e he hb => ?_⟩
          have hlt := hS.back i os[i] (by rw [Array.getElem?_toList]; exact Array.getElem?_eq_getElem hi) e (by simpa using he) hb
          have := ih e.on hlt (by omega)
          unfold lst at this
          simp only [Array.getD_eq_getD_getElem?] at this ⊢
          rw [Array.getElem?_eq_getElem (show e.on < L.size by omega)] at this ⊢
          exact this
        rw [h] at this; cases this
  intro fuel
  induction fuel with
  | zero =>
    intro L k a W hsz hD ho hT hk hst
    have hl : ∀ i, i < os.size → lst L i = true := fun i hi => by
      unfold open_ at ho
      have h0 : (List.range os.size).countP (fun i => !lst L i) = 0 := by omega
      rw [List.countP_eq_zero] at h0
      have := h0 i (List.mem_range.2 hi)
      simpa using this
    refine ⟨?_, hall L k a W hl hT hk hst⟩
    rcases hr : Region.ready .any os L with _ | ⟨i, r⟩
    · rfl
    · exfalso
      obtain ⟨h1, h2, _⟩ := hready L i (by rw [hr]; exact List.mem_cons_self ..)
      rw [hl i h1] at h2; cases h2
  | succ fuel ih =>
    intro L k a W hsz hD ho hT hk hst
    refine ⟨fun hr => hall L k a W (hnone L hsz hr) hT hk hst, fun i hi => ?_⟩
    obtain ⟨hin, hun, hrd⟩ := hready L i hi
    obtain ⟨G, H, actL, e1, e2, e3, e4, e5, e6⟩ := hst
    have hoi : os[i]? = some os[i] := Array.getElem?_eq_getElem hin
    have hoi' : os.toList[i]? = some os[i] := by rw [Array.getElem?_toList]; exact hoi
    obtain ⟨e, hei⟩ : ∃ e, tb[i]? = some e := ⟨_, List.getElem?_eq_getElem (show i < tb.length by rw [htb]; simpa using hin)⟩
    obtain ⟨s1, s2, s3⟩ := sp1 i os[i] e (Nat.zero_le _) hoi' hei
    generalize os[i] = o at hoi hoi' s1
    -- what it looks at is there
    have hag := IsL.agree hS e5 s2 hoi' htb (fun j hb hji => ⟨bs_spec hS.back hD i j hb hrd, by simpa using hji⟩) fun j hb hij => by
      refine ⟨?_, by simp; omega⟩
      cases hlj : lst L j with
      | false => rfl
      | true =>
        have : lst L i = true := bs_spec hS.back hD j i hb (fun p hp => hD j p hp hlj)
        rw [hun] at this; cases this
    obtain ⟨g1, g2⟩ := ev_of hag
    -- how many turns have come
    have hmay : may (bsets os.toList []) tb i k = true := by
      unfold may
      rw [List.all_eq_true]
      rintro ⟨e', t⟩ het
      rw [List.mem_zipIdx_iff_getElem?] at het
      simp only at het ⊢
      cases hT' : e'.T with
      | false => rfl
      | true =>
        simp only [Bool.not_true, Bool.false_or, Bool.and_eq_true, Bool.or_eq_true]
        have hiff := hT t e' het hT'
        refine ⟨?_, ?_⟩
        · cases hb : ((bsets os.toList []).getD i 0).testBit t with
          | false => exact .inl rfl
          | true => exact .inr (decide_eq_true (hiff.1 (bs_spec hS.back hD i t hb hrd)))
        · by_cases hlt : lst L t = true
          · left
            have hti : ¬ t = i := by rintro rfl; rw [hun] at hlt; cases hlt
            have hbit : ((bsets os.toList []).getD t 0).testBit i = false := by
              cases hb : ((bsets os.toList []).getD t 0).testBit i with
              | false => rfl
              | true =>
                have := bs_spec hS.back hD t i hb (fun p hp => hD t p hp hlt)
                rw [hun] at this; cases this
            rw [hbit]; simp [hti]
          · right
            have : ¬ cnt tb t < k := fun h => hlt (hiff.2 h)
            exact decide_eq_true (by omega)
    have hck := zip_all hchk i o hoi'
    simp only [hei] at hck
    rw [List.all_eq_true] at hck
    have hck := hck k (List.mem_range.2 (by omega))
    rw [hmay] at hck
    simp only [Bool.not_true, Bool.false_or, Bool.or_eq_true, Bool.and_eq_true, beq_iff_eq] at hck
    -- it comes to what is written down
    have hem : e ∈ tb := List.mem_of_getElem? hei
    have hnb : gd os actL o ≠ .bad := by rw [g2]; exact s1.1
    have hcome : ∃ X X', Inv G X W ∧ X'.cd ∧ (heaps H0 tb)[if e.T then k + 1 else k]? = some (hb X') ∧ (e.T = true → k = cnt tb i) ∧ ((wantA os actL o = true ∧ stepD P ro C mu actL X o = some (e.r, X')) ∨ (wantA os actL o = false ∧ e.r = .v undef ∧ X' = X)) := by
      have hw : wantA os actL o = wantA os e.act o := by unfold wantA; rw [g2]
      rw [hw]
      by_cases hkc : k = cnt tb i
      · subst hkc
        have e2' := e2
        rw [s3] at e2'
        have e2' := Option.some.inj e2'
        refine ⟨e.H, e.H', e3.hb e2', hcds e hem, ?_, fun _ => rfl, ?_⟩
        · cases hT' : e.T with
          | true => rw [if_pos rfl]; exact heaps_at hei hT'
          | false => simp only [Bool.false_eq_true, if_false]; rw [(s1.same hT').hb]; exact s3
        · rw [stepD_congr (P := P) (ro := ro) (C := C) (mu := mu) g1]
          rcases s1.2 with ⟨q1, q2, _⟩ | ⟨q1, q2, q3, _⟩
          · exact .inl ⟨q1, q2⟩
          · exact .inr ⟨q1, q2, q3⟩
      rcases hck with (((hk' | ⟨⟨hnT, hso⟩, hnc⟩) | ⟨hnT, hfl⟩) | ⟨⟨hnT, hnc⟩, hld⟩) | hag
      · exact absurd hk' hkc
      · have hnT' : e.T = false := by simpa using hnT
        refine ⟨e.H.bt H.blks H.tips, e.H'.bt H.blks H.tips, e3.hb rfl, hcds e hem, (by simp only [hnT', Bool.false_eq_true, if_false]; exact e2), (fun h => (by rw [hnT'] at h; cases h)), ?_⟩
        rw [stepD_congr (P := P) (ro := ro) (C := C) (mu := mu) g1]
        rcases s1.2 with ⟨q1, q2, _⟩ | ⟨q1, q2, q3, _⟩
        · refine .inl ⟨q1, ?_⟩
          cases hcl : call? e.act o with
          | none => exact stepD_to hcl (slot_free hso (stepD_op hcl (slotOnly_inv hso) q2))
          | some ga => rw [hcl] at hnc; cases hnc
        · exact .inr ⟨q1, q2, by rw [q3]⟩
      · have hnT' : e.T = false := by simpa using hnT
        refine ⟨e.H.bt H.blks H.tips, e.H'.bt H.blks H.tips, e3.hb rfl, hcds e hem, (by simp only [hnT', Bool.false_eq_true, if_false]; exact e2), (fun h => (by rw [hnT'] at h; cases h)), ?_⟩
        rw [stepD_congr (P := P) (ro := ro) (C := C) (mu := mu) g1]
        rcases s1.2 with ⟨q1, q2, _⟩ | ⟨q1, q2, q3, _⟩
        · refine .inl ⟨q1, ?_⟩
          unfold flat at hfl
          unfold stepD at q2 ⊢
          cases hcl : call? e.act o with
          | none => rw [hcl] at hfl; cases hfl
          | some ga =>
            rw [hcl] at q2 hfl
            simp only [Bool.and_eq_true] at q2 hfl ⊢
            have hf := hF ga.1 hfl.1
            cases hmu : mu ga.1 with
            | true => have := hfl.2; rw [hmu] at this; cases this
            | false =>
              rw [hmu] at q2
              simp only [Bool.false_eq_true, if_false] at q2 ⊢
              split at q2
              · rename_i rh hrh
                have h2 := hf _ _ _ _ (retq_some (r := rh.1) (H' := rh.2) hrh) H.blks H.tips H.blks.length H.tips.length
                have h3 : C ga.1 ga.2 { e.H.bt H.blks H.tips with mb := (e.H.bt H.blks H.tips).blks.length, mc := (e.H.bt H.blks H.tips).tips.length } = _ := h2
                rw [h3]
                simp only [ret?]
                split at q2
                · rename_i r' hr'
                  have q2 := Option.some.inj q2
                  simp only [Prod.mk.injEq] at q2
                  rw [← q2.1, ← q2.2]
                  rfl
                · cases q2
              · cases q2
        · exact .inr ⟨q1, q2, by rw [q3]⟩
      · have hnT' : e.T = false := by simpa using hnT
        refine ⟨e.H.bt H.blks H.tips, e.H'.bt H.blks H.tips, e3.hb rfl, hcds e hem, (by simp only [hnT', Bool.false_eq_true, if_false]; exact e2), (fun h => (by rw [hnT'] at h; cases h)), ?_⟩
        rw [stepD_congr (P := P) (ro := ro) (C := C) (mu := mu) g1]
        rcases s1.2 with ⟨q1, q2, _⟩ | ⟨q1, q2, q3, _⟩
        · refine .inl ⟨q1, ?_⟩
          cases hcl : call? e.act o with
          | some ga => rw [hcl] at hnc; cases hnc
          | none =>
            have q2 := stepD_op hcl (ldB_inv hld) q2
            refine stepD_to hcl ?_
            unfold ldB at hld
            split at hld
            · rename_i ty a hop
              split at hld
              · rename_i id hev
                have hall2 : ∀ (t : Nat) (e' : Ent), tb[t]? = some e' → e'.T = true → min k (cnt tb i) ≤ cnt tb t → cnt tb t < max k (cnt tb i) → (id < e'.H.blks.length ∧ ∃ p, os.toList[t]? = some p ∧ allocOp p = true) ∨ ((∃ p, os.toList[t]? = some p) ∧ e'.H.blks[id]? = e'.H'.blks[id]?) := fun t e' ht hT' m1 m2 => by
                  have hmem : (ldC os.toList (bsets os.toList []) tb i k id e' t, e'.H.blks[id]? = e'.H'.blks[id]?) ∈ chkP os.toList (bsets os.toList []) tb := by
                    unfold chkP
                    refine List.mem_flatMap.2 ⟨(o, i), List.mem_zipIdx_iff_getElem?.2 hoi', ?_⟩
                    simp only [hei]
                    refine List.mem_flatMap.2 ⟨k, List.mem_range.2 (by omega), ?_⟩
                    unfold ldQ
                    simp only [hop, hev]
                    exact List.mem_map.2 ⟨(e', t), List.mem_zipIdx_iff_getElem?.2 ht, rfl⟩
                  have := hP _ hmem
                  unfold ldC at this
                  simp only [hmay, hT', Bool.not_true, Bool.false_or, Bool.or_eq_true, Bool.and_eq_true, decide_eq_true_eq] at this
                  rcases this with ((h | h) | ⟨h1, h2⟩) | h3
                  · omega
                  · omega
                  rotate_left
                  · refine .inr ⟨?_, h3⟩
                    have := (List.getElem?_eq_some_iff.1 ht).1
                    rw [htb] at this
                    exact ⟨_, List.getElem?_eq_getElem this⟩
                  · refine .inl ⟨h1, ?_⟩
                    cases hot : os.toList[t]? with
                    | none => rw [hot] at h2; cases h2
                    | some p => rw [hot] at h2; exact ⟨p, rfl, h2⟩
                have hci : cnt tb i ≤ tb.countP (·.T) := by
                  have := cnt_mono (tb := tb) (show i ≤ max i tb.length by omega)
                  rw [cnt_all tb (max i tb.length) (by omega)] at this
                  exact this
                have heq : H.blks[id]? = e.H.blks[id]? := by
                  have sp : ∀ (i : Nat) (o : Oper) (e : Ent), os.toList[i]? = some o → tb[i]? = some e → Ev P ro C mu os e o ∧ (heaps H0 tb)[cnt tb i]? = some (hb e.H) := fun i o e a b => ⟨(sp1 i o e (Nat.zero_le _) a b).1, (sp1 i o e (Nat.zero_le _) a b).2.2⟩
                  rcases Nat.le_total k (cnt tb i) with hkc | hkc
                  · obtain ⟨d, hd⟩ := Nat.exists_eq_add_of_le hkc
                    exact heaps_ld sp d k (fun t e' a b m1 m2 => hall2 t e' a b (by omega) (by omega)) (by omega) _ _ e2 (by rw [← hd]; exact s3)
                  · obtain ⟨d, hd⟩ := Nat.exists_eq_add_of_le hkc
                    exact (heaps_ld sp d (cnt tb i) (fun t e' a b m1 m2 => hall2 t e' a b (by omega) (by omega)) (by omega) _ _ s3 (by rw [← hd]; exact e2)).symm
                exact ld_free hop hev heq q2
              · cases hld
            · cases hld
        · exact .inr ⟨q1, q2, by rw [q3]⟩
      · have hag0 := hag
        unfold againB at hag
        simp only [Bool.and_eq_true, Bool.not_eq_true'] at hag
        obtain ⟨⟨⟨hnT', hca⟩, htu⟩, _⟩ := hag
        rcases s1.2 with ⟨q1, q2, _⟩ | ⟨q1, q2, q3, _⟩
        · have hmem : (!may (bsets os.toList []) tb i k || (k == cnt tb i) || !wantA os e.act o, againP (fun act H o K => match stepD P ro C mu act H o with
              | some rh => K rh.1 rh.2
              | none => none) H0 tb k e o) ∈ chkC (fun act H o K => match stepD P ro C mu act H o with
              | some rh => K rh.1 rh.2
              | none => none) mu os (bsets os.toList []) H0 tb := by
            unfold chkC
            refine List.mem_flatMap.2 ⟨(o, i), List.mem_zipIdx_iff_getElem?.2 hoi', ?_⟩
            simp only [hei, hag0]
            exact List.mem_map.2 ⟨k, List.mem_range.2 (by omega), rfl⟩
          have hq := hP2 _ hmem
          have hkb : (k == cnt tb i) = false := by simpa using hkc
          simp only [hmay, q1, hkb, Bool.not_true, Bool.or_self, Bool.false_eq_true, false_or] at hq
          unfold againP at hq
          have hk2 : heapK H0 tb k = some (H.blks, H.tips) := e2
          rw [hk2] at hq
          cases hs : stepD P ro C mu e.act (e.H.bt H.blks H.tips) o with
          | none =>
            have hs' : stepD P ro C mu e.act { e.H with blks := H.blks, tips := H.tips } o = none := hs
            simp only [hs'] at hq
          | some rh =>
            have hs' : stepD P ro C mu e.act { e.H with blks := H.blks, tips := H.tips } o = some rh := hs
            simp only [hs'] at hq
            have hsame : hb rh.2 = hb H := by
              unfold stepD at hs
              unfold turns at htu
              cases hcl : call? e.act o with
              | none => rw [hcl] at hca; cases hca
              | some ga =>
                rw [hcl] at hs htu
                simp only at htu
                simp only [htu, Bool.false_eq_true, if_false] at hs
                split at hs
                · split at hs
                  · cases hs; rfl
                  · cases hs
                · cases hs
            refine ⟨e.H.bt H.blks H.tips, rh.2, e3.hb rfl, hq.2, ?_, (fun h => (by rw [hnT'] at h; cases h)), .inl ⟨q1, ?_⟩⟩
            · simp only [hnT', Bool.false_eq_true, if_false]; rw [hsame]; exact e2
            · rw [stepD_congr (P := P) (ro := ro) (C := C) (mu := mu) g1, hs, ← hq.1]
        · refine ⟨e.H.bt H.blks H.tips, e.H'.bt H.blks H.tips, e3.hb rfl, hcds e hem, (by simp only [hnT', Bool.false_eq_true, if_false]; exact e2), (fun h => (by rw [hnT'] at h; cases h)), ?_⟩
          rw [stepD_congr (P := P) (ro := ro) (C := C) (mu := mu) g1]
          exact .inr ⟨q1, q2, by rw [q3]⟩
    obtain ⟨X, X', cI, ccd, c1, c2, c3⟩ := hcome
    -- and then the rest
    have hgo : ∀ G' W' (a' : Act), Ext G W G' W' → Inv G' X' W' → RVs G' W' (put actL o.dst e.r) a'.tmps.toList → a'.defers = a.defers → wpAny P .any os Q fuel (L.setIfInBounds i true) a' W' := by
      intro G' W' a' x1 x2 x3 x4
      have hset : ∀ j, lst (L.setIfInBounds i true) j = (lst L j || j == i) := fun j => lst_set (by omega)
      refine ih _ (if e.T then k + 1 else k) a' W' (by simpa using hsz) ?_ ?_ ?_ ?_ ⟨G', X', _, e1.trans x1, c1, x2, x3, e5.step hS hoi' hei (fun j _ => hset j), x4.trans e6⟩
      · intro j p hj hlj e' he' hb
        rw [hset] at hlj ⊢
        rw [Bool.or_eq_true] at hlj ⊢
        left
        rcases hlj with hlj | hlj
        · exact hD j p hj hlj e' he' hb
        · have : j = i := by simpa using hlj
          subst this
          exact hrd p hj e' he' hb
      · have := open_set hin hsz hun; omega
      · intro t e' ht hT'
        rw [hset, Bool.or_eq_true, beq_iff_eq]
        have hiff := hT t e' ht hT'
        cases hTe : e.T with
        | false =>
          simp only [Bool.false_eq_true, if_false]
          rw [hiff]
          refine ⟨fun h => ?_, .inl⟩
          rcases h with h | rfl
          · exact h
          · rw [hei] at ht; cases ht; rw [hTe] at hT'; cases hT'
        | true =>
          simp only [if_true]
          have hki := c2 hTe
          rw [hiff]
          refine ⟨fun h => ?_, fun h => ?_⟩
          · rcases h with h | rfl
            · omega
            · omega
          · rcases Nat.lt_trichotomy t i with hti | hti | hti
            · left; have := cnt_lt ht hT' hti; omega
            · exact .inr hti
            · exfalso; have := cnt_lt hei hTe hti; omega
      · cases hTe : e.T with
        | false => simpa using hk
        | true =>
          simp only [if_true]
          have hki := c2 hTe
          have := cnt_lt hei hTe (show i < tb.length by rw [htb]; simpa using hin)
          rw [cnt_all tb _ (Nat.le_refl _)] at this
          omega
    unfold wpOp
    rw [hoi]
    dsimp only
    rw [wantA_eq e4 hnb]
    rcases c3 with ⟨w1, w2⟩ | ⟨w1, w2, w3⟩
    · rw [if_pos w1]
      left
      exact stepD_sound hN hC cI (hRo.ext e1) e4 w2 ccd fun G' W' c x1 x2 x3 => hgo G' W' _ x1 x2 (put_rel (e4.ext x1) o.dst x3) (put_defers _ _)
    · rw [if_neg (by rw [w1]; simp)]
      subst w3
      exact hgo G W _ (Ext.refl _ _) cI (put_rel e4 o.dst (by rw [w2]; exact .v _)) (put_defers _ _)
theorem dr_keep : ∀ C, HSound P ro C → DrKeep (dr P ro mu C) := by
  intro C hC α os act H K ans h
  have hCk : ∀ g args H r H', C g args H = some (r, H') → Keep H H' := fun g args H r H' h => (hC g args H r H' h).1
  unfold dr at h
  dsimp only at h
  split at h
  · obtain ⟨act', H', tb, h1, h2⟩ := runD_keep hCk _ _ _ _ h
    split at h1
    · exact ⟨act', _, h1, h2.trans ⟨fun x => (cdL_out (cdL_out x).1).1, rfl, rfl, rfl, Nat.le_refl _, Nat.le_refl _, fun _ _ _ => rfl, fun _ _ _ => rfl⟩⟩
    · cases h1
  · cases h
theorem Inv.drew {G : Gh} {H : AH} {W : World} (h : Inv G H W) : Ext G W G W.drew ∧ Inv G H W.drew := by
  have E : Ext G W G W.drew := ⟨rfl, rfl, rfl, Nat.le_refl _, fun _ _ h => h, fun _ i h => ⟨i, h, .inl rfl⟩, fun _ _ h => h, fun _ _ _ => rfl, fun _ h => h, fun _ _ h => h, fun _ _ _ => rfl, fun _ _ _ _ h => h⟩
  refine ⟨E, Inv.mk (fun id t cs hb => ?_) h.inj h.δown h.δpr h.δlen h.tip h.tlen (fun t i hi => ?_) h.trow h.tδ h.tt h.plt h.olt⟩
  · obtain ⟨b, vs, e1, e2, e3, e4⟩ := h.blk id t cs hb
    exact ⟨b, vs, e1, e2, e3.ext E, e4⟩
  · exact (h.row t i hi).below ((Below.refl _ _).drew)
theorem dr_sound (hN : Named P) (hm : P.follows .mixedOrders = true) : ∀ C, HSound P ro C → Flat C mu → DrSound P ro (dr P ro mu C) := by
  intro C hC hF α os act H K ans H0 G0 W0 G W a id Q h hKc hKp hE hI hR hA hQ
  have hCk : ∀ g args H r H', C g args H = some (r, H') → Keep H H' := fun g args H r H' h => (hC g args H r H' h).1
  unfold dr at h
  dsimp only at h
  split at h
  · rename_i hst
    obtain ⟨tb, act1, H1, hrun, hk⟩ := runD_spec hCk (fun act H tb h => by
      split at h
      · exact (cdL_out (cdL_out (hKc _ _ h)).1).1
      · cases h) _ _ _ _ h
    rw [List.nil_append] at hk
    split at hk
    · rename_i hchk
      have hS := stat_spec hst
      obtain ⟨d1, d2⟩ := hI.drew
      have hkeep : Keep H H1 := (hrun.keep hCk).1
      have hcd1 := (cdL_out (cdL_out (hKc _ _ hk)).1).1
      have hP := (cdL_out (cdL_out (hKc _ _ hk)).1).2
      have hP2 := (cdL_out (hKc _ _ hk)).2
      have hk1 : Keep H1 { H1 with cd := cdL (cdL H1.cd (chkP os.toList (bsets os.toList []) tb)) (chkC (fun act H o K => match stepD P ro C mu act H o with
        | some rh => K rh.1 rh.2
        | none => none) mu os (bsets os.toList []) H tb) } := ⟨fun x => (cdL_out (cdL_out x).1).1, rfl, rfl, rfl, Nat.le_refl _, Nat.le_refl _, fun _ _ _ => rfl, fun _ _ _ => rfl⟩
      have hcds : ∀ e ∈ tb, e.H'.cd := fun e he => ((hrun.keep hCk).2 e he).cd hcd1
      refine wp_region_any hm (dr_go hN hC hS hrun hF hchk hP hP2 hcds (hR.ext d1) (ds := a.defers) (fun a' G' W' x1 x2 x3 x4 => hQ act1 _ G' a' W' hk (hKp.trans (hkeep.trans hk1)) ((hE.trans d1).trans x1) (x2.same rfl rfl) x3 x4) os.size (Array.replicate os.size false) 0 a W.drew (by simp) ?_ ?_ ?_ (Nat.zero_le _) ⟨G, H, act, Ext.refl _ _, rfl, d2, hA.ext d1, ⟨rfl, fun j o e s hj _ _ _ hl => ?_, fun s _ => rfl⟩, rfl⟩)
      · intro i o ho hl
        have := (List.getElem?_eq_some_iff.1 ho).1
        simp at this
        simp [lst, Array.getD_eq_getD_getElem?, this] at hl
      · unfold open_
        exact Nat.le_trans List.countP_le_length (by simp)
      · intro t e ht _
        have := (List.getElem?_eq_some_iff.1 ht).1
        rw [hrun.len] at this
        simp at this
        simp [lst, Array.getD_eq_getD_getElem?, this]
      · have := (List.getElem?_eq_some_iff.1 hj).1
        simp at this
        simp [lst, Array.getD_eq_getD_getElem?, this] at hl
    · cases hk
  · cases h
end
end Go.Proofs.Ytdijakobocnceaa.AE
