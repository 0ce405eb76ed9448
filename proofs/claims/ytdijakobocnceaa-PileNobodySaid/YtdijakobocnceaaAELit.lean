/-
  A slice that is written in place and may be written on: a block of the run's own.
-/
import Derived.Test.YtdijakobocnceaaAEFrz
namespace Go.Proofs.Ytdijakobocnceaa.AE
set_option maxRecDepth 100000
open Go.RowKit
def litE (E : EI) (H : AH) (len : Nat) (parts : List (Nat × AV)) : Option (AV × AH) :=
  if 0 < len ∧ len * E.size ≤ 16777216 then match fillA (fun i => some (i * E.size, E.size)) (((List.range (len * E.size)).map fun i => (.v (E.z.cells.toList[i % E.z.cells.toList.length]!)))) parts with
    | some cells => if cells.all one then some (.sl H.blks.length 0 len len, { H with blks := H.blks ++ [(E.e, cells)] }) else none
    | none => none
  else none
def litB (P : Program) (act : List AV) (H : AH) (o : Oper) : Option (AV × AH) := match o.op with
  | .buildSlice t len parts => match einfo P t with
    | some E => litE E H len (parts.toList.map fun p => (p.1, ev act p.2))
    | none => none
  | _ => none
section
variable {P : Program} {ro : Nat → Option (List Value)} {G : Gh} {H H' : AH} {W : World} {act : List AV} {a : Act} {o : Oper} {r : AV}
theorem litE_sound (hI : Inv G H W) {E : EI} {t : TypeId} (hE : einfo P t = some E) {len : Nat} {l : List (Nat × AV)} {m : Array (Nat × Value)} (hp : Parts G W l m.toList) (h : litE E H len l = some (r, H')) : Comes1 P G W (Instr.buildSlice t len m) r H' := by
  obtain ⟨hu, i, hi, hib, his, hz, hzs, hpos, h1⟩ := einfo_some hE
  unfold litE at h
  split at h
  · rename_i hc
    split at h
    · rename_i cells hcells
      split at h
      · rename_i hone
        cases h
        have hbase : RVs G W ((List.range (len * E.size)).map fun i => (AV.v (E.z.cells.toList[i % E.z.cells.toList.length]!))) ((Array.range (len * E.size)).map fun i => E.z.cells[i % E.z.cells.size]!).toList := by
          rw [Array.toList_map, Array.toList_range]
          have : (fun i => AV.v (E.z.cells.toList[i % E.z.cells.toList.length]!)) = AV.v ∘ (fun i => E.z.cells[i % E.z.cells.size]!) := by
            funext i
            simp only [Function.comp, Array.length_toList]
            rw [getElem!_def, getElem!_def, Array.getElem?_toList]
          rw [this, ← List.map_map]
          exact RVs.map_v _
        obtain ⟨ws, hw, hr⟩ := fill_rel _ (fun i => some (i * E.size, E.size)) (fun _ => rfl) _ _ _ _ _ hp hbase hcells
        have hpos2 : ¬ len * E.size = 0 := by have := Nat.mul_pos hc.1 hpos; omega
        have hrun := run_buildSlice (P := P) W t E.e len m ws i E.z hu hi hz (by rw [his]; omega) (by rw [his]; exact hpos2) (by rw [his]; exact hw)
        obtain ⟨G', e1, e2, d⟩ := hI.new E.e (einfo_ne hE) hr (ones_rel hr hone)
        exact ⟨G', _, _, hrun, e1, e2, .sl d⟩
      · cases h
    · cases h
  · cases h
theorem litB_sound (hI : Inv G H W) (hA : RVs G W act a.tmps.toList) (h : litB P act H o = some (r, H')) : OpRes P G W o a r H' := by
  unfold litB at h
  split at h
  · rename_i t len parts hop
    split at h
    · rename_i E hE
      refine (litE_sound hI hE (m := parts.map fun p => (p.1, a.eval p.2)) (by rw [Array.toList_map]; exact parts_rel hA _) h).op ?_
      rw [execOp, hop]
    · cases h
  · cases h
theorem litB_keep (h : litB P act H o = some (r, H')) : Keep H H' := by
  unfold litB at h
  split at h
  · split at h
    · unfold litE at h
      split at h
      · split at h
        · split at h
          · cases h; exact Keep.new _ _
          · cases h
        · cases h
      · cases h
    · cases h
  · cases h
end
/-- A step, and what it comes to. -/
def StSound (P : Program) (ro : Nat → Option (List Value)) (st : List AV → AH → Oper → Ans) : Prop := ∀ (G : Gh) (H : AH) (W : World) (act : List AV) (a : Act) (r : AV) (H' : AH) (o : Oper), Inv G H W → Ro ro G W → RVs G W act a.tmps.toList → st act H o = some (r, H') → H'.cd → ∀ (next : Act → World → Prop) (Q : Exit → Act → World → Prop),
    (∀ G' W' c, Ext G W G' W' → Inv G' H' W' → RV G' W' r c → next (a.put o.dst c) W') → o.wp P a W next Q
def stL (P : Program) (ro : Nat → Option (List Value)) (C : Hd) (act : List AV) (H : AH) (o : Oper) : Ans := match litB P act H o with
  | some x => some x
  | none => ret? (step P ro C act H o)
theorem stL_sound {P : Program} {ro : Nat → Option (List Value)} {C : Hd} (hN : Named P) (hC : HSound P ro C) : StSound P ro (stL P ro C) := by
  intro G H W act a r H' o hI hR hA h hcd next Q hK
  unfold stL at h
  split at h
  · rename_i x hx
    cases h
    obtain ⟨G', W', nx, c, h1, h2, h3, h4, h5⟩ := litB_sound hI hA hx
    unfold Oper.wp
    rw [h1]
    rcases h2 with rfl | ⟨rfl, rfl⟩
    · exact hK G' W' c h3 h4 h5
    · exact hK G' W' undef h3 h4 h5
  · exact step_sound (rr := .ret r) hN hC hI hR hA (retq_some h) hcd (fun r' hr' => by cases hr'; exact hK) (fun v hv => by cases hv)
theorem stL_keep {P : Program} {ro : Nat → Option (List Value)} {C : Hd} (hC : HSound P ro C) : ∀ act H o r H', stL P ro C act H o = some (r, H') → Keep H H' := by
  intro act H o r H' h
  unfold stL at h
  split at h
  · rename_i x hx
    cases h; exact litB_keep hx
  · exact step_keep (rr := .ret r) (fun g args H r H' h => (hC g args H r H' h).1) (retq_some h)
def opsS {α : Type} (st : List AV → AH → Oper → Ans) (all : Array Oper) : List Oper → List AV → AH → Kn α → Option α
  | [], act, H, K => K act H
  | o :: rest, act, H, K => match gd all act o with
    | .yes => match st act H o with
      | some rh => opsS st all rest (put act o.dst rh.1) rh.2 K
      | none => none
    | .no => opsS st all rest (put act o.dst (.v undef)) H K
    | .bad => none
    | .test d want b => match conc H b with
      | some gH => match gH.1 with
        | true => match want with
          | true => match st (act.set d (.v (.bool true))) gH.2 o with
            | some rh => opsS st all rest (put (act.set d (.v (.bool true))) o.dst rh.1) rh.2 K
            | none => none
          | false => opsS st all rest (put (act.set d (.v (.bool true))) o.dst (.v undef)) gH.2 K
        | false => match want with
          | false => match st (act.set d (.v (.bool false))) gH.2 o with
            | some rh => opsS st all rest (put (act.set d (.v (.bool false))) o.dst rh.1) rh.2 K
            | none => none
          | true => opsS st all rest (put (act.set d (.v (.bool false))) o.dst (.v undef)) gH.2 K
      | none => none
section
variable {P : Program} {ro : Nat → Option (List Value)} {G : Gh} {H H' : AH} {W : World} {act : List AV} {a : Act} {o : Oper} {r : AV} {st : List AV → AH → Oper → Ans}
theorem opsS_keep {α : Type} (hSk : ∀ act H o r H', st act H o = some (r, H') → Keep H H') {all : Array Oper} {ans : α} {K : Kn α} : ∀ (rest : List Oper) (act : List AV) (H : AH), opsS st all rest act H K = some ans → ∃ act' H', K act' H' = some ans ∧ Keep H H'
  | [], act, H, h => ⟨act, H, h, .refl _⟩
  | o :: rest, act, H, h => by
    have take : ∀ act' H1, Keep H H1 → (match st act' H1 o with | some rh => opsS st all rest (put act' o.dst rh.1) rh.2 K | none => none) = some ans → ∃ act' H', K act' H' = some ans ∧ Keep H H' := fun act' H1 hk h => by
      split at h
      · rename_i rh hs
        obtain ⟨a2, H2, h1, h2⟩ := opsS_keep hSk rest _ _ h
        exact ⟨a2, H2, h1, hk.trans ((hSk _ _ _ rh.1 rh.2 hs).trans h2)⟩
      · cases h
    have skip : ∀ act' H1, Keep H H1 → opsS st all rest act' H1 K = some ans → ∃ act' H', K act' H' = some ans ∧ Keep H H' := fun act' H1 hk h => by
      obtain ⟨a2, H2, h1, h2⟩ := opsS_keep hSk rest _ _ h
      exact ⟨a2, H2, h1, hk.trans h2⟩
    unfold opsS at h
    cases e : gd all act o with
    | yes => rw [e] at h; exact take _ _ (.refl _) h
    | bad => rw [e] at h; cases h
    | no => rw [e] at h; exact skip _ _ (.refl _) h
    | test d want b =>
      rw [e] at h
      simp only at h
      split at h
      · rename_i gH hg
        obtain ⟨g, H1⟩ := gH
        have hk := conc_keep hg
        cases g <;> cases want <;> simp only at h
        · exact take _ _ hk h
        · exact skip _ _ hk h
        · exact skip _ _ hk h
        · exact take _ _ hk h
      · cases h
theorem opsS_sound {α : Type} (hSk : ∀ act H o r H', st act H o = some (r, H') → Keep H H') (hS : StSound P ro st) {all : Array Oper} {ans : α} {K : Kn α} (hKc : ∀ act H, K act H = some ans → H.cd) {G0 : Gh} {W0 : World} {H0 : AH} {ds : List Deferred} {Q : Exit → Act → World → Prop}
    (hQ : ∀ act H G (a : Act) W, K act H = some ans → Keep H0 H → Ext G0 W0 G W → Inv G H W → RVs G W act a.tmps.toList → a.defers = ds → Q .normal a W) :
    ∀ (rest : List Oper) (act : List AV) (H : AH) (G : Gh) (a : Act) (W : World), opsS st all rest act H K = some ans → Keep H0 H → Ext G0 W0 G W → Inv G H W → Ro ro G W → RVs G W act a.tmps.toList → a.defers = ds → wpList P all Q rest a W := by
  have hcd : ∀ rest act H, opsS st all rest act H K = some ans → H.cd := fun rest act H h => by
    obtain ⟨a2, H2, h1, h2⟩ := opsS_keep hSk rest _ _ h
    exact h2.cd (hKc _ _ h1)
  intro rest
  induction rest with
  | nil => intro act H G a W h hKp hE hI hR hA hd; exact hQ act H G a W h hKp hE hI hA hd
  | cons o rest ih =>
    intro act H G a W h hKp hE hI hR hA hd
    have hgd := gd_sound (o := o) (all := all) hA
    have take : ∀ act' H1, act' = act → Keep H0 H1 → Inv G H1 W → (match st act' H1 o with | some rh => opsS st all rest (put act' o.dst rh.1) rh.2 K | none => none) = some ans → (H1.cd → Region.wanted o (yielded all a.tmps) = true) → wpList P all Q (o :: rest) a W := by
      rintro _ H1 rfl hKp hI h hw
      split at h
      · rename_i rh hs
        have hk := hSk _ _ _ rh.1 rh.2 hs
        have hcd2 := hcd _ _ _ h
        unfold wpList
        rw [if_pos (hw (hk.cd hcd2))]
        left
        exact hS _ _ _ _ _ rh.1 rh.2 _ hI hR hA hs hcd2 _ _ fun G' W' c e1 e2 e3 =>
          ih _ _ _ _ _ h (hKp.trans hk) (hE.trans e1) e2 (hR.ext e1) (put_rel (hA.ext e1) o.dst e3) (by rw [put_defers, hd])
      · cases h
    have skip : ∀ act' H1, act' = act → Keep H0 H1 → Inv G H1 W → opsS st all rest (put act' o.dst (.v undef)) H1 K = some ans → (H1.cd → Region.wanted o (yielded all a.tmps) = false) → wpList P all Q (o :: rest) a W := by
      rintro _ H1 rfl hKp hI h hw
      unfold wpList
      rw [if_neg (by rw [hw (hcd _ _ _ h)]; simp)]
      exact ih _ _ _ _ _ h hKp hE hI hR (put_rel hA o.dst (.v _)) (by rw [put_defers, hd])
    have h0 := h
    unfold opsS at h
    cases e : gd all act o with
    | yes => rw [e] at h hgd; exact take act H rfl hKp hI h fun _ => hgd
    | bad => rw [e] at h; cases h
    | no => rw [e] at h hgd; exact skip act H rfl hKp hI h fun _ => hgd
    | test d want b =>
      rw [e] at h hgd
      obtain ⟨hw, hx⟩ := hgd
      simp only at h
      split at h
      · rename_i gH hg
        obtain ⟨g, H1⟩ := gH
        have hk := conc_keep hg
        obtain ⟨hS, hc⟩ := conc_some hg
        have hb : H1.cd → b = g := fun x => (hc x).2
        have hI1 : Inv G H1 W := hI.same hS.b hS.t
        have hbg : b = g := by
          have := hcd (o :: rest) act H h0
          cases g <;> cases want <;> simp only at h
          · split at h
            · rename_i rh hs; exact hb ((hSk _ _ _ rh.1 rh.2 hs).cd (hcd _ _ _ h))
            · cases h
          · exact hb (hcd _ _ _ h)
          · exact hb (hcd _ _ _ h)
          · split at h
            · rename_i rh hs; exact hb ((hSk _ _ _ rh.1 rh.2 hs).cd (hcd _ _ _ h))
            · cases h
        subst hbg
        cases b <;> cases want <;> simp only at h
        · exact take _ _ (set_same hx) (hKp.trans hk) hI1 h fun _ => hw
        · exact skip _ _ (set_same hx) (hKp.trans hk) hI1 h fun _ => hw
        · exact skip _ _ (set_same hx) (hKp.trans hk) hI1 h fun _ => hw
        · exact take _ _ (set_same hx) (hKp.trans hk) hI1 h fun _ => hw
      · cases h
end
/-- The run of one region in its order, with slices that may be written on. -/
noncomputable def regL {α : Type} (ro : Nat → Option (List Value)) (mu : FuncId → Bool) (pr : FuncId → Option (List AV → AH → Ans)) (d : Nat) (c : Code) (act : List AV) (H : AH) (K : Kt α) : Option α := match c with
  | .region _ os false => opsS (stL Try.prog ro (run ro mu pr d)) os os.toList act H (K .normal)
  | _ => none
theorem Tr.of_lit {ro : Nat → Option (List Value)} {mu : FuncId → Bool} {pr : FuncId → Option (List AV → AH → Ans)} {d : Nat} {c : Code} {act : List AV} {H : AH} {R : Exit → List AV → AH → Prop} (hp : Known ro pr) {is : List Nat} {X : Option Prop} (e : regL ro mu pr d c act H (kp is R) = X) (h : holds X) (hm : Flats mu pr := by intro g h; cases h) : Tr Try.prog ro c act H R := by
  intro G W a hI hR hA
  cases X with
  | none => exact h.elim
  | some p =>
    have hpp : p := h
    unfold regL at e
    split at e
    · rename_i id os
      have hC := run_sound' hp hm d
      have hK : ∀ act H, kp is R .normal act H = some p → H.cd ∧ R .normal (keepI 0 is act) (tidy H) := fun act H hk => by
        have : (H.cd ∧ R .normal (keepI 0 is act) (tidy H)) = p := by simpa [kp] using hk
        rw [this]; exact hpp
      refine wp_region_list (opsS_sound (H0 := H) (G0 := G) (W0 := W) (ds := a.defers) (stL_keep hC) (stL_sound named hC) (fun act H hk => (hK act H hk).1) (fun act H G' a' W' hk _ h2 h3 h4 h5 => ?_) os.toList act H G a W e (.refl _) (.refl _ _) hI hR hA rfl)
      exact ⟨_, _, G', (hK act H hk).2, h2, inv_tidy h3, keepI_rel _ _ h4, h5⟩
    · cases e
/-! A function of data that hands back a slice of a new block. -/
theorem Inv.adopt {G G1' : Gh} {H H1 : AH} {W W' : World} (h : Inv G H W) (e : Ext (bareG G) W G1' W') (h1 : Inv G1' H1 W') {id : Nat} {t : TypeId} {us : List Value} (hb : H1.blks[id]? = some (t, us.map AV.v)) :
    ∃ G' b, Ext G W G' W' ∧ Inv G' { H with blks := H.blks ++ [(t, us.map AV.v)] } W' ∧ G1'.δ id = some b ∧ G'.δ H.blks.length = some b := by
  obtain ⟨b, vs, e1, e2, e3, e4⟩ := h1.blk id t _ hb
  have hlow : W.heap.size ≤ b := by
    rcases Nat.lt_or_ge b W.heap.size with hlt | hge
    · exact ((e.new b hlt (h1.δown id b e1))).elim
    · exact hge
  have hhi : b < W'.heap.size := h1.δlt e1
  have hblk : ∀ b, b < W.heap.size → W'.heap[b]? = W.heap[b]? := fun b hb => e.block b hb (fun h => h)
  have hno : G.δ H.blks.length = none := by
    cases e : G.δ H.blks.length with
    | none => rfl
    | some b => have := h.δlen _ _ e; omega
  let G' : Gh := { G with δ := fun i => if i = H.blks.length then some b else G.δ i, own := fun k => G.own k ∨ k = b }
  have hδ : ∀ i b, G.δ i = some b → G'.δ i = some b := fun i b e => by
    have : i ≠ H.blks.length := by rintro rfl; rw [hno] at e; cases e
    show (if _ then _ else _) = _
    rw [if_neg this]; exact e
  have hδ' : ∀ i k, G'.δ i = some k → G.δ i = some k ∨ (i = H.blks.length ∧ k = b) := fun i k e => by
    by_cases hi : i = H.blks.length
    · have e : (if i = H.blks.length then some b else G.δ i) = some k := e
      rw [if_pos hi] at e; exact .inr ⟨hi, (Option.some.inj e).symm⟩
    · have e : (if i = H.blks.length then some b else G.δ i) = some k := e
      rw [if_neg hi] at e; exact .inl e
  have E : Ext G W G' W' :=
    { os := e.os, tape := e.tape, output := e.output, size := e.size, δ := hδ, tip := fun _ i h => ⟨i, h, .inl rfl⟩, prot := fun _ _ p => p,
      cell := fun b o p => cell_heap (hblk b (h.plt b o p)), own := fun _ h => .inl h, new := fun k hk o => o.elim (fun o => o) (fun o => by omega), block := fun b hb _ => hblk b hb, pnew := fun b o hb _ p => p }
  refine ⟨G', b, E, Inv.mk (fun id' t' cs' hbk => ?_) (fun i j k hi hj => ?_) (fun i k hi => ?_) (fun i k o hi p => ?_) (fun i k hi => ?_) h.tip h.tlen (fun t i hi => ?_) (fun t i b off n cap hi hv => ?_) (fun t i k hi hk id' hd => ?_) h.tt (fun b o p => Nat.lt_of_lt_of_le (h.plt b o p) e.size) (fun k p => ?_), e1, by show (if _ then _ else _) = _; rw [if_pos rfl]⟩
  · have hbk : (H.blks ++ [(t, us.map AV.v)])[id']? = some (t', cs') := hbk
    by_cases hlt : id' < H.blks.length
    · rw [List.getElem?_append_left hlt] at hbk
      obtain ⟨b', vs', k1, k2, k3, k4⟩ := h.blk id' t' cs' hbk
      exact ⟨b', vs', hδ _ _ k1, k2.of (hblk b' (h.δlt k1)), k3.ext E, k4⟩
    · have hid : id' = H.blks.length := by
        have := (List.getElem?_eq_some_iff.1 hbk).1
        simp at this; omega
      subst hid
      rw [List.getElem?_append_right (Nat.le_refl _), Nat.sub_self] at hbk
      simp only [List.getElem?_cons_zero, Option.some.injEq, Prod.mk.injEq] at hbk
      obtain ⟨rfl, rfl⟩ := hbk
      refine ⟨b, vs, by show (if _ then _ else _) = _; rw [if_pos rfl], e2, ?_, e4⟩
      have hvs := vals_rel e3 (show vals? (us.map AV.v) = some us by
        clear hb e3
        induction us with
        | nil => rfl
        | cons u l ih => simp [vals?, AV.val?, ih])
      have : vs.toList = us := by rw [← hvs]
      rw [this]
      exact RVs.map_v us
  · rcases hδ' _ _ hi with hi | ⟨k1, k2⟩ <;> rcases hδ' _ _ hj with hj | ⟨k3, k4⟩
    · exact h.inj _ _ _ hi hj
    · have := h.δlt hi; omega
    · have := h.δlt hj; omega
    · rw [k1, k3]
  · rcases hδ' _ _ hi with hi | ⟨_, rfl⟩
    · exact .inl (h.δown _ _ hi)
    · exact .inr rfl
  · rcases hδ' _ _ hi with hi | ⟨_, rfl⟩
    · exact h.δpr _ _ o hi p
    · exact absurd (h.plt _ _ p) (by omega)
  · show i < (H.blks ++ [_]).length
    rw [List.length_append]
    rcases hδ' _ _ hi with hi | ⟨rfl, _⟩
    · have := h.δlen _ _ hi; simp; omega
    · simp
  · exact (h.row t i hi).below ⟨e.os, e.tape, e.output, e.size, fun b hb => hblk b hb⟩
  · obtain ⟨x1, x2, x3, x4⟩ := h.trow t i b off n cap hi hv
    exact ⟨x1, .inl x2, x3, x4⟩
  · rcases hδ' _ _ hd with hd | ⟨_, rfl⟩
    · exact h.tδ t i k hi hk id' hd
    · have := (h.row t i hi).lt _ hk; omega
  · rcases p with p | rfl
    · exact Nat.lt_of_lt_of_le (h.olt _ p) e.size
    · exact hhi
/-- A function of data that hands back all of a block that it made: a block of the run's own. -/
def new? (spec : List AV → Option (TypeId × List Value × Bool)) (args : List AV) (H : AH) : Ans := match cleans args with
  | some ar => match spec ar with
    | some rb => some (.sl H.blks.length 0 rb.2.1.length rb.2.1.length, { H with blks := H.blks ++ [(rb.1, rb.2.1.map AV.v)], cd := cdb H.cd rb.2.2 })
    | none => none
  | none => none
theorem new_ok {ro : Nat → Option (List Value)} {g : FuncId} {spec : List AV → Option (TypeId × List Value × Bool)} (hf : ∃ fn, Try.prog.funcs[g]? = some fn ∧ fn.body.isSome = true)
    (h : ∀ args t us, spec args = some (t, us, true) → Fs Try.prog ro g args (hp [] []) fun r' H' => ∃ id, r' = .sl id 0 us.length us.length ∧ H'.blks[id]? = some (t, us.map AV.v)) :
    ∀ args H r H', new? spec args H = some (r, H') → HSound1 Try.prog ro g args H r H' := by
  intro args H r H' hd
  unfold new? at hd
  split at hd
  · rename_i ar has
    split at hd
    · rename_i rb hs
      obtain ⟨t, us, b⟩ := rb
      cases hd
      refine ⟨⟨fun x => (cdb_iff.1 x).1, rfl, rfl, rfl, by simp, Nat.le_refl _, fun i _ hi => List.getElem?_append_left hi, fun _ _ _ => rfl⟩, fun hcd G W cargs hI hR hA => ⟨hf, ?_⟩⟩
      have hb : b = true := (cdb_iff.1 hcd).2
      subst hb
      refine ((h _ _ _ hs) (bareG G) W cargs (inv_bare hI) (ro_bare hR) (cleans_to (G := G) (G2 := bareG G) (fun _ _ p => p) hA _ has)).2.mono ?_
      rintro e W' ⟨c, G1', r', H1, rfl, ⟨id, rfl, k2⟩, e1, e2, e3⟩
      obtain ⟨G', b, x1, x2, x3, x4⟩ := hI.adopt e1 e2 k2
      refine ⟨c, G', rfl, x1, x2.same rfl rfl, ?_⟩
      cases e3 with
      | sl hd =>
        rw [x3] at hd
        cases hd
        exact .sl x4
    · cases hd
  · cases hd
end Go.Proofs.Ytdijakobocnceaa.AE
