/-
  Operations on maps of the run's own, and that they stand for the program's.
-/
import Derived.Test.YtdijakobocnceaaAEKeep
import Derived.Laws.Cover3
namespace Go.Proofs.Ytdijakobocnceaa.AE
set_option maxRecDepth 100000
open Go.RowKit
def keq (kd : TypeDesc) (k : Value) (x : AV) : Bool := match x with
  | .v u => match Instr.sameNow kd k u with
    | some b => b
    | none => false
  | _ => false
def kok (kd : TypeDesc) (k : Value) (x : AV) : Bool := match x with
  | .v u => match Instr.sameNow kd k u with
    | some _ => true
    | none => false
  | _ => false
/-! A map's keys and values, one behind the other. -/
def mok (kd : TypeDesc) (k : Value) : List AV → Bool
  | [] => true
  | [_] => false
  | x :: _ :: l => kok kd k x && mok kd k l
def mhas (kd : TypeDesc) (k : Value) : List AV → Bool
  | x :: _ :: l => keq kd k x || mhas kd k l
  | _ => false
def mget (kd : TypeDesc) (k : Value) : List AV → AV
  | x :: v :: l => bif keq kd k x then v else mget kd k l
  | _ => .dead
def mset (kd : TypeDesc) (k : Value) (v : AV) : List AV → List AV
  | x :: u :: l => bif keq kd k x then .v k :: v :: l else x :: u :: mset kd k v l
  | _ => [.v k, v]
def mdel (kd : TypeDesc) (k : Value) : List AV → List AV
  | x :: u :: l => bif keq kd k x then l else x :: u :: mdel kd k l
  | _ => []
def mlen : List AV → Nat
  | _ :: _ :: l => mlen l + 1
  | _ => 0
structure MI where
  kt : TypeId
  kd : TypeDesc
  el : TypeId
  z : Value
def keyD (d : TypeDesc) : Bool := match d with
  | .int _ => true
  | .string => true
  | .bool => true
  | _ => false
def keyV (d : TypeDesc) (x : Value) : Bool := match d, x with
  | .int k, .int k' _ => decide (k = k')
  | .string, .string _ => true
  | .bool, .bool _ => true
  | _, _ => false
def minfo (P : Program) (t : TypeId) : Option MI := match P.underlying t with
  | some (.map kt el) => match P.underlying kt with
    | some kd => match keyD kd with
      | true => match zero? P el with
        | some z => some ⟨kt, kd, el, z⟩
        | none => none
      | false => none
    | none => none
  | _ => none
/-- The run's map of this number. -/
def mpAt (H : AH) (id : Nat) : Option (List AV) := match H.blks[id]? with
  | some b => match Nat.beq b.1 999998 with
    | true => some b.2
    | false => none
  | none => none
theorem mpAt_some {H : AH} {id : Nat} {cs : List AV} (h : mpAt H id = some cs) : H.blks[id]? = some (999998, cs) := by
  unfold mpAt at h
  split at h
  · rename_i b hb
    split at h
    · rename_i hn
      cases h
      rw [hb]
      have := Nat.eq_of_beq_eq_true hn
      obtain ⟨t, c⟩ := b
      cases this
      rfl
    · cases h
  · cases h
/-- What is found there, as far as its type tells. -/
def lookV (P : Program) (el : TypeId) (z : Value) (has : Bool) (g : AV) : AV := match P.underlying el with
  | some (.int k) => .v (.int k (bif has then exInt g else exInt (.v z)))
  | some .bool => .v (.bool (bif has then exBool g else exBool (.v z)))
  | some .string => .v (.string (bif has then exStr g else exStr (.v z)))
  | _ => bif has then g else .v z
def lookH (P : Program) (H : AH) (M : MI) (k : Value) (cs : List AV) : AH :=
  grant (grant H (mok M.kd k cs) (mok M.kd k cs = true)) (!mhas M.kd k cs || shape1 P M.el (mget M.kd k cs)) (mhas M.kd k cs = true → shape1 P M.el (mget M.kd k cs) = true)
def opM (P : Program) (act : List AV) (H : AH) (o : Oper) : Option (AV × AH) := match o.op with
  | .makeMap _ r => match r with
    | none => some (.mp H.blks.length, { H with blks := H.blks ++ [(999998, [])] })
    | some _ => none
  | .lookup t x ix ok => match ev act x with
    | .mp id => match mpAt H id with
      | some cs => match minfo P t with
        | some M => match ev act ix with
          | .v k => match keyV M.kd k with
            | true => match shape1 P M.el (.v M.z) with
              | true => match ok with
                | true => some (.tuple [lookV P M.el M.z (mhas M.kd k cs) (mget M.kd k cs), .v (.bool (mhas M.kd k cs))], lookH P H M k cs)
                | false => some (lookV P M.el M.z (mhas M.kd k cs) (mget M.kd k cs), lookH P H M k cs)
              | false => none
            | false => none
          | _ => none
        | none => none
      | none => none
    | _ => none
  | .mapUpdate t m ix x => putM t m ix x
  | .insert t m ix x => putM t m ix x
  | .binOp b t x y _ => match ev act x, ev act y with
    | .mp _, .v (.map none) => match P.underlying t with
      | some (.map _ _) => match b with
        | .eql => some (.v (.bool false), H)
        | .neq => some (.v (.bool true), H)
        | _ => none
      | _ => none
    | _, _ => none
  | .call c => match c.callee with
    | .builtin .len => match c.args.toList, c.argTypes.toList with
      | [x], [t] => match ev act x with
        | .mp id => match mpAt H id with
          | some cs => match P.underlying t with
            | some (.map _ _) => some (.v (.int .i64 (mlen cs : Nat)), H)
            | _ => none
          | none => none
        | _ => none
      | _, _ => none
    | .builtin .clear => match c.args.toList, c.argTypes.toList with
      | [x], [t] => match ev act x with
        | .mp id => match mpAt H id with
          | some _ => match minfo P t with
            | some _ => match decide (H.mb ≤ id) with
              | true => some (.v (.tuple #[]), { H with blks := H.blks.set id (999998, []) })
              | false => none
            | none => none
          | none => none
        | _ => none
      | _, _ => none
    | .builtin .delete => match c.args.toList, c.argTypes.toList with
      | [x, ix], t :: _ => match ev act x with
        | .mp id => match mpAt H id with
          | some cs => match minfo P t with
            | some M => match ev act ix with
              | .v k => match keyV M.kd k with
                | true => match decide (H.mb ≤ id) with
                  | true => some (.v (.tuple #[]), { grant H (mok M.kd k cs) (mok M.kd k cs = true) with blks := H.blks.set id (999998, mdel M.kd k cs) })
                  | false => none
                | false => none
              | _ => none
            | none => none
          | none => none
        | _ => none
      | _, _ => none
    | _ => none
  | _ => none
where putM (t : TypeId) (m ix x : Operand) : Option (AV × AH) := match ev act m with
    | .mp id => match mpAt H id with
      | some cs => match minfo P t with
        | some M => match ev act ix with
          | .v k => match keyV M.kd k with
            | true => match decide (H.mb ≤ id) with
              | true => some (.v undef, { grant H (mok M.kd k cs) (mok M.kd k cs = true) with blks := H.blks.set id (999998, mset M.kd k (ev act x) cs) })
              | false => none
            | false => none
          | _ => none
        | none => none
      | none => none
    | _ => none
section
variable {P : Program} {ro : Nat → Option (List Value)} {G : Gh} {H H' : AH} {W : World} {act : List AV} {a : Act} {o : Oper} {r : AV}
theorem minfo_some {t : TypeId} {M : MI} (h : minfo P t = some M) : P.underlying t = some (.map M.kt M.el) ∧ P.underlying M.kt = some M.kd ∧ keyD M.kd = true ∧ zero? P M.el = some M.z := by
  unfold minfo at h
  split at h
  · rename_i kt el hu
    split at h
    · rename_i kd hk
      split at h
      · rename_i hd
        split at h
        · rename_i z hz
          cases h
          exact ⟨hu, hk, hd, hz⟩
        · cases h
      · cases h
    · cases h
  · cases h
theorem keyV_check {kd : TypeDesc} {kt : TypeId} {k : Value} (hk : P.underlying kt = some kd) (hd : keyD kd = true) (hv : keyV kd k = true) (b : Bool) : (Instr.checkKey b 10000 kt k).run P W = .ok () W := by
  unfold Instr.checkKey
  simp only [Sem.run_bind, run_underlying hk, Result.andThen_ok]
  cases kd <;> cases k <;> first | rfl | (simp [keyD] at hd; done) | (simp [keyV] at hv; done)
theorem bytes_beq {a b : ByteArray} (h : (a == b) = true) : a = b := by
  have h1 : (a.data == b.data) = true := h
  obtain ⟨x⟩ := a
  obtain ⟨y⟩ := b
  have := eq_of_beq h1
  rw [show x = y from this]
theorem sameNow_bits {kd : TypeDesc} {k u : Value} (h : Instr.sameNow kd k u = some true) : Instr.sameBits 10000 u k = true := by
  unfold Instr.sameNow at h
  split at h
  · split at h
    · rename_i hk
      subst hk
      have := Option.some.inj h
      have e := eq_of_beq this
      subst e
      simp [Instr.sameBits]
    · cases h
  · rename_i a b
    have := Option.some.inj h
    show (b == a) = true
    have e := bytes_beq this
    subst e
    exact this
  · have := Option.some.inj h
    have e := eq_of_beq this
    subst e
    simp [Instr.sameBits]
  · cases h
theorem keq_true {kd : TypeDesc} {k u : Value} (h : keq kd k (.v u) = true) : Instr.sameNow kd k u = some true := by
  unfold keq at h
  simp only at h
  split at h
  · rename_i b hb; rw [hb, h]
  · cases h
theorem keq_false {kd : TypeDesc} {k u : Value} (hk : kok kd k (.v u) = true) (h : keq kd k (.v u) = false) : Instr.sameNow kd k u = some false := by
  unfold keq at h
  unfold kok at hk
  simp only at h hk
  split at hk
  · rename_i b hb; rw [hb] at h ⊢; simp only at h; rw [h]
  · cases hk
theorem kok_v {kd : TypeDesc} {k : Value} {x : AV} (h : kok kd k x = true) : ∃ u, x = .v u := by
  cases x <;> first | exact ⟨_, rfl⟩ | cases h
theorem map_rel {kd : TypeDesc} {k : Value} : ∀ (es : List MapEntry) (cs : List AV) (i : Nat), RVs G W cs (kvs es) → mok kd k cs = true →
    mlen cs = es.length ∧ ((mhas kd k cs = false ∧ Instr.findNow kd k es i = some none ∧ mdel kd k cs = cs ∧ ∀ v, mset kd k v cs = cs ++ [.v k, v]) ∨
    (mhas kd k cs = true ∧ ∃ (j : Nat) (e : MapEntry), es[j]? = some e ∧ Instr.findNow kd k es i = some (some (i + j, e.val)) ∧ RV G W (mget kd k cs) e.val ∧ Instr.sameNow kd k e.key = some true ∧
      (∀ v c, RV G W v c → RVs G W (mset kd k v cs) (kvs (es.set j { e with key := k, val := c }))) ∧ RVs G W (mdel kd k cs) (kvs (es.eraseIdx j))))
  | [], cs, i, h, hk => by
    cases h
    exact ⟨rfl, .inl ⟨rfl, rfl, rfl, fun _ => rfl⟩⟩
  | e :: es, cs, i, h, hk => by
    cases h with
    | @cons x _ l _ hx h =>
      cases h with
      | @cons y _ l _ hy h =>
        unfold mok at hk
        rw [Bool.and_eq_true] at hk
        obtain ⟨u, rfl⟩ := kok_v hk.1
        have hu : e.key = u := by
          generalize e.key = z at hx
          cases hx; rfl
        obtain ⟨hl, ih⟩ := map_rel es l (i + 1) h hk.2
        refine ⟨by unfold mlen; rw [hl]; rfl, ?_⟩
        unfold mhas mdel mset mget Instr.findNow
        cases hq : keq kd k (.v u) with
        | true =>
          have hs := keq_true hq
          rw [hu, hs]
          refine .inr ⟨by simp, 0, e, rfl, by simp, by simpa using hy, by rw [hu]; exact hs, fun v c hv => ?_, by simpa using h⟩
          simp only [cond_true, List.set_cons_zero, kvs]
          exact .cons (.v _) (.cons hv h)
        | false =>
          have hs := keq_false hk.1 hq
          rw [hu, hs]
          simp only [Bool.false_or, cond_false]
          rcases ih with ⟨h1, h2, h3, h4⟩ | ⟨h1, j, e', h2, h3, h4, h5, h6, h7⟩
          · refine .inl ⟨h1, h2, by rw [h3], fun v => ?_⟩
            rw [h4]; rfl
          · refine .inr ⟨h1, j + 1, e', h2, ?_, h4, h5, fun v c hv => ?_, ?_⟩
            · rw [h3, Nat.add_assoc, Nat.add_comm 1 j]
            · simp only [List.set_cons_succ, kvs]
              exact .cons hx (.cons hy (h6 v c hv))
            · simp only [List.eraseIdx_cons_succ, kvs]
              exact .cons hx (.cons hy h7)
theorem kvs_append (a b : List MapEntry) : kvs (a ++ b) = kvs a ++ kvs b := by
  induction a with
  | nil => rfl
  | cons e a ih => simp [kvs, ih]
theorem mlen_rel : ∀ (es : List MapEntry) (cs : List AV), RVs G W cs (kvs es) → mlen cs = es.length
  | [], cs, h => by cases h; rfl
  | e :: es, cs, h => by
    cases h with
    | cons hx h => cases h with | cons hy h => unfold mlen; rw [mlen_rel es _ h]; rfl
/-- A block is turned into another one. -/
theorem Inv.turned {W' : World} (h : Inv G H W) {id b : Nat} {t : TypeId} {cs : List AV} (hb : H.blks[id]? = some (t, cs)) (hd : G.δ id = some b) (hg : W.grownBy W' (some b))
    {t' : TypeId} {cs' : List AV} {vs' : Array Value} (hn : BkAt W' b t' vs') (hr : RVs G W cs' vs'.toList) (hone : OkT t' → ∀ u ∈ vs'.toList, u.oneCell' = true) : Ext G W G W' ∧ Inv G { H with blks := H.blks.set id (t', cs') } W' := by
  have hcellh : ∀ k o, W'.heap[k]? = W.heap[k]? → W'.cell? ⟨k, o, none⟩ = W.cell? ⟨k, o, none⟩ := fun k o e => by simp only [World.cell?, e]
  have hcell : ∀ k o, k < W.heap.size → k ≠ b → W'.cell? ⟨k, o, none⟩ = W.cell? ⟨k, o, none⟩ := fun k o hk hne => hcellh k o (hg.block k hk (by simp [hne]))
  have hpb : ∀ k o, G.prot k o → k ≠ b := fun k o p e => by subst e; exact h.δpr id _ o hd p
  have E : Ext G W G W' :=
    { os := hg.os, tape := hg.tape, output := hg.output, size := hg.size, δ := fun _ _ h => h, tip := fun _ i h => ⟨i, h, .inl rfl⟩, prot := fun _ _ h => h,
      cell := fun k o p => hcell k o (h.plt k o p) (hpb k o p), own := fun _ h => h, new := fun _ _ h => h, block := fun k hlt hno => hg.block k hlt (by
        intro e
        have e : k = b := by simpa using e
        subst e
        exact hno (h.δown id _ hd)), pnew := fun _ _ _ _ p => p }
  refine ⟨E, Inv.mk (fun id' t1 cs1 hbk => ?_) h.inj h.δown h.δpr (fun i b' e => by rw [List.length_set]; exact h.δlen i b' e) h.tip h.tlen (fun t' i hi => (h.row t' i hi).kept hg ?_) h.trow h.tδ h.tt (fun k o p => Nat.lt_of_lt_of_le (h.plt k o p) hg.size) (fun k p => Nat.lt_of_lt_of_le (h.olt k p) hg.size)⟩
  · by_cases hid : id' = id
    · subst hid
      have hl : id' < H.blks.length := (List.getElem?_eq_some_iff.1 hb).1
      have hbk : (H.blks.set id' (t', cs'))[id']? = some (t1, cs1) := hbk
      rw [List.getElem?_set_self hl] at hbk
      cases hbk
      exact ⟨b, vs', hd, hn, hr.ext E, hone⟩
    · have hbk : (H.blks.set id (t', cs'))[id']? = some (t1, cs1) := hbk
      rw [List.getElem?_set_ne (by omega)] at hbk
      obtain ⟨b', vs, e1, e2, e3, e4⟩ := h.blk id' t1 cs1 hbk
      have hne : b' ≠ b := fun e => by subst e; exact hid (h.inj _ _ _ e1 hd)
      exact ⟨b', vs, e1, e2.of (hg.block b' (h.δlt e1) (by simp [hne])), e3.ext E, e4⟩
  · cases e : i.v.ownBlock with
    | none => exact .inl rfl
    | some k => exact .inr (by
        intro e2
        have e2 : k = b := by simpa using e2
        subst e2
        exact h.tδ t' i _ hi e id hd)
theorem mp_block (hI : Inv G H W) {id : Nat} {cs : List AV} (h : mpAt H id = some cs) {c : Value} (hc : RV G W (.mp id) c) : ∃ b, c = .map (some b) ∧ G.δ id = some b ∧ ∃ es clk, W.heap[b]? = some (.map es clk) ∧ RVs G W cs (kvs es.toList) := by
  cases hc with
  | @mp _ b hd =>
    obtain ⟨b', vs, e1, e2, e3, e4⟩ := hI.blk id _ _ (mpAt_some h)
    rw [hd] at e1
    cases e1
    refine ⟨b, rfl, hd, ?_⟩
    obtain ⟨es, clk, h1, h2⟩ := e2.map
    exact ⟨es, clk, h1, by rw [← h2]; exact e3⟩
theorem lookV_rel {el : TypeId} {z : Value} {has : Bool} {g : AV} {c : Value} (hz : shape1 P el (.v z) = true) (hs : has = true → shape1 P el g = true) (h1 : has = true → RV G W g c) (h0 : has = false → c = z) : RV G W (lookV P el z has g) c := by
  have key : ∀ x : AV, shape1 P el x = true → RV G W x c → (match P.underlying el with
      | some (.int k) => RV G W (.v (.int k (exInt x))) c
      | some .bool => RV G W (.v (.bool (exBool x))) c
      | some .string => RV G W (.v (.string (exStr x))) c
      | _ => RV G W x c) := by
    intro x hx hr
    have e := shape1_ok hx
    unfold expand1 at e
    generalize P.underlying el = u at e ⊢
    cases u with
    | none => exact hr
    | some d => cases d <;> first | exact hr | (simp only at e ⊢; rw [e]; exact hr)
  unfold lookV
  cases has with
  | true =>
    have := key g (hs rfl) (h1 rfl)
    revert this
    split <;> intro h <;> simpa using h
  | false =>
    have hc := h0 rfl
    subst hc
    have := key (.v c) hz (.v c)
    revert this
    split <;> intro h <;> simpa using h
theorem zero_run {el : TypeId} {z : Value} (h : zero? P el = some z) : (zeroValue el).run P W = .ok z W := by
  unfold zero? at h
  cases hi : P.info? el with
  | none => rw [hi] at h; cases h
  | some i =>
    rw [hi] at h
    simp only at h
    simp [zeroValue, typeInfo, hi, h]
theorem grant_cd {b : Bool} {p : Prop} (hb : b = true → p) (h : (grant H b p).cd) : H.cd ∧ p := cds_out hb h
theorem setObj_grown {b : Nat} {es : Array MapEntry} {clk : Nat} (o : Obj) (h : W.heap[b]? = some (.map es clk)) : W.grownBy { W with heap := W.heap.setIfInBounds b o } (some b) ∧ ({ W with heap := W.heap.setIfInBounds b o } : World).heap[b]? = some o := by
  have hlt := (Array.getElem?_eq_some_iff.1 h).1
  refine ⟨⟨rfl, rfl, rfl, by simp, fun k _ hk => ?_⟩, by simp [hlt]⟩
  have : k ≠ b := fun e => hk (by rw [e])
  simp [Array.getElem?_setIfInBounds_ne (Ne.symm this)]
theorem set_modify {es : List MapEntry} {j : Nat} {e : MapEntry} (f : MapEntry → MapEntry) (h : es[j]? = some e) : es.modify j f = es.set j (f e) := by
  induction es generalizing j with
  | nil => simp at h
  | cons x l ih =>
    cases j with
    | zero => simp at h; subst h; rfl
    | succ j => simpa using ih (by simpa using h)
set_option maxHeartbeats 1000000 in
theorem putM_sound (hI : Inv G H W) (hA : RVs G W act a.tmps.toList) {t : TypeId} {m ix x : Operand} (hrun : execOp a.eval o = (do Instr.mapUpdate t (a.eval m) (a.eval ix) (a.eval x); pure .skip)) (h : opM.putM P act H t m ix x = some (r, H')) (hcd : H'.cd) : OpRes P G W o a r H' := by
  unfold opM.putM at h
  split at h
  · rename_i id hm
    split at h
    · rename_i cs hcs
      split at h
      · rename_i M hM
        split at h
        · rename_i k hix
          split at h
          · rename_i hkv
            split at h
            · rename_i hmb
              cases h
              obtain ⟨q1, q2, q3, q4⟩ := minfo_some hM
              have hc := (grant_cd (fun x => x) hcd).2
              have hmr := ev_rel hA m
              rw [hm] at hmr
              obtain ⟨b, e1, hd, es, clk, hb, hes⟩ := mp_block hI hcs hmr
              have hk := ev_rel hA ix
              rw [hix] at hk
              have hk2 : a.eval ix = k := by
                generalize a.eval ix = u at hk
                cases hk; rfl
              have hx := ev_rel hA x
              rcases (map_rel es.toList cs 0 hes hc).2 with ⟨n1, n2, n3, n4⟩ | ⟨n1, j, e, n2, n3, n4, n5, n6, n7⟩
              · obtain ⟨g1, g2⟩ := setObj_grown (.map (es.push { key := k, val := a.eval x, born := clk }) (clk + 1)) hb
                have hrv : RVs G W (mset M.kd k (ev act x) cs) (kvs (es.push { key := k, val := a.eval x, born := clk }).toList) := by
                  rw [n4, Array.toList_push, kvs_append]
                  exact hes.app (.cons (.v _) (.cons hx .nil))
                obtain ⟨x1, x2⟩ := hI.turned (mpAt_some hcs) hd g1 (t' := 999998) (vs' := (kvs (es.push { key := k, val := a.eval x, born := clk }).toList).toArray) (.inr (.inl ⟨rfl, _, _, g2, rfl⟩)) hrv (fun h => absurd rfl h.1)
                refine ⟨G, _, .skip, undef, ?_, .inr ⟨rfl, rfl⟩, x1, x2.same rfl rfl, .v _⟩
                rw [hrun, e1, hk2]
                simp only [Instr.mapUpdate, Sem.run_bind, run_underlying q1, Result.andThen_ok, getObj, Sem.run, hb, keyV_check q2 q3 hkv, Instr.findKey, run_underlying q2, n2, Sem.run_pure, setObj]
              · obtain ⟨g1, g2⟩ := setObj_grown (.map (es.modify j fun e => { e with key := k, val := a.eval x }) clk) hb
                have hml : (es.modify j fun e => { e with key := k, val := a.eval x }).toList = es.toList.set j { e with key := k, val := a.eval x } := by
                  rw [Array.toList_modify, set_modify _ n2]
                obtain ⟨x1, x2⟩ := hI.turned (mpAt_some hcs) hd g1 (t' := 999998) (vs' := (kvs (es.modify j fun e => { e with key := k, val := a.eval x }).toList).toArray) (.inr (.inl ⟨rfl, _, _, g2, rfl⟩)) (by rw [hml]; exact n6 _ _ hx) (fun h => absurd rfl h.1)
                refine ⟨G, _, .skip, undef, ?_, .inr ⟨rfl, rfl⟩, x1, x2.same rfl rfl, .v _⟩
                have hej : es[j]? = some e := by simpa using n2
                rw [hrun, e1, hk2]
                simp only [Nat.zero_add] at n3
                simp only [Instr.mapUpdate, Sem.run_bind, run_underlying q1, Result.andThen_ok, getObj, Sem.run, hb, keyV_check q2 q3 hkv, Instr.findKey, run_underlying q2, n3, Sem.run_pure, setObj, Instr.keyThatStays, hej, Option.map_some, Option.getD_some, sameNow_bits n5, if_true]
            · cases h
          · cases h
        · cases h
      · cases h
    · cases h
  · cases h
set_option maxHeartbeats 2000000 in
theorem opM_sound (hI : Inv G H W) (hA : RVs G W act a.tmps.toList) (h : opM P act H o = some (r, H')) (hcd : H'.cd) : OpRes P G W o a r H' := by
  unfold opM at h
  split at h
  · rename_i t rs hop
    split at h
    · cases h
      obtain ⟨G', e1, e2, e3⟩ := hI.newO (.map #[] 0) 999998 (cs := []) (vs := #[]) .nil (fun h => absurd rfl h.1) (fun W' e => .inr (.inl ⟨rfl, _, _, e, rfl⟩))
      refine ⟨G', _, .value (.map (some W.heap.size)), _, ?_, .inl rfl, e1, e2, .mp e3⟩
      rw [execOp, hop]
      rfl
    · cases h
  · rename_i t x ix ok hop
    split at h
    · rename_i id hm
      split at h
      · rename_i cs hcs
        split at h
        · rename_i M hM
          split at h
          · rename_i k hix
            split at h
            · rename_i hkv
              split at h
              · rename_i hz
                obtain ⟨q1, q2, q3, q4⟩ := minfo_some hM
                have hH : lookH P H M k cs = H' ∧ (r = .tuple [lookV P M.el M.z (mhas M.kd k cs) (mget M.kd k cs), .v (.bool (mhas M.kd k cs))] ∧ ok = true ∨ r = lookV P M.el M.z (mhas M.kd k cs) (mget M.kd k cs) ∧ ok = false) := by
                  split at h
                  · cases h; exact ⟨rfl, .inl ⟨rfl, rfl⟩⟩
                  · cases h; exact ⟨rfl, .inr ⟨rfl, rfl⟩⟩
                obtain ⟨rfl, hr⟩ := hH
                obtain ⟨hcd1, hsh⟩ := grant_cd (fun e hh => by rw [hh] at e; simpa using e) hcd
                have hc := (grant_cd (fun x => x) hcd1).2
                have hmr := ev_rel hA x
                rw [hm] at hmr
                obtain ⟨b, e1, hd, es, clk, hb, hes⟩ := mp_block hI hcs hmr
                have hk := ev_rel hA ix
                rw [hix] at hk
                have hk2 : a.eval ix = k := by
                  generalize a.eval ix = u at hk
                  cases hk; rfl
                have hI' : Inv G (lookH P H M k cs) W := hI.same rfl rfl
                have fin : ∀ c : Value, RV G W (lookV P M.el M.z (mhas M.kd k cs) (mget M.kd k cs)) c → (execOp a.eval o).run P W = .ok (.value (if ok then .tuple #[c, .bool (mhas M.kd k cs)] else c)) W → OpRes P G W o a r (lookH P H M k cs) := by
                  intro c hcr hrun
                  refine .same hI' hrun ?_
                  rcases hr with ⟨rfl, rfl⟩ | ⟨rfl, rfl⟩
                  · exact .tuple (.cons hcr (.cons (.v _) .nil))
                  · simpa using hcr
                rcases (map_rel es.toList cs 0 hes hc).2 with ⟨n1, n2, n3, n4⟩ | ⟨n1, j, e, n2, n3, n4, n5, n6, n7⟩
                · refine fin M.z (lookV_rel hz hsh (fun e => by rw [n1] at e; cases e) (fun _ => rfl)) ?_
                  rw [execOp, hop]
                  simp only [e1, hk2, Instr.lookup, Sem.run_bind, run_underlying q1, Result.andThen_ok, getObj, Sem.run, hb, keyV_check q2 q3 hkv, Instr.findKey, run_underlying q2, n2, Sem.run_pure, zero_run q4, n1]
                · refine fin e.val (lookV_rel hz hsh (fun _ => n4) (fun e => by rw [n1] at e; cases e)) ?_
                  rw [execOp, hop]
                  simp only [e1, hk2, Instr.lookup, Sem.run_bind, run_underlying q1, Result.andThen_ok, getObj, Sem.run, hb, keyV_check q2 q3 hkv, Instr.findKey, run_underlying q2, n3, Sem.run_pure, n1]
              · cases h
            · cases h
          · cases h
        · cases h
      · cases h
    · cases h
  · rename_i t m ix x hop
    exact putM_sound hI hA (by rw [execOp, hop]) h hcd
  · rename_i t m ix x hop
    exact putM_sound hI hA (by rw [execOp, hop]) h hcd
  · rename_i b t x y yt hop
    split at h
    · rename_i id hx hy
      split at h
      · rename_i k1 k2 hu
        have hxr := ev_rel hA x
        rw [hx] at hxr
        have hyr := ev_rel hA y
        rw [hy] at hyr
        obtain ⟨bb, hxe⟩ : ∃ bb, a.eval x = .map (some bb) := by
          generalize a.eval x = u at hxr
          cases hxr; exact ⟨_, rfl⟩
        have hye : a.eval y = .map none := by
          generalize a.eval y = u at hyr
          cases hyr; rfl
        have heq : (Op.equal t (.map (some bb)) (.map none)).run P W = .ok false W := by
          exact run_equal_map_nil W t k1 k2 (some bb) hu
        split at h
        · cases h
          refine .same hI (c := .bool false) ?_ (.v _)
          rw [execOp, hop]
          simp only [hxe, hye, eqGuard, binOp, Sem.run_bind, Bool.not_true, Bool.false_eq_true, if_false, heq, Result.andThen_ok, Sem.run_pure]
        · cases h
          refine .same hI (c := .bool true) ?_ (.v _)
          rw [execOp, hop]
          simp only [hxe, hye, eqGuard, binOp, Sem.run_bind, Bool.not_true, Bool.false_eq_true, if_false, heq, Result.andThen_ok, Sem.run_pure, Bool.not_false]
        · cases h
      · cases h
    · cases h
  · rename_i c hop
    split at h
    · rename_i hcal
      split at h
      · rename_i x t hargs htys
        split at h
        · rename_i id hm
          split at h
          · rename_i cs hcs
            split at h
            · rename_i k1 k2 hu
              cases h
              have hmr := ev_rel hA x
              rw [hm] at hmr
              obtain ⟨b, e1, hd, es, clk, hb, hes⟩ := mp_block hI hcs hmr
              have hl := mlen_rel es.toList cs hes
              refine .same hI (c := .int .i64 (mlen cs : Nat)) ?_ (.v _)
              rw [execOp, hop]
              simp [resolve, hcal, list1 hargs, list1 htys, invoke, builtin, Builtin.len_, run_underlying hu, e1, getObj, Sem.run, hb, hl, goInt]
            · cases h
          · cases h
        · cases h
      · cases h
    · rename_i hcal
      split at h
      · rename_i x t hargs htys
        split at h
        · rename_i id hm
          split at h
          · rename_i cs hcs
            split at h
            · rename_i M hM
              split at h
              · cases h
                obtain ⟨q1, q2, q3, q4⟩ := minfo_some hM
                have hmr := ev_rel hA x
                rw [hm] at hmr
                obtain ⟨b, e1, hd, es, clk, hb, hes⟩ := mp_block hI hcs hmr
                obtain ⟨g1, g2⟩ := setObj_grown (.map #[] clk) hb
                obtain ⟨x1, x2⟩ := hI.turned (mpAt_some hcs) hd g1 (t' := 999998) (cs' := []) (vs' := #[]) (.inr (.inl ⟨rfl, _, _, g2, rfl⟩)) .nil (fun h => absurd rfl h.1)
                refine ⟨G, _, .value (.tuple #[]), _, ?_, .inl rfl, x1, x2, .v _⟩
                rw [execOp, hop]
                simp [resolve, hcal, list1 hargs, list1 htys, invoke, builtin, Builtin.clear_, run_underlying q1, e1, getObj, setObj, Sem.run, hb]
              · cases h
            · cases h
          · cases h
        · cases h
      · cases h
    · rename_i hcal
      split at h
      · rename_i x ix t ts hargs htys
        split at h
        · rename_i id hm
          split at h
          · rename_i cs hcs
            split at h
            · rename_i M hM
              split at h
              · rename_i k hix
                split at h
                · rename_i hkv
                  split at h
                  · cases h
                    obtain ⟨q1, q2, q3, q4⟩ := minfo_some hM
                    have hc := (grant_cd (fun x => x) hcd).2
                    have hmr := ev_rel hA x
                    rw [hm] at hmr
                    obtain ⟨b, e1, hd, es, clk, hb, hes⟩ := mp_block hI hcs hmr
                    have hk := ev_rel hA ix
                    rw [hix] at hk
                    have hk2 : a.eval ix = k := by
                      generalize a.eval ix = u at hk
                      cases hk; rfl
                    have ht0 : c.argTypes[0]? = some t := by rw [← Array.getElem?_toList, htys]; rfl
                    have ha : c.args.map a.eval = #[a.eval x, a.eval ix] := by
                      apply Array.ext'
                      rw [Array.toList_map, hargs]; rfl
                    rcases (map_rel es.toList cs 0 hes hc).2 with ⟨n1, n2, n3, n4⟩ | ⟨n1, j, e, n2, n3, n4, n5, n6, n7⟩
                    · obtain ⟨g1, g2⟩ := setObj_grown (.map es clk) hb
                      obtain ⟨x1, x2⟩ := hI.turned (mpAt_some hcs) hd g1 (t' := 999998) (cs' := mdel M.kd k cs) (vs' := (kvs es.toList).toArray) (.inr (.inl ⟨rfl, _, _, g2, rfl⟩)) (by rw [n3]; exact hes) (fun h => absurd rfl h.1)
                      refine ⟨G, _, .value (.tuple #[]), _, ?_, .inl rfl, x1, x2.same rfl rfl, .v _⟩
                      rw [execOp, hop]
                      simp [resolve, hcal, ha, ht0, invoke, builtin, Builtin.delete_, run_underlying q1, e1, hk2, getObj, setObj, Sem.run, hb, keyV_check q2 q3 hkv, Instr.findKey, run_underlying q2, n2]
                    · obtain ⟨g1, g2⟩ := setObj_grown (.map (es.eraseIdxIfInBounds j) clk) hb
                      have hjl : j < es.size := by
                        have := (List.getElem?_eq_some_iff.1 n2).1
                        simpa using this
                      have hel : (es.eraseIdxIfInBounds j).toList = es.toList.eraseIdx j := by
                        simp [Array.eraseIdxIfInBounds, hjl]
                      obtain ⟨x1, x2⟩ := hI.turned (mpAt_some hcs) hd g1 (t' := 999998) (cs' := mdel M.kd k cs) (vs' := (kvs (es.eraseIdxIfInBounds j).toList).toArray) (.inr (.inl ⟨rfl, _, _, g2, rfl⟩)) (by rw [hel]; exact n7) (fun h => absurd rfl h.1)
                      refine ⟨G, _, .value (.tuple #[]), _, ?_, .inl rfl, x1, x2.same rfl rfl, .v _⟩
                      simp only [Nat.zero_add] at n3
                      rw [execOp, hop]
                      simp [resolve, hcal, ha, ht0, invoke, builtin, Builtin.delete_, run_underlying q1, e1, hk2, getObj, setObj, Sem.run, hb, keyV_check q2 q3 hkv, Instr.findKey, run_underlying q2, n3]
                  · cases h
                · cases h
              · cases h
            · cases h
          · cases h
        · cases h
      · cases h
    · cases h
  · cases h
theorem grant_keep (b : Bool) {p : Prop} (hb : b = true → p) : Keep H (grant H b p) := ⟨fun h => (cds_out hb h).1, rfl, rfl, rfl, Nat.le_refl _, Nat.le_refl _, fun _ _ _ => rfl, fun _ _ _ => rfl⟩
theorem putM_keep {t : TypeId} {m ix x : Operand} (h : opM.putM P act H t m ix x = some (r, H')) : Keep H H' := by
  unfold opM.putM at h
  repeat' (split at h)
  all_goals first
    | (cases h; done)
    | (cases h
       rename_i hmb
       exact Keep.setS (grant_keep _ (fun x => x)) ⟨rfl, rfl, rfl, rfl, rfl⟩ (of_decide_eq_true hmb))
theorem opM_keep (h : opM P act H o = some (r, H')) : Keep H H' := by
  unfold opM at h
  repeat' (split at h)
  all_goals first
    | (cases h; done)
    | exact putM_keep h
    | (cases h; exact .refl _)
    | (cases h; exact .new _ _)
    | (cases h
       exact Keep.trans (grant_keep _ (fun x => x)) (grant_keep _ (fun e hh => by rw [hh] at e; simpa using e)))
    | (cases h
       rename_i hmb
       exact Keep.setS (grant_keep _ (fun x => x)) ⟨rfl, rfl, rfl, rfl, rfl⟩ (of_decide_eq_true hmb))
    | (cases h
       rename_i hmb
       exact Keep.set _ (of_decide_eq_true hmb))
end
end Go.Proofs.Ytdijakobocnceaa.AE
