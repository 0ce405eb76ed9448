/-
  A region that draws its order, run in each order of its turns: what looks at slots alone is done ahead of all others, for it comes to the same at any time.
-/
import Derived.Test.YtdijakobocnceaaAEAll
import Derived.Test.YtdijakobocnceaaAEStill
namespace Go.Proofs.Ytdijakobocnceaa.AE
set_option maxRecDepth 100000
open Go.RowKit
/-- All that looks at its slot comes behind it. -/
def warF (os : Array Oper) (B : List Nat) (j : Nat) : Bool := match os[j]? with
  | some o => match o.dst with
    | some d => os.toList.zipIdx.all fun (p, i) => i == j || (!(p.looksAt os).contains d || (B.getD i 0).testBit j)
    | none => true
  | none => false
def freeAt (os : Array Oper) (F : List Bool) (act : List AV) (i : Nat) : Bool := F.getD i false && match os[i]? with
  | some o => slotOnly act o && ((call? act o).isNone && match gd os act o with
    | .yes => true
    | _ => false)
  | none => false
def stepH (P : Program) (ro : Nat → Option (List Value)) (C : Hk) (mu : FuncId → Bool) (os : Array Oper) (rec : Array Bool → List AV → AH → Option Prop) (L : Array Bool) (act : List AV) (H : AH) (i : Nat) : Option Prop := match os[i]? with
  | some o => match gd os act o with
    | .yes => stepDK P ro C mu act H o fun x h => rec (L.setIfInBounds i true) (put act o.dst x) h
    | _ => none
  | none => none
/-- The region in every order of its turns. -/
def allH (P : Program) (ro : Nat → Option (List Value)) (C : Hk) (mu : FuncId → Bool) (os : Array Oper) (F : List Bool) (K : List AV → AH → Option Prop) : Nat → Array Bool → List AV → AH → Option Prop
  | 0, L, act, H => match Region.ready .any os L with
    | [] => K act H
    | _ :: _ => none
  | n + 1, L, act, H => match Region.ready .any os L with
    | [] => K act H
    | i :: r => match (i :: r).find? (freeAt os F act) with
      | some j => stepH P ro C mu os (allH P ro C mu os F K n) L act H j
      | none => allL (stepH P ro C mu os (allH P ro C mu os F K n) L act H) i r
section
variable {P : Program} {ro : Nat → Option (List Value)} {Ck : Hk} {C : Hd} {mu : FuncId → Bool} {os : Array Oper} {F : List Bool} {K : List AV → AH → Option Prop} {R : List AV → AH → Prop}
theorem stepH_out (hL : Like Ck C) {rec : Array Bool → List AV → AH → Option Prop} {L : Array Bool} {act : List AV} {H : AH} {j : Nat} {q : Prop} (h : stepH P ro Ck mu os rec L act H j = some q) :
    ∃ o rh, os[j]? = some o ∧ gd os act o = .yes ∧ stepD P ro C mu act H o = some rh ∧ rec (L.setIfInBounds j true) (put act o.dst rh.1) rh.2 = some q := by
  unfold stepH at h
  split at h
  · rename_i o ho
    split at h
    · rename_i hg
      rw [stepDK_eq hL] at h
      obtain ⟨rh, h1, h2⟩ := thn_of h
      exact ⟨o, rh, ho, hg, h1, h2⟩
    · cases h
  · cases h
theorem allH_step (hL : Like Ck C) {n : Nat} {L : Array Bool} {act : List AV} {H : AH} {p : Prop} (h : allH P ro Ck mu os F K (n + 1) L act H = some p) (hp : p) :
    (∃ j ∈ Region.ready .any os L, freeAt os F act j = true ∧ ∃ o rh q, os[j]? = some o ∧ gd os act o = .yes ∧ stepD P ro C mu act H o = some rh ∧ allH P ro Ck mu os F K n (L.setIfInBounds j true) (put act o.dst rh.1) rh.2 = some q ∧ q) ∨
    (∀ j ∈ Region.ready .any os L, ∃ o rh q, os[j]? = some o ∧ gd os act o = .yes ∧ stepD P ro C mu act H o = some rh ∧ allH P ro Ck mu os F K n (L.setIfInBounds j true) (put act o.dst rh.1) rh.2 = some q ∧ q) := by
  unfold allH at h
  split at h
  · rename_i e; right; intro j hj; rw [e] at hj; cases hj
  · rename_i i r e
    rw [e]
    split at h
    · rename_i j hf
      obtain ⟨o, rh, h1, h2, h3, h4⟩ := stepH_out hL h
      exact .inl ⟨j, List.mem_of_find?_eq_some hf, List.find?_some hf, o, rh, p, h1, h2, h3, h4, hp⟩
    · right
      intro j hj
      obtain ⟨q, hq, hqp⟩ := allL_mem h hp j hj
      obtain ⟨o, rh, h1, h2, h3, h4⟩ := stepH_out hL hq
      exact ⟨o, rh, q, h1, h2, h3, h4, hqp⟩
theorem allH_nil {n : Nat} {L : Array Bool} {act : List AV} {H : AH} (e : Region.ready .any os L = []) : allH P ro Ck mu os F K n L act H = K act H := by
  cases n <;> (unfold allH; rw [e])
theorem allH_cd (hL : Like Ck C) (hC : ∀ g args H r H', C g args H = some (r, H') → Keep H H') (hK : ∀ act H p, K act H = some p → p → H.cd ∧ R act H) : ∀ (n : Nat) (L : Array Bool) (act : List AV) (H : AH) (p : Prop), allH P ro Ck mu os F K n L act H = some p → p → H.cd
  | 0, L, act, H, p, h, hp => by
    unfold allH at h
    split at h
    · exact (hK _ _ _ h hp).1
    · cases h
  | n + 1, L, act, H, p, h, hp => by
    cases e : Region.ready .any os L with
    | nil => rw [allH_nil e] at h; exact (hK _ _ _ h hp).1
    | cons i r =>
      rcases allH_step hL h hp with ⟨j, _, _, o, rh, q, _, _, h1, h2, h3⟩ | hall
      · exact (stepD_keep hC h1).cd (allH_cd hL hC hK n _ _ _ _ h2 h3)
      · obtain ⟨o, rh, q, _, _, h1, h2, h3⟩ := hall i (by rw [e]; exact List.mem_cons_self ..)
        exact (stepD_keep hC h1).cd (allH_cd hL hC hK n _ _ _ _ h2 h3)
theorem ready_out {L : Array Bool} {i : Nat} (hi : i ∈ Region.ready .any os L) : i < os.size ∧ lst L i = false ∧ Rd os.toList (lst L) i := by
  obtain ⟨h1, o, h2, h3⟩ := mem_ready.1 hi
  refine ⟨(Array.getElem?_eq_some_iff.1 h2).1, h1, fun p hp e he hb => ?_⟩
  have : p = o := by rw [Array.getElem?_toList] at hp; rw [h2] at hp; cases hp; rfl
  subst this
  have := h3 e (by simpa using he) hb
  unfold lst
  simp only [Array.getD_eq_getD_getElem?] at this ⊢
  cases hq : L[e.on]? with
  | none => rfl
  | some b => rw [hq] at this; exact this
theorem ready_in (hS : Stat os.toList os) {L : Array Bool} (hs : L.size = os.size) {i : Nat} (hi : i < os.size) (hl : lst L i = false) (hr : Rd os.toList (lst L) i) : i ∈ Region.ready .any os L := by
  refine mem_ready.2 ⟨hl, os[i], Array.getElem?_eq_getElem hi, fun e he hb => ?_⟩
  have ho : os.toList[i]? = some os[i] := by rw [Array.getElem?_toList]; exact Array.getElem?_eq_getElem hi
  have hlt := hS.back i os[i] ho e (by simpa using he) hb
  have := hr _ ho e (by simpa using he) hb
  unfold lst at this
  simp only [Array.getD_eq_getD_getElem?] at this ⊢
  rw [Array.getElem?_eq_getElem (show e.on < L.size by omega)] at this ⊢
  exact this
theorem ready_nil (hS : Stat os.toList os) {L : Array Bool} (hs : L.size = os.size) (h : Region.ready .any os L = []) : ∀ i, i < os.size → lst L i = true := by
  intro i
  induction i using Nat.strongRecOn with
  | _ i ih =>
    intro hi
    cases hli : lst L i with
    | true => rfl
    | false =>
      exfalso
      have : i ∈ Region.ready .any os L := ready_in hS hs hi hli fun o ho e he hb => by
        have hlt := hS.back i o ho e he hb
        exact ih e.on hlt (by omega)
      rw [h] at this; cases this
/-- An operation that was done ahead: it comes to what stands in its slot. -/
def Was (P : Program) (ro : Nat → Option (List Value)) (C : Hd) (mu : FuncId → Bool) (os : Array Oper) (act : List AV) (o : Oper) : Prop :=
  ∃ (e : List AV) (v : AV) (X X' : AH), (∀ s ∈ o.looksAt os, e[s]? = act[s]?) ∧ gd os e o = .yes ∧ call? e o = none ∧ slotOnly e o = true ∧ stepD P ro C mu e X o = some (v, X') ∧ X'.cd ∧ hb X' = hb X ∧ put act o.dst v = act
structure Ah (P : Program) (ro : Nat → Option (List Value)) (C : Hd) (mu : FuncId → Bool) (os : Array Oper) (F : List Bool) (La Lh : Nat → Bool) (a b : List AV) : Prop where
  len : a.length = b.length
  sub : ∀ i, La i = true → Lh i = true
  eq : ∀ s, (∀ i o, os.toList[i]? = some o → Lh i = true → La i = false → o.dst ≠ some s) → a[s]? = b[s]?
  was : ∀ i o, os.toList[i]? = some o → Lh i = true → La i = false → Was P ro C mu os b o
  fr : ∀ i o, os.toList[i]? = some o → Lh i = true → La i = false → F.getD i false = true
theorem put_len (act : List AV) (d : Option Tmp) (x : AV) : (put act d x).length = act.length := by cases d <;> simp [put]
theorem put_other {act : List AV} {d : Option Tmp} {x : AV} {s : Nat} (h : d ≠ some s) : (put act d x)[s]? = act[s]? := by
  cases d with
  | none => rfl
  | some d => exact List.getElem?_set_ne (fun e => h (by rw [e]))
theorem put_comm {act : List AV} {d d' : Option Tmp} {x y : AV} (h : ∀ s, d = some s → d' ≠ some s) : put (put act d x) d' y = put (put act d' y) d x := by
  cases d with
  | none => rfl
  | some d => cases d' with
    | none => rfl
    | some d' => exact List.set_comm _ _ (fun e => h d rfl (by rw [e]))
theorem Was.put {act : List AV} {o p : Oper} {x : AV} (h : Was P ro C mu os act o) (h1 : ∀ s ∈ o.looksAt os, p.dst ≠ some s) (h2 : ∀ s, p.dst = some s → o.dst ≠ some s) : Was P ro C mu os (put act p.dst x) o := by
  obtain ⟨e, v, X, X', w1, w2, w3, w4, w5, w6, w7, w8⟩ := h
  refine ⟨e, v, X, X', fun s hs => (w1 s hs).trans (put_other (h1 s hs)).symm, w2, w3, w4, w5, w6, w7, ?_⟩
  rw [put_comm h2, w8]
theorem dn_set {L : Array Bool} {i : Nat} (hi : i < L.size) (hD : Dn os.toList (lst L)) (hr : Rd os.toList (lst L) i) : Dn os.toList (lst (L.setIfInBounds i true)) := by
  intro j p hj hlj e' he' hb
  rw [lst_set hi] at hlj ⊢
  rw [Bool.or_eq_true] at hlj ⊢
  left
  rcases hlj with hlj | hlj
  · exact hD j p hj hlj e' he' hb
  · have : j = i := by simpa using hlj
    subst this
    exact hr p hj e' he' hb
theorem slot_same {act : List AV} {H : AH} {o : Oper} {rh : AV × AH} (hc : call? act o = none) (hs : slotOnly act o = true) (h : stepD P ro C mu act H o = some rh) : Same H rh.2 := by
  refine stepD_still (mu := mu) ?_ h
  unfold turns
  rw [hc]
  have : still act o = true := by
    unfold slotOnly at hs
    unfold still
    generalize o.op = q at hs ⊢
    cases q <;> first
      | rfl
      | (cases hs; done)
      | exact hs
      | (rename_i c
         dsimp only at hs ⊢
         split at hs <;> first
           | (cases hs; done)
           | (rename_i e; simp [e]))
  rw [this]; rfl
theorem war_out {B : List Nat} {j i : Nat} (h : warF os B j = true) {o p : Oper} {d : Nat} (hj : os.toList[j]? = some o) (hi : os.toList[i]? = some p) (hne : i ≠ j) (hd : o.dst = some d) (hl : d ∈ p.looksAt os) : (B.getD i 0).testBit j = true := by
  unfold warF at h
  rw [Array.getElem?_toList] at hj
  rw [hj] at h
  simp only [hd] at h
  have := zip_all h i p hi
  have hc : (p.looksAt os).contains d = true := by simpa using hl
  simp only [hc, Bool.or_eq_true, beq_iff_eq] at this
  rcases this with h1 | h1 | h1
  · exact absurd h1 hne
  · cases h1
  · exact h1
theorem Ah.ahead {La Lh : Array Bool} (hS : Stat os.toList os) (hF : ∀ j, F.getD j false = true → warF os (bsets os.toList []) j = true) (hDh : Dn os.toList (lst Lh)) {a b : List AV} (h : Ah P ro C mu os F (lst La) (lst Lh) a b) {j : Nat} {o : Oper} (hsz : Lh.size = os.size) (hj : os.toList[j]? = some o) (hjs : j < os.size) (hnj : lst Lh j = false) (hfj : F.getD j false = true) {v : AV} (hw : Was P ro C mu os (put b o.dst v) o) : Ah P ro C mu os F (lst La) (lst (Lh.setIfInBounds j true)) a (put b o.dst v) where
  len := by rw [put_len]; exact h.len
  sub := fun i hi => by rw [lst_set (by omega), h.sub i hi]; rfl
  eq := fun s hs => by
    have h1 : o.dst ≠ some s := hs j o hj (by rw [lst_set (by omega)]; simp) (by
      cases hl : lst La j with
      | false => rfl
      | true => have := h.sub j hl; rw [hnj] at this; cases this)
    rw [put_other h1]
    exact h.eq s fun i p hp hl hn => hs i p hp (by rw [lst_set (by omega), hl]; rfl) hn
  was := fun i p hp hl hn => by
    rw [lst_set (by omega), Bool.or_eq_true] at hl
    by_cases hij : i = j
    · subst hij
      rw [hj] at hp; cases hp
      exact hw
    have hl : lst Lh i = true := by
      rcases hl with hl | hl
      · exact hl
      · exact absurd (by simpa using hl) hij
    refine (h.was i p hp hl hn).put (fun s hs he => ?_) (fun s he => hS.dist j i o p s hj hp (fun e => hij e.symm) he)
    have hb := war_out (hF j hfj) hj hp (fun e => hij e) he hs
    have := bs_spec hS.back hDh i j hb (fun q hq => hDh i q hq hl)
    rw [hnj] at this; cases this
  fr := fun i p hp hl hn => by
    rw [lst_set (by omega), Bool.or_eq_true] at hl
    by_cases hij : i = j
    · subst hij; exact hfj
    · refine h.fr i p hp ?_ hn
      rcases hl with hl | hl
      · exact hl
      · exact absurd (by simpa using hl) hij
theorem free_out {act : List AV} {j : Nat} {o : Oper} (h : freeAt os F act j = true) (ho : os[j]? = some o) : F.getD j false = true ∧ slotOnly act o = true ∧ call? act o = none := by
  unfold freeAt at h
  rw [ho] at h
  simp only [Bool.and_eq_true, Option.isNone_iff_eq_none] at h
  exact ⟨h.1, h.2.1, h.2.2.1⟩
theorem set_both {a b : List AV} (h : a.length = b.length) (s : Nat) (v : AV) : (a.set s v)[s]? = (b.set s v)[s]? := by
  rw [List.getElem?_set_self', List.getElem?_set_self']
  by_cases hs : s < a.length
  · rw [List.getElem?_eq_getElem hs, List.getElem?_eq_getElem (by omega)]; rfl
  · rw [List.getElem?_eq_none (by omega), List.getElem?_eq_none (by omega)]
theorem allH_end (hS : Stat os.toList os) (hK : ∀ act H p, K act H = some p → p → H.cd ∧ R act H) {G0 : Gh} {W0 : World} {ds : List Deferred} {Q : Exit → Act → World → Prop}
    (hQ : ∀ act H G (a : Act) W, R act H → Ext G0 W0 G W → Inv G H W → RVs G W act a.tmps.toList → a.defers = ds → Q .normal a W)
    {n : Nat} {La Lh : Array Bool} {act acth : List AV} {H : AH} {G : Gh} {a : Act} {W : World} {p : Prop} (sa : La.size = os.size) (sh : Lh.size = os.size) (hl : ∀ i, i < os.size → lst La i = true)
    (h : allH P ro Ck mu os F K n Lh acth H = some p) (hp : p) (hE : Ext G0 W0 G W) (hI : Inv G H W) (hA : RVs G W act a.tmps.toList) (hd : a.defers = ds) (hAh : Ah P ro C mu os F (lst La) (lst Lh) act acth) : Region.ready .any os La = [] ∧ Q .normal a W := by
  have nil : ∀ L : Array Bool, (∀ i, i < os.size → lst L i = true) → Region.ready .any os L = [] := fun L hl => by
    rcases hr : Region.ready .any os L with _ | ⟨i, r⟩
    · rfl
    · obtain ⟨h1, h2, _⟩ := ready_out (by rw [hr]; exact List.mem_cons_self .. : i ∈ Region.ready .any os L)
      rw [hl i h1] at h2; cases h2
  refine ⟨nil La hl, ?_⟩
  rw [allH_nil (nil Lh fun i hi => hAh.sub i (hl i hi))] at h
  have e : act = acth := List.ext_getElem? fun s => hAh.eq s fun i o hi _ hn => by
    have hlt : i < os.size := by have := (List.getElem?_eq_some_iff.1 hi).1; simpa using this
    rw [hl i hlt] at hn; cases hn
  subst e
  exact hQ _ _ G a W (hK _ _ _ h hp).2 hE hI hA hd
theorem allH_go (hN : Named P) (hC : HSound P ro C) (hL : Like Ck C) (hS : Stat os.toList os) (hF : ∀ j, F.getD j false = true → warF os (bsets os.toList []) j = true) (hK : ∀ act H p, K act H = some p → p → H.cd ∧ R act H) {G0 : Gh} {W0 : World} (hRo : Ro ro G0 W0) {ds : List Deferred} {Q : Exit → Act → World → Prop}
    (hQ : ∀ act H G (a : Act) W, R act H → Ext G0 W0 G W → Inv G H W → RVs G W act a.tmps.toList → a.defers = ds → Q .normal a W) :
    ∀ (m n fuel : Nat) (La Lh : Array Bool) (act acth : List AV) (H : AH) (G : Gh) (a : Act) (W : World) (p : Prop), n + fuel ≤ m → La.size = os.size → Lh.size = os.size → open_ os.size La ≤ fuel → Dn os.toList (lst La) → Dn os.toList (lst Lh) →
      allH P ro Ck mu os F K n Lh acth H = some p → p → Ext G0 W0 G W → Inv G H W → RVs G W act a.tmps.toList → a.defers = ds → Ah P ro C mu os F (lst La) (lst Lh) act acth → wpAny P .any os Q fuel La a W := by
  have hCk : ∀ g args H r H', C g args H = some (r, H') → Keep H H' := fun g args H r H' h => (hC g args H r H' h).1
  intro m
  induction m with
  | zero =>
    intro n fuel La Lh act acth H G a W p hm sa sh ho hDa hDh h hp hE hI hA hd hAh
    have hn0 : n = 0 := by omega
    have hf0 : fuel = 0 := by omega
    subst hn0 hf0
    have hl : ∀ i, i < os.size → lst La i = true := fun i hi => by
      unfold open_ at ho
      have h0 : (List.range os.size).countP (fun i => !lst La i) = 0 := by omega
      rw [List.countP_eq_zero] at h0
      have := h0 i (List.mem_range.2 hi)
      simpa using this
    exact allH_end hS hK hQ sa sh hl h hp hE hI hA hd hAh
  | succ m ih =>
    intro n fuel La Lh act acth H G a W p hm sa sh ho hDa hDh h hp hE hI hA hd hAh
    by_cases hfree : ∃ k, n = k + 1 ∧ ∃ j ∈ Region.ready .any os Lh, freeAt os F acth j = true ∧ ∃ o rh q, os[j]? = some o ∧ gd os acth o = .yes ∧ stepD P ro C mu acth H o = some rh ∧ allH P ro Ck mu os F K k (Lh.setIfInBounds j true) (put acth o.dst rh.1) rh.2 = some q ∧ q
    · obtain ⟨k, rfl, j, hj, hfr, o, ⟨v, X'⟩, q, ho1, hg, hst, hq, hqp⟩ := hfree
      obtain ⟨hjs, hnj, hrd⟩ := ready_out hj
      have hj' : os.toList[j]? = some o := by rw [Array.getElem?_toList]; exact ho1
      obtain ⟨f1, f2, f3⟩ := free_out hfr ho1
      have hcd : X'.cd := allH_cd hL hCk hK k _ _ _ _ hq hqp
      have hsame := slot_same f3 f2 hst
      have hself : ∀ s ∈ o.looksAt os, o.dst ≠ some s := fun s hs he => by
        rcases hS.looks j j o o s hj' hj' he hs with ⟨x, _⟩ | ⟨x, _⟩ <;> omega
      have hpp : put (put acth o.dst v) o.dst v = put acth o.dst v := by cases o.dst <;> simp [put]
      have hw : Was P ro C mu os (put acth o.dst v) o := ⟨acth, v, H, X', fun s hs => (put_other (hself s hs)).symm, hg, f3, f2, hst, hcd, hsame.hb, hpp⟩
      exact ih k fuel La (Lh.setIfInBounds j true) act (put acth o.dst v) X' G a W q (by omega) sa (by simpa using sh) ho hDa (dn_set (by omega) hDh hrd) hq hqp hE (hI.hb hsame.hb) hA hd (hAh.ahead hS hF hDh sh hj' hjs hnj f1 hw)
    have hall : ∀ j ∈ Region.ready .any os Lh, ∃ k, n = k + 1 ∧ ∃ o rh q, os[j]? = some o ∧ gd os acth o = .yes ∧ stepD P ro C mu acth H o = some rh ∧ allH P ro Ck mu os F K k (Lh.setIfInBounds j true) (put acth o.dst rh.1) rh.2 = some q ∧ q := by
      intro j hj
      cases n with
      | zero =>
        unfold allH at h
        split at h
        · rename_i e; rw [e] at hj; cases hj
        · cases h
      | succ k =>
        rcases allH_step hL h hp with hx | hx
        · exact absurd ⟨k, rfl, hx⟩ hfree
        · exact ⟨k, rfl, hx j hj⟩
    cases fuel with
    | zero =>
      have hl : ∀ i, i < os.size → lst La i = true := fun i hi => by
        unfold open_ at ho
        have h0 : (List.range os.size).countP (fun i => !lst La i) = 0 := by omega
        rw [List.countP_eq_zero] at h0
        have := h0 i (List.mem_range.2 hi)
        simpa using this
      exact allH_end hS hK hQ sa sh hl h hp hE hI hA hd hAh
    | succ f =>
    refine ⟨fun hr => (allH_end hS hK hQ sa sh (ready_nil hS sa hr) h hp hE hI hA hd hAh).2, fun j hj => ?_⟩
    obtain ⟨hjs, hnj, hrd⟩ := ready_out hj
    have hoj : os[j]? = some os[j] := Array.getElem?_eq_getElem hjs
    have hj' : os.toList[j]? = some os[j] := by rw [Array.getElem?_toList]; exact hoj
    generalize os[j] = o at hoj hj'
    have hopen : open_ os.size (La.setIfInBounds j true) ≤ f := by have := open_set hjs sa hnj; omega
    have hset : ∀ i, lst (La.setIfInBounds j true) i = (lst La i || i == j) := fun i => lst_set (by omega)
    have hagree : ∀ s ∈ o.looksAt os, act[s]? = acth[s]? := fun s hs => hAh.eq s fun i p hi hlh hla he => by
      have hne : j ≠ i := by
        rintro rfl
        rw [hj'] at hi; cases hi
        rcases hS.looks j j o o s hj' hj' he hs with ⟨x, _⟩ | ⟨x, _⟩ <;> omega
      have hb := war_out (hF i (hAh.fr i p hi hlh hla)) hi hj' hne he hs
      have := bs_spec hS.back hDa j i hb hrd
      rw [hla] at this; cases this
    obtain ⟨g1, g2⟩ := ev_of hagree
    cases hlj : lst Lh j with
    | true =>
      obtain ⟨e, v, X, X', w1, w2, w3, w4, w5, w6, w7, w8⟩ := hAh.was j o hj' hlj hnj
      obtain ⟨k1, k2⟩ := ev_of fun s hs => (hagree s hs).trans (w1 s hs).symm
      have st : stepD P ro C mu act (X.bt H.blks H.tips) o = some (v, X'.bt H.blks H.tips) := by
        rw [stepD_congr (P := P) (ro := ro) (C := C) (mu := mu) k1]
        exact stepD_to w3 (slot_free w4 (stepD_op w3 (slotOnly_inv w4) w5))
      unfold wpOp
      rw [hoj]
      dsimp only
      rw [wantA_eq hA (by rw [k2, w2]; intro h; cases h), if_pos (by unfold wantA; rw [k2, w2])]
      left
      refine stepD_sound hN hC (hI.hb (H' := X.bt H.blks H.tips) rfl) (hRo.ext hE) hA st w6 fun G' W' c x1 x2 x3 => ?_
      refine ih n f (La.setIfInBounds j true) Lh (put act o.dst v) acth H G' _ W' p (by omega) (by simpa using sa) sh hopen (dn_set (by omega) hDa hrd) hDh h hp (hE.trans x1) (x2.hb rfl) (put_rel (hA.ext x1) o.dst x3) ((put_defers _ _).trans hd) ?_
      refine ⟨by rw [put_len]; exact hAh.len, fun i hi => ?_, fun s hs => ?_, fun i q hi hlh hla => ?_, fun i q hi hlh hla => ?_⟩
      · rw [hset, Bool.or_eq_true] at hi
        rcases hi with hi | hi
        · exact hAh.sub i hi
        · have : i = j := by simpa using hi
          subst this; exact hlj
      · by_cases hd2 : o.dst = some s
        · rw [← w8, hd2]
          exact set_both hAh.len s v
        · rw [put_other hd2]
          refine hAh.eq s fun i q hi hlh hla => ?_
          by_cases hij : i = j
          · subst hij
            rw [hj'] at hi; cases hi
            exact hd2
          · exact hs i q hi hlh (by rw [hset, hla]; simpa using hij)
      · rw [hset, Bool.or_eq_false_iff] at hla
        exact hAh.was i q hi hlh hla.1
      · rw [hset, Bool.or_eq_false_iff] at hla
        exact hAh.fr i q hi hlh hla.1
    | false =>
      have hjr : j ∈ Region.ready .any os Lh := ready_in hS sh hjs hlj fun p hp e he hb => hAh.sub _ (hrd p hp e he hb)
      obtain ⟨k, rfl, o', ⟨r, H'⟩, q, ho1, hg, hst, hq, hqp⟩ := hall j hjr
      rw [hoj] at ho1
      cases ho1
      have hcd : H'.cd := allH_cd hL hCk hK k _ _ _ _ hq hqp
      have hsetH : ∀ i, lst (Lh.setIfInBounds j true) i = (lst Lh i || i == j) := fun i => lst_set (by omega)
      unfold wpOp
      rw [hoj]
      dsimp only
      rw [wantA_eq hA (by rw [g2, hg]; intro h; cases h), if_pos (by unfold wantA; rw [g2, hg])]
      left
      refine stepD_sound hN hC hI (hRo.ext hE) hA (by rw [stepD_congr (P := P) (ro := ro) (C := C) (mu := mu) g1]; exact hst) hcd fun G' W' c x1 x2 x3 => ?_
      refine ih k f (La.setIfInBounds j true) (Lh.setIfInBounds j true) (put act o.dst r) (put acth o.dst r) H' G' _ W' q (by omega) (by simpa using sa) (by simpa using sh) hopen (dn_set (by omega) hDa hrd) (dn_set (by omega) hDh fun p hp e he hb => hAh.sub _ (hrd p hp e he hb)) hq hqp (hE.trans x1) x2 (put_rel (hA.ext x1) o.dst x3) ((put_defers _ _).trans hd) ?_
      have old : ∀ i, lst (Lh.setIfInBounds j true) i = true → lst (La.setIfInBounds j true) i = false → lst Lh i = true ∧ lst La i = false := fun i h1 h2 => by
        rw [hset, Bool.or_eq_false_iff] at h2
        rw [hsetH, Bool.or_eq_true] at h1
        rcases h1 with h1 | h1
        · exact ⟨h1, h2.1⟩
        · rw [h2.2] at h1; cases h1
      refine ⟨by rw [put_len, put_len]; exact hAh.len, fun i hi => ?_, fun s hs => ?_, fun i p hi hlh hla => ?_, fun i p hi hlh hla => ?_⟩
      · rw [hset, Bool.or_eq_true] at hi
        rw [hsetH, Bool.or_eq_true]
        rcases hi with hi | hi
        · exact .inl (hAh.sub i hi)
        · exact .inr hi
      · by_cases hd2 : o.dst = some s
        · rw [hd2]
          exact set_both hAh.len s r
        · rw [put_other hd2, put_other hd2]
          refine hAh.eq s fun i p hi hlh hla => ?_
          have hij : i ≠ j := by rintro rfl; rw [hlj] at hlh; cases hlh
          exact hs i p hi (by rw [hsetH, hlh]; rfl) (by rw [hset, hla]; simpa using hij)
      · obtain ⟨h1, h2⟩ := old i hlh hla
        have hij : i ≠ j := by rintro rfl; rw [hlj] at h1; cases h1
        refine (hAh.was i p hi h1 h2).put (fun s hs he => ?_) fun s he => hS.dist j i o p s hj' hi (fun e => hij e.symm) he
        rcases hS.looks i j p o s hi hj' he hs with ⟨_, hb⟩ | ⟨_, hb⟩
        · have := bs_spec hS.back hDh i j hb (fun q hq => hDh i q hq h1)
          rw [hlj] at this; cases this
        · have := bs_spec hS.back hDa j i hb hrd
          rw [h2] at this; cases this
      · obtain ⟨h1, h2⟩ := old i hlh hla
        exact hAh.fr i p hi h1 h2
end
def fList (os : Array Oper) (B : List Nat) : List Bool := (List.range os.size).map (warF os B)
theorem fList_out {os : Array Oper} {B : List Nat} {j : Nat} (h : (fList os B).getD j false = true) : warF os B j = true := by
  unfold fList at h
  rw [List.getD_eq_getElem?_getD, List.getElem?_map] at h
  by_cases hj : j < os.size
  · rw [List.getElem?_range hj] at h
    exact h
  · rw [List.getElem?_eq_none (by simp; omega)] at h
    cases h
noncomputable def ordR (ro : Nat → Option (List Value)) (mu : FuncId → Bool) (pr : FuncId → Option (List AV → AH → Ans)) (d : Nat) (c : Code) (act : List AV) (H : AH) (K : Kt Prop) : Option Prop := match c with
  | .region _ os draw => match draw with
    | true => match stat os.toList (bsets os.toList []) os with
      | true => forceL (fList os (bsets os.toList [])) fun F => allH Try.prog ro (fnK Try.prog ro mu pr d) mu os F (K .normal) os.size (Array.replicate os.size false) act H
      | false => none
    | false => none
  | _ => none
/-- A drawn region, run in each order of its turns. -/
theorem Tr.of_ord {ro : Nat → Option (List Value)} {mu : FuncId → Bool} {pr : FuncId → Option (List AV → AH → Ans)} {d : Nat} {c : Code} {act : List AV} {H : AH} {R : Exit → List AV → AH → Prop} (hp : Known ro pr) {is : List Nat} {X : Option Prop}
    (e : ordR ro mu pr d c act H (kp is R) = X) (h : holds X) (hm : Flats mu pr := by intro g h; cases h) : Tr Try.prog ro c act H R := by
  intro G W a hI hR hA
  cases X with
  | none => exact h.elim
  | some p =>
    have hpp : p := h
    cases c with
    | region id os draw =>
      cases draw with
      | false => cases e
      | true =>
        obtain ⟨d1, d2⟩ := hI.drew
        unfold ordR at e
        dsimp only at e
        split at e
        · rename_i hst
          rw [forceL_eq] at e
          refine wp_region_any mixed (allH_go (C := fn Try.prog ro (dr Try.prog ro mu) pr d) (R := fun a h => R .normal (keepI 0 is a) (tidy h)) named (run_sound' hp hm d) (fnK_like pr d) (stat_spec hst) (fun j hj => fList_out hj) ?_ (hR.ext d1) (ds := a.defers) (fun act' H' G' a' W' q x1 x2 x3 x4 => ?_) (os.size + os.size) os.size os.size (Array.replicate os.size false) (Array.replicate os.size false) act act H G a W.drew p (Nat.le_refl _) (by simp) (by simp) ?_ ?_ ?_ e hpp (Ext.refl _ _) d2 (hA.ext d1) rfl ⟨rfl, fun _ h => h, fun _ _ => rfl, fun i o _ h1 h2 => (by rw [h1] at h2; cases h2), fun i o _ h1 h2 => (by rw [h1] at h2; cases h2)⟩)
          · intro act H q hk hq
            have : (H.cd ∧ R .normal (keepI 0 is act) (tidy H)) = q := by simpa [kp] using hk
            rw [← this] at hq
            exact hq
          · exact ⟨_, _, G', q, d1.trans x1, inv_tidy x2, keepI_rel _ _ x3, x4⟩
          · unfold open_
            exact Nat.le_trans List.countP_le_length (by simp)
          · intro i o ho hl
            have := (List.getElem?_eq_some_iff.1 ho).1
            simp at this
            simp [lst, Array.getD_eq_getD_getElem?, this] at hl
          · intro i o ho hl
            have := (List.getElem?_eq_some_iff.1 ho).1
            simp at this
            simp [lst, Array.getD_eq_getD_getElem?, this] at hl
        · cases e
    | _ => cases e
end Go.Proofs.Ytdijakobocnceaa.AE
