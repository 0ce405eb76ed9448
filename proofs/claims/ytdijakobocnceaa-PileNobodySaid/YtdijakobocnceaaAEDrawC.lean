/-
  A region that draws its order: the theorem.
-/
import Derived.Test.YtdijakobocnceaaAEDrawB
namespace Go.Proofs.Ytdijakobocnceaa.AE
set_option maxRecDepth 100000
open Go.RowKit
/-! ### What must come ahead -/
def Dn (os : List Oper) (L : Nat → Bool) : Prop := ∀ (i : Nat) (o : Oper), os[i]? = some o → L i = true → ∀ e ∈ o.after.toList, Region.binds .any e = true → L e.on = true
def Rd (os : List Oper) (L : Nat → Bool) (i : Nat) : Prop := ∀ (o : Oper), os[i]? = some o → ∀ e ∈ o.after.toList, Region.binds .any e = true → L e.on = true
theorem edgeSet_bit (acc : List Nat) (o : Oper) (j : Nat) (h : (edgeSet acc o).testBit j = true) : ∃ e ∈ o.after.toList, Region.binds .any e = true ∧ (e.on = j ∨ (acc.getD e.on 0).testBit j = true) := by
  unfold edgeSet at h
  have key : ∀ (l : List Edge) (s : Nat), (l.foldl (fun s e => if Region.binds .any e then s ||| (1 <<< e.on) ||| acc.getD e.on 0 else s) s).testBit j = true → s.testBit j = true ∨ ∃ e ∈ l, Region.binds .any e = true ∧ (e.on = j ∨ (acc.getD e.on 0).testBit j = true) := by
    intro l
    induction l with
    | nil => intro s h; exact .inl h
    | cons e l ih =>
      intro s h
      rw [List.foldl_cons] at h
      rcases ih _ h with h1 | ⟨e', h1, h2⟩
      · split at h1
        · rename_i hb
          rw [Nat.testBit_or, Nat.testBit_or, Bool.or_eq_true, Bool.or_eq_true] at h1
          rcases h1 with (h1 | h1) | h1
          · exact .inl h1
          · refine .inr ⟨e, List.mem_cons_self .., hb, .inl ?_⟩
            rw [Nat.one_shiftLeft] at h1
            rw [Nat.testBit_two_pow] at h1
            exact of_decide_eq_true h1
          · exact .inr ⟨e, List.mem_cons_self .., hb, .inr h1⟩
        · exact .inl h1
      · exact .inr ⟨e', List.mem_cons_of_mem _ h1, h2⟩
  rcases key _ _ h with h1 | h1
  · simp at h1
  · exact h1
theorem bsets_pre : ∀ (l : List Oper) (acc : List Nat) (i : Nat), i < acc.length → (bsets l acc).getD i 0 = acc.getD i 0
  | [], acc, i, _ => rfl
  | o :: l, acc, i, h => by
    rw [bsets, bsets_pre l _ i (by simp; omega)]
    simp [List.getD_eq_getElem?_getD, List.getElem?_append_left h]
theorem bsets_at : ∀ (l : List Oper) (acc : List Nat) (k : Nat) (o : Oper), l[k]? = some o → ∃ acc', (bsets l acc).getD (acc.length + k) 0 = edgeSet acc' o ∧ ∀ i, i < acc'.length → (bsets l acc).getD i 0 = acc'.getD i 0
  | [], acc, k, o, h => by simp at h
  | p :: l, acc, 0, o, h => by
    simp only [List.getElem?_cons_zero, Option.some.injEq] at h
    subst h
    refine ⟨acc, ?_, fun i hi => bsets_pre (p :: l) acc i hi⟩
    rw [bsets, Nat.add_zero, bsets_pre l _ _ (by simp)]
    simp [List.getD_eq_getElem?_getD]
  | p :: l, acc, k + 1, o, h => by
    obtain ⟨acc', h1, h2⟩ := bsets_at l (acc ++ [edgeSet acc p]) k o (by simpa using h)
    refine ⟨acc', ?_, fun i hi => by rw [bsets]; exact h2 i hi⟩
    rw [bsets, ← h1]
    congr 1
    simp; omega
theorem bsets_len : ∀ (l : List Oper) (acc : List Nat), (bsets l acc).length = acc.length + l.length
  | [], acc => by simp [bsets]
  | p :: l, acc => by rw [bsets, bsets_len]; simp; omega
def Back (os : List Oper) : Prop := ∀ (i : Nat) (o : Oper), os[i]? = some o → ∀ e ∈ o.after.toList, Region.binds .any e = true → e.on < i
theorem bs_spec {os : List Oper} (hb : Back os) {L : Nat → Bool} (hD : Dn os L) : ∀ (i j : Nat), ((bsets os []).getD i 0).testBit j = true → Rd os L i → L j = true := by
  intro i
  induction i using Nat.strongRecOn with
  | _ i ih =>
    intro j h hR
    cases ho : os[i]? with
    | none =>
      have hl : os.length ≤ i := List.getElem?_eq_none_iff.1 ho
      have : (bsets os [])[i]? = none := List.getElem?_eq_none (by rw [bsets_len]; simpa using hl)
      simp [List.getD_eq_getElem?_getD, this] at h
    | some o =>
      obtain ⟨acc', h1, h2⟩ := bsets_at os [] i o ho
      simp only [List.length_nil, Nat.zero_add] at h1
      rw [h1] at h
      obtain ⟨e, he, hbe, h3⟩ := edgeSet_bit _ _ _ h
      have hL := hR o ho e he hbe
      rcases h3 with rfl | h3
      · exact hL
      · by_cases hl : e.on < acc'.length
        · rw [← h2 _ hl] at h3
          exact ih e.on (hb i o ho e he hbe) j h3 (fun p hp => hD e.on p hp hL)
        · simp [List.getD_eq_getElem?_getD, List.getElem?_eq_none (Nat.le_of_not_lt hl)] at h3
theorem zip_all {α : Type} {f : α × Nat → Bool} {l : List α} (h : l.zipIdx.all f = true) (i : Nat) (x : α) (hx : l[i]? = some x) : f (x, i) = true := by
  rw [List.all_eq_true] at h
  refine h (x, i) ?_
  rw [List.mem_zipIdx_iff_getElem?]
  exact hx
structure Stat (os : List Oper) (all : Array Oper) : Prop where
  back : Back os
  dist : ∀ (j k : Nat) (p o : Oper) (d : Nat), os[j]? = some p → os[k]? = some o → j ≠ k → p.dst = some d → o.dst ≠ some d
  looks : ∀ (i j : Nat) (o p : Oper) (d : Nat), os[i]? = some o → os[j]? = some p → p.dst = some d → d ∈ o.looksAt all → (j < i ∧ ((bsets os []).getD i 0).testBit j = true) ∨ (i < j ∧ ((bsets os []).getD j 0).testBit i = true)
theorem stat_spec {os : List Oper} {all : Array Oper} (h : stat os (bsets os []) all = true) : Stat os all := by
  unfold stat at h
  have h1 := fun i o ho => zip_all h i o ho
  simp only [Bool.and_eq_true] at h1
  refine ⟨fun i o ho e he hb => ?_, fun j k p o d hj hk hne hp hd => ?_, fun i j o p d ho hj hp hd => ?_⟩
  · have := (h1 i o ho).1
    rw [List.all_eq_true] at this
    have := this e he
    rw [hb] at this
    simpa using this
  · have := zip_all (h1 k o hk).2 j p hj
    simp only [hp, Bool.and_eq_true] at this
    have := this.1
    rw [hd] at this
    simp at this
    exact hne this.symm
  · have := zip_all (h1 i o ho).2 j p hj
    simp only [hp, Bool.and_eq_true] at this
    have := this.2
    have hc : (o.looksAt all).contains d = true := by simpa using hd
    rw [hc] at this
    simpa using this
/-! ### What each slot holds -/
def IsL (os : List Oper) (tb : List Ent) (act0 : List AV) (L : Nat → Bool) (act : List AV) : Prop :=
  act.length = act0.length ∧ (∀ (j : Nat) (o : Oper) (e : Ent) (s : Nat), os[j]? = some o → tb[j]? = some e → o.dst = some s → s < act0.length → L j = true → act[s]? = some e.r) ∧
    ∀ s, (∀ (j : Nat) (o : Oper), os[j]? = some o → o.dst = some s → L j = false) → act[s]? = act0[s]?
theorem IsL.step {os : List Oper} {all : Array Oper} {tb : List Ent} {act0 act : List AV} {L L' : Nat → Bool} (hS : Stat os all) (h : IsL os tb act0 L act) {k : Nat} {o : Oper} {e : Ent} (ho : os[k]? = some o) (he : tb[k]? = some e) (hL : ∀ j, j < os.length → L' j = (L j || j == k)) :
    IsL os tb act0 L' (put act o.dst e.r) := by
  obtain ⟨h1, h2, h3⟩ := h
  have hlt : ∀ (j : Nat) (p : Oper), os[j]? = some p → j < os.length := fun j p hj => (List.getElem?_eq_some_iff.1 hj).1
  cases hd : o.dst with
  | none =>
    refine ⟨h1, fun j p e' s hj hte hp hs hl => ?_, fun s hs => h3 s fun j p hj hp => ?_⟩
    · rw [hL j (hlt j p hj), Bool.or_eq_true] at hl
      rcases hl with hl | hl
      · exact h2 j p e' s hj hte hp hs hl
      · have : j = k := by simpa using hl
        subst this
        rw [ho] at hj; cases hj; rw [hd] at hp; cases hp
    · have := hs j p hj hp
      rw [hL j (hlt j p hj), Bool.or_eq_false_iff] at this
      exact this.1
  | some d =>
    refine ⟨by simp [put, h1], fun j p e' s hj hte hp hs hl => ?_, fun s hs => ?_⟩
    · rw [hL j (hlt j p hj), Bool.or_eq_true] at hl
      show (act.set d e.r)[s]? = _
      by_cases hjk : j = k
      · subst hjk
        rw [ho] at hj; cases hj
        rw [hd] at hp; cases hp
        rw [he] at hte; cases hte
        exact List.getElem?_set_self (by rw [h1]; exact hs)
      · have hne : d ≠ s := by
          rintro rfl
          exact hS.dist k j o p d ho hj (Ne.symm hjk) hd hp
        rw [List.getElem?_set_ne hne]
        exact h2 j p e' s hj hte hp hs (by
          rcases hl with hl | hl
          · exact hl
          · exact absurd (by simpa using hl) hjk)
    · show (act.set d e.r)[s]? = _
      have hne : d ≠ s := by
        rintro rfl
        have := hs k o ho hd
        rw [hL k (hlt k o ho)] at this
        simp at this
      rw [List.getElem?_set_ne hne]
      exact h3 s fun j p hj hp => by
        have := hs j p hj hp
        rw [hL j (hlt j p hj), Bool.or_eq_false_iff] at this
        exact this.1
theorem IsL.agree {os : List Oper} {all : Array Oper} {tb : List Ent} {act0 a1 a2 : List AV} {L1 L2 : Nat → Bool} (hS : Stat os all) (h1 : IsL os tb act0 L1 a1) (h2 : IsL os tb act0 L2 a2) {i : Nat} {o : Oper} (ho : os[i]? = some o) (htb : tb.length = os.length)
    (hL : ∀ j, ((bsets os []).getD i 0).testBit j = true → j < i → L1 j = true ∧ L2 j = true) (hN : ∀ j, ((bsets os []).getD j 0).testBit i = true → i < j → L1 j = false ∧ L2 j = false) : ∀ s ∈ o.looksAt all, a1[s]? = a2[s]? := by
  intro (s : Nat) hs
  by_cases hx : ∃ (j : Nat) (p : Oper), os[j]? = some p ∧ p.dst = some s
  · obtain ⟨j, p, hj, hp⟩ := hx
    rcases hS.looks i j o p s ho hj hp hs with ⟨hji, hbit⟩ | ⟨hij, hbit⟩
    rotate_left
    · obtain ⟨l1, l2⟩ := hN j hbit hij
      have hno : ∀ L : Nat → Bool, L j = false → ∀ (j' : Nat) (p' : Oper), os[j']? = some p' → p'.dst = some s → L j' = false := fun L hL j' p' hj' hp' => by
        by_cases e : j' = j
        · rw [e]; exact hL
        · exact absurd hp' (hS.dist j j' p p' s hj hj' (fun h => e h.symm) hp)
      rw [h1.2.2 s (hno _ l1), h2.2.2 s (hno _ l2)]
    obtain ⟨l1, l2⟩ := hL j hbit hji
    have hjl := (List.getElem?_eq_some_iff.1 hj).1
    by_cases hlt : s < act0.length
    · have he : tb[j]? = some tb[j] := List.getElem?_eq_getElem (by omega)
      rw [h1.2.1 j p _ s hj he hp hlt l1, h2.2.1 j p _ s hj he hp hlt l2]
    · rw [List.getElem?_eq_none (show a1.length ≤ s by rw [h1.1]; omega), List.getElem?_eq_none (show a2.length ≤ s by rw [h2.1]; omega)]
  · have hno : ∀ L : Nat → Bool, ∀ (j : Nat) (p : Oper), os[j]? = some p → p.dst = some s → L j = false := fun L j p hj hp => absurd ⟨j, p, hj, hp⟩ hx
    rw [h1.2.2 s (hno _), h2.2.2 s (hno _)]
theorem IsL.all {os : List Oper} {tb : List Ent} {act0 a1 a2 : List AV} {L1 L2 : Nat → Bool} (h1 : IsL os tb act0 L1 a1) (h2 : IsL os tb act0 L2 a2) (htb : tb.length = os.length) (l1 : ∀ j, j < os.length → L1 j = true) (l2 : ∀ j, j < os.length → L2 j = true) : a1 = a2 := by
  refine List.ext_getElem? fun s => ?_
  by_cases hx : ∃ (j : Nat) (p : Oper), os[j]? = some p ∧ p.dst = some s
  · obtain ⟨j, p, hj, hp⟩ := hx
    have hjl := (List.getElem?_eq_some_iff.1 hj).1
    by_cases hlt : s < act0.length
    · have he : tb[j]? = some tb[j] := List.getElem?_eq_getElem (by omega)
      rw [h1.2.1 j p _ s hj he hp hlt (l1 j hjl), h2.2.1 j p _ s hj he hp hlt (l2 j hjl)]
    · rw [List.getElem?_eq_none (show a1.length ≤ s by rw [h1.1]; omega), List.getElem?_eq_none (show a2.length ≤ s by rw [h2.1]; omega)]
  · have hno : ∀ L : Nat → Bool, ∀ (j : Nat) (p : Oper), os[j]? = some p → p.dst = some s → L j = false := fun L j p hj hp => absurd ⟨j, p, hj, hp⟩ hx
    rw [h1.2.2 s (hno _), h2.2.2 s (hno _)]
/-! ### The run in the order of the text -/
def Ev (P : Program) (ro : Nat → Option (List Value)) (C : Hd) (mu : FuncId → Bool) (all : Array Oper) (e : Ent) (o : Oper) : Prop :=
  gd all e.act o ≠ .bad ∧ ((wantA all e.act o = true ∧ stepD P ro C mu e.act e.H o = some (e.r, e.H') ∧ e.T = turns mu e.act o) ∨ (wantA all e.act o = false ∧ e.r = .v undef ∧ e.H' = e.H ∧ e.T = false))
inductive RunOk (P : Program) (ro : Nat → Option (List Value)) (C : Hd) (mu : FuncId → Bool) (all : Array Oper) : List Oper → List AV → AH → List Ent → List AV → AH → Prop where
  | nil {act : List AV} {H : AH} : RunOk P ro C mu all [] act H [] act H
  | cons {o : Oper} {l : List Oper} {e : Ent} {tb : List Ent} {act' : List AV} {H H' : AH} (hS : Same H e.H) (hc : e.H.cd → H.cd) (h : Ev P ro C mu all e o) (t : RunOk P ro C mu all l (put e.act o.dst e.r) e.H' tb act' H') : RunOk P ro C mu all (o :: l) e.act H (e :: tb) act' H'
section
variable {P : Program} {ro : Nat → Option (List Value)} {C : Hd} {mu : FuncId → Bool} {all : Array Oper}
theorem gd_at {act : List AV} {o : Oper} {d : Nat} {w b : Bool} (h : gd all act o = .test d w b) : act[d]? = some (.v (.bool b)) := by
  unfold gd at h
  split at h
  · cases h
  · split at h
    · split at h
      · split at h
        · rename_i hx; cases h; exact hx
        · cases h
        · cases h
      · cases h
    · cases h
theorem runD_keep {α : Type} (hC : ∀ g args H r H', C g args H = some (r, H') → Keep H H') {ans : α} {K : List AV → AH → List Ent → Option α} : ∀ (l : List Oper) (act : List AV) (H : AH) (acc : List Ent), runD P ro C mu all l act H acc K = some ans → ∃ act' H' tb, K act' H' tb = some ans ∧ Keep H H'
  | [], act, H, acc, h => ⟨act, H, acc, h, .refl _⟩
  | o :: l, act, H, acc, h => by
    have take : ∀ act1 H1 (f : AV × AH → Ent), Keep H H1 → (match stepD P ro C mu act1 H1 o with | some rh => runD P ro C mu all l (put act1 o.dst rh.1) rh.2 (acc ++ [f rh]) K | none => none) = some ans → ∃ act' H' tb, K act' H' tb = some ans ∧ Keep H H' := by
      intro act1 H1 f hk h
      split at h
      · rename_i rh hs
        obtain ⟨a2, H2, tb, h1, h2⟩ := runD_keep hC l _ _ _ h
        exact ⟨a2, H2, tb, h1, hk.trans ((stepD_keep hC hs).trans h2)⟩
      · cases h
    have skip : ∀ act1 H1 acc', Keep H H1 → runD P ro C mu all l act1 H1 acc' K = some ans → ∃ act' H' tb, K act' H' tb = some ans ∧ Keep H H' := by
      intro act1 H1 acc' hk h
      obtain ⟨a2, H2, tb, h1, h2⟩ := runD_keep hC l _ _ _ h
      exact ⟨a2, H2, tb, h1, hk.trans h2⟩
    unfold runD at h
    cases e : gd all act o with
    | yes => rw [e] at h; exact take act H (fun rh => ⟨act, H, rh.1, turns mu act o, rh.2⟩) (.refl _) h
    | no => rw [e] at h; exact skip _ _ _ (.refl _) h
    | bad => rw [e] at h; cases h
    | test d want b =>
      rw [e] at h
      simp only at h
      split at h
      · rename_i gH hg
        obtain ⟨g, H1⟩ := gH
        have hk := conc_keep hg
        cases g <;> cases want <;> simp only at h
        · exact take _ H1 (fun rh => ⟨act.set d (.v (.bool false)), H1, rh.1, turns mu (act.set d (.v (.bool false))) o, rh.2⟩) hk h
        · exact skip _ _ _ hk h
        · exact skip _ _ _ hk h
        · exact take _ H1 (fun rh => ⟨act.set d (.v (.bool true)), H1, rh.1, turns mu (act.set d (.v (.bool true))) o, rh.2⟩) hk h
      · cases h
theorem runD_spec {α : Type} (hC : ∀ g args H r H', C g args H = some (r, H') → Keep H H') {ans : α} {K : List AV → AH → List Ent → Option α} (hKc : ∀ act H tb, K act H tb = some ans → H.cd) : ∀ (l : List Oper) (act : List AV) (H : AH) (acc : List Ent), runD P ro C mu all l act H acc K = some ans →
    ∃ tb act' H', RunOk P ro C mu all l act H tb act' H' ∧ K act' H' (acc ++ tb) = some ans
  | [], act, H, acc, h => ⟨[], act, H, .nil, by rw [List.append_nil]; exact h⟩
  | o :: l, act, H, acc, h => by
    have hcd : ∀ l act H acc, runD P ro C mu all l act H acc K = some ans → H.cd := fun l act H acc h => by
      obtain ⟨a2, H2, tb, h1, h2⟩ := runD_keep hC _ _ _ _ h
      exact h2.cd (hKc _ _ _ h1)
    have take : ∀ act1 H1, act1 = act → Same H H1 → (H1.cd → H.cd) → gd all act o ≠ .bad → wantA all act o = true → (match stepD P ro C mu act1 H1 o with | some rh => runD P ro C mu all l (put act1 o.dst rh.1) rh.2 (acc ++ [⟨act1, H1, rh.1, turns mu act1 o, rh.2⟩]) K | none => none) = some ans →
        ∃ tb act' H', RunOk P ro C mu all (o :: l) act H tb act' H' ∧ K act' H' (acc ++ tb) = some ans := by
      rintro _ H1 rfl hS hc hb hw h
      split at h
      · rename_i rh hs
        obtain ⟨tb, act', H', h1, h2⟩ := runD_spec hC hKc l _ _ _ h
        exact ⟨_, act', H', .cons (e := ⟨_, H1, rh.1, turns mu _ o, rh.2⟩) hS hc ⟨hb, .inl ⟨hw, hs, rfl⟩⟩ h1, by rw [List.append_assoc] at h2; exact h2⟩
      · cases h
    have skip : ∀ act1 H1, act1 = act → Same H H1 → (H1.cd → H.cd) → gd all act o ≠ .bad → wantA all act o = false → runD P ro C mu all l (put act1 o.dst (.v undef)) H1 (acc ++ [⟨act1, H1, .v undef, false, H1⟩]) K = some ans →
        ∃ tb act' H', RunOk P ro C mu all (o :: l) act H tb act' H' ∧ K act' H' (acc ++ tb) = some ans := by
      rintro _ H1 rfl hS hc hb hw h
      obtain ⟨tb, act', H', h1, h2⟩ := runD_spec hC hKc l _ _ _ h
      exact ⟨_, act', H', .cons (e := ⟨_, H1, .v undef, false, H1⟩) hS hc ⟨hb, .inr ⟨hw, rfl, rfl, rfl⟩⟩ h1, by rw [List.append_assoc] at h2; exact h2⟩
    unfold runD at h
    cases e : gd all act o with
    | yes => rw [e] at h; exact take act H rfl (.refl _) (fun x => x) (by rw [e]; simp) (by unfold wantA; rw [e]) h
    | no => rw [e] at h; exact skip act H rfl (.refl _) (fun x => x) (by rw [e]; simp) (by unfold wantA; rw [e]) h
    | bad => rw [e] at h; cases h
    | test d want b =>
      rw [e] at h
      simp only at h
      split at h
      · rename_i gH hg
        obtain ⟨g, H1⟩ := gH
        obtain ⟨hS, hc⟩ := conc_some hg
        have hx := set_same (gd_at e)
        have hbg : b = g := by
          cases g <;> cases want <;> simp only at h
          · split at h
            · rename_i rh hs; exact (hc ((stepD_keep hC hs).cd (hcd _ _ _ _ h))).2
            · cases h
          · exact (hc (hcd _ _ _ _ h)).2
          · exact (hc (hcd _ _ _ _ h)).2
          · split at h
            · rename_i rh hs; exact (hc ((stepD_keep hC hs).cd (hcd _ _ _ _ h))).2
            · cases h
        subst hbg
        have hc' : H1.cd → H.cd := fun x => (hc x).1
        cases b <;> cases want <;> simp only at h
        · exact take _ H1 hx hS hc' (by rw [e]; simp) (by unfold wantA; rw [e]; rfl) h
        · exact skip _ H1 hx hS hc' (by rw [e]; simp) (by unfold wantA; rw [e]; rfl) h
        · exact skip _ H1 hx hS hc' (by rw [e]; simp) (by unfold wantA; rw [e]; rfl) h
        · exact take _ H1 hx hS hc' (by rw [e]; simp) (by unfold wantA; rw [e]; rfl) h
      · cases h
theorem Ev.same {e : Ent} {o : Oper} (h : Ev P ro C mu all e o) (hT : e.T = false) : Same e.H e.H' := by
  rcases h.2 with ⟨_, h2, h3⟩ | ⟨_, _, h3, _⟩
  · exact stepD_still (by rw [← h3]; exact hT) h2
  · rw [h3]; exact .refl _
theorem RunOk.len {l : List Oper} {act : List AV} {H : AH} {tb : List Ent} {act' : List AV} {H' : AH} (h : RunOk P ro C mu all l act H tb act' H') : tb.length = l.length := by
  induction h with
  | nil => rfl
  | cons _ _ h t ih => simp [ih]
theorem Ev.keep (hC : ∀ g args H r H', C g args H = some (r, H') → Keep H H') {e : Ent} {o : Oper} (h : Ev P ro C mu all e o) : Keep e.H e.H' := by
  rcases h.2 with ⟨_, h2, _⟩ | ⟨_, _, h3, _⟩
  · exact stepD_keep hC h2
  · rw [h3]; exact .refl _
theorem RunOk.keep (hC : ∀ g args H r H', C g args H = some (r, H') → Keep H H') {l : List Oper} {act : List AV} {H : AH} {tb : List Ent} {act' : List AV} {H' : AH} (h : RunOk P ro C mu all l act H tb act' H') : Keep H H' ∧ ∀ e ∈ tb, Keep e.H' H' := by
  induction h with
  | nil => exact ⟨.refl _, fun e he => by cases he⟩
  | @cons o l e tb act' H H' hS hc hev ht ih =>
    refine ⟨(hS.keep hc).trans ((hev.keep hC).trans ih.1), fun e' he => ?_⟩
    rcases List.mem_cons.1 he with rfl | he
    · exact ih.1
    · exact ih.2 e' he
end
end Go.Proofs.Ytdijakobocnceaa.AE
