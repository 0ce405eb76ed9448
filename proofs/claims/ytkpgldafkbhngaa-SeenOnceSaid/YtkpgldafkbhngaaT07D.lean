/-
  Layer 7: what the law knows: all numbers of a window, the document's answer, rows that are the same.
-/
import Derived.Test.YtkpgldafkbhngaaT07SB
namespace Go.Proofs.Ytkpgldafkbhngaa.AE
open Go.RowKit
set_option maxRecDepth 100000 in
theorem fs_all0 (n : Nat) (o : Int) (L : List Int) (M : List AV) (hM : mlen M = 0) :
    Fs Try.prog nro 12 [.ptr 0 0] (seH n o L M []) fun r H' => (∃ y, clean r = some y ∧ Le y (.lst 1 (([] : List Int).map gi) .no)) ∧ ∃ tips, H' = seH n o L M tips := by
  refine Fs.of_body (has_fn (by kernel_rfl)) ?_
  rw [al_sl, al_re]
  have pre := fun R => al_pre n o L M R
  rw [hM] at pre
  refine Tr.of_flat (Trl.split 3 (Trl.of_code (known_none _) (ne_nil (by kernel_rfl)) (pre _) ⟨trivial, ?_⟩))
  show Trl _ _ ((flatten (bodyOf 12)).drop 3) _ _ _
  rw [al_fl]
  refine Tr.keepL [0, 3, 6, 7] rfl (Trl.nilTip 3 1 rfl rfl ?_)
  show Trl _ _ _ (alA (.lst 1 (([] : List Int).map gi) (.tp 0 0)) 0 0) (seH n o L M [0]) _
  let I : Nat → List AV → AH → Prop := fun t act H => act = alA (.lst 1 (([] : List Int).map gi) (.tp 0 0)) 0 0 ∧ H = seH n o L M [0]
  refine Tr.block (Tr.loop I ?_ (m := 0) ⟨rfl, rfl⟩)
  rintro t act H ⟨rfl, rfl⟩
  refine Tr.of_code (known_none _) (al_in0 n o L M [] 0 _) ⟨trivial, ?_⟩
  show Trl _ _ ((flatten (bodyOf 12)).drop 4) _ _ _
  exact Trl.of_code (known_none _) (ne_nil (by kernel_rfl)) (al_post0 n o L M [] 0 _) ⟨trivial, .inr rfl, trivial, ⟨_, rfl, Le.refl _⟩, _, rfl⟩
def rowI (x : List AV) : List Int := intsY (.lst 1 x .no)
theorem rowI_gi (L : List Int) : rowI (L.map gi) = L := intsY_lst L .no
def alX (n : Nat) (o : Int) (ring M : List AV) : List Int := if n = 0 then [] else allX n o.toNat (rowI ring) (mlen M)
def alOk (ts ti n n2 : Nat) (o : Int) (ring M : List AV) : Bool := decide (ts = 42 ∧ ti = 3 ∧ n2 = n) && (match intsA? (.lst 1 ring .no) with
  | some L => decide (L.length = n ∧ n ≤ 100000 ∧ 0 ≤ o ∧ o ≤ 1000000 ∧ mlen M ≤ 1000000 ∧ (n = 0 → mlen M = 0))
  | none => false)
theorem alOk_of (n : Nat) (o : Int) (L : List Int) (M : List AV) (h1 : L.length = n) (h2 : n ≤ 100000) (h3 : 0 ≤ o) (h4 : o ≤ 1000000) (h5 : mlen M ≤ 1000000) (h6 : n = 0 → mlen M = 0) : alOk 42 3 n n o (L.map gi) M = true := by
  unfold alOk
  rw [intsA_lst]
  simp only [Bool.and_eq_true, decide_eq_true_eq]
  exact ⟨by simp, h1, h2, h3, h4, h5, h6⟩
/-- Which blocks a window has. -/
def seenPick (args : List AV) (H : AH) : Option (List Nat) := match args with
  | .ptr id _ :: _ => match H.blks[id]? with
    | some b => match b.2 with
      | [.sl r _ _ _, _, .mp m] => some [id, r, m]
      | _ => none
    | none => none
  | _ => none
def allS (AL : Nat → Int → List AV → List AV → List Int) (AO : Nat → Nat → Nat → Nat → Int → List AV → List AV → Bool) : ObjS where
  pick := seenPick
  mask := [false, true, true]
  maskB := [false, true, true]
  spec := fun args bs => match args with
    | [.ptr 0 0] => match bs with
      | [(ts, [.sl 1 0 n n2, .v (.int .i64 o), .mp 2]), (ti, ring), (999998, M)] => some (.lst 1 ((AL n o ring M).map gi) .no, [(ts, [.sl 1 0 n n2, .v (.int .i64 o), .mp 2]), (ti, ring), (999998, M)], AO ts ti n n2 o ring M)
      | _ => none
    | _ => none
theorem all_ok : ∀ args H r H', obj? (allS alX alOk) args H = some (r, H') → HSound1 Try.prog nro 12 args H r H' := by
  refine obj_ok (has_fn (by kernel_rfl)) fun args bs r bs2 h => ?_
  unfold allS at h
  simp only at h
  split at h
  · split at h
    · rename_i ts n n2 o ti ring M
      simp only [Option.some.injEq, Prod.mk.injEq] at h
      obtain ⟨rfl, rfl, hok⟩ := h
      unfold alOk at hok
      rw [Bool.and_eq_true] at hok
      obtain ⟨h1, h2⟩ := hok
      obtain ⟨rfl, rfl, rfl⟩ := of_decide_eq_true h1
      split at h2
      · rename_i L hL
        obtain ⟨k1, k2, k3, k4, k5, k6⟩ := of_decide_eq_true h2
        have hr : ring = L.map gi := by
          have := (intsA_nrm hL).2
          simpa [nrm] using this
        subst hr
        obtain ⟨oN, rfl⟩ : ∃ oN : Nat, o = (oN : Int) := ⟨o.toNat, (Int.toNat_of_nonneg k3).symm⟩
        have e : alX n2 (oN : Int) (L.map gi) M = if n2 = 0 then [] else allX n2 oN L (mlen M) := by unfold alX; rw [rowI_gi, Int.toNat_natCast]
        rw [e]
        cases n2 with
        | zero =>
          refine (fs_all0 0 (oN : Int) L M (k6 rfl)).mono fun r H' ⟨q1, tips, q2⟩ => ⟨.inr q1, tips, [], ?_⟩
          rw [q2]; rfl
        | succ k =>
          rw [if_neg (by omega)]
          refine (fs_all k oN L M k1 (by omega) (by omega) k5).mono fun r H' ⟨q1, tips, q2⟩ => ⟨.inr q1, tips, [], ?_⟩
          rw [q2]; rfl
      · cases h2
    · cases h
  · cases h
/-! The document's answer. -/
def rhV (HX : AV → AV → Bool) (args : List AV) : AV := .v (.bool (HX (args.headD .dead) (args.tail.headD .dead)))
def rhOk (args : List AV) : Bool := match args with
  | [x, .v (.int .i64 _)] => (match intsA? x with | some l => decide (l.length ≤ 1000000) | none => false)
  | _ => false
def rhX (x id : AV) : Bool := decide (exInt id ∈ intsY x)
theorem rhOk_of (l : List Int) (t : Tip) (id : Int) (h : l.length ≤ 1000000) : rhOk [.lst 1 (l.map gi) t, gi id] = true := by
  show (match intsA? (.lst 1 (l.map gi) t) with | some l => decide (l.length ≤ 1000000) | none => false) = true
  rw [intsA_lst]; exact decide_eq_true h
theorem rhas_ok : ∀ args H r H', tot? (rhV rhX) rhOk args H = some (r, H') → HSound1 Try.prog nro 15 args H r H' := by
  refine tot_nrm (has_fn (by kernel_rfl)) fun args hok => ?_
  unfold rhOk at hok
  split at hok
  · rename_i x id
    split at hok
    · rename_i l hl
      obtain ⟨a4, a5⟩ := intsA_nrm hl
      refine ⟨by rw [List.all_cons, a4]; rfl, ?_⟩
      rw [List.map_cons, List.map_cons, List.map_nil, a5]
      refine (fs_rhas l id (of_decide_eq_true hok)).mono fun r _ h => ?_
      subst h
      refine ⟨_, rfl, ?_⟩
      show Le _ (.v (.bool (decide (id ∈ intsY x))))
      rw [intsY_some hl]
      exact Le.refl _
    · cases hok
  · cases hok
noncomputable def prH (HX : AV → AV → Bool) : FuncId → Option (List AV → AH → Ans) := fun g => match g with
  | 15 => some (tot? (rhV HX) rhOk)
  | _ => none
theorem knownH : Known nro (prH rhX) := by
  intro g p h
  unfold prH at h
  split at h
  · cases h; exact rhas_ok
  · cases h
end Go.Proofs.Ytkpgldafkbhngaa.AE
