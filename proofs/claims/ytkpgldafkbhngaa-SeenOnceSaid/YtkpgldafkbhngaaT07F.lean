/-
  Layer 7: the document's Note; what the laws know.
-/
import Derived.Test.YtkpgldafkbhngaaT07E
import Derived.Test.YtkpgldafkbhngaaT07Q
namespace Go.Proofs.Ytkpgldafkbhngaa.AE
open Go.RowKit
theorem rhX_gi (x : List Int) (t : Tip) (id : Int) : rhX (.lst 1 (x.map gi) t) (.v (.int .i64 id)) = decide (id ∈ x) := by
  unfold rhX; rw [intsY_lst]; rfl
theorem drop_take (l : List AV) : (l.take (Int.toNat ((l.length : Nat) : Int))).drop 1 = l.drop 1 := by
  rw [Int.toNat_natCast, List.take_length]
theorem fs_rnote (x : List Int) (m : Nat) (id : Int) (hx : x.length ≤ 1000000) (hm : m ≤ 1048576) : Fs Try.prog nro 8 [.lst 1 (x.map gi) .no, gi m, gi id] (hp [] []) fun r _ => ∃ y, clean r = some y ∧ Le y (.tuple [.lst 1 ((noteL x m id).map gi) .no, .v (.bool (decide (id ∉ x)))]) := by
  refine Fs.of_call knownH (rn_tree rhX x m id _) ?_
  rw [rhX_gi, drop_take]
  simp only [List.length_append, gil, List.length_cons, List.length_nil]
  have ok := rhOk_of x .no id hx
  refine holds_bif (fun h => ⟨cdb_iff.2 ⟨trivial, ok⟩, _, rfl, ?_⟩) fun h => ?_
  · have h : id ∈ x := of_decide_eq_true h
    unfold noteL
    rw [if_pos h, decide_eq_false (fun hn => hn h)]
    exact Le.refl _
  have h : id ∉ x := of_decide_eq_false h
  have e1 : (x.map gi ++ [AV.v (.int .i64 id)]) = (x ++ [id]).map gi := by rw [List.map_append]; rfl
  rw [e1, ← List.map_drop]
  refine holds_bif (fun h1 => ?_) fun h1 => holds_bif (fun h2 => ?_) fun h2 => holds_bif (fun h3 => ⟨?_, _, rfl, ?_⟩) fun h3 => ⟨?_, _, rfl, ?_⟩
  · have h1 := of_decide_eq_true h1; omega
  · have h2 := of_decide_eq_true h2; omega
  · refine cdb_iff.2 ⟨cdb_iff.2 ⟨cdb_iff.2 ⟨cdb_iff.2 ⟨trivial, ok⟩, decide_eq_true ?_⟩, decide_eq_true ?_⟩, decide_eq_true ?_⟩
    all_goals first | omega | (simp; done) | (simp; omega)
  · have h3 : m < x.length + 1 := by have := of_decide_eq_true h3; omega
    unfold noteL
    rw [if_neg h, if_pos h3, decide_eq_true h]
    exact Le.refl _
  · refine cdb_iff.2 ⟨cdb_iff.2 ⟨cdb_iff.2 ⟨trivial, ok⟩, decide_eq_true ?_⟩, decide_eq_true ?_⟩
    all_goals first | omega | (simp; done) | (simp; omega)
  · have h3 : ¬ m < x.length + 1 := by have := of_decide_eq_false h3; omega
    unfold noteL
    rw [if_neg h, if_neg h3, decide_eq_true h]
    exact Le.refl _
def rnV (NX : AV → AV → AV → List Int) (NB : AV → AV → Bool) (args : List AV) : AV := .tuple [.lst 1 ((NX (args.headD .dead) (args.tail.headD .dead) (args.tail.tail.headD .dead)).map gi) .no, .v (.bool (NB (args.headD .dead) (args.tail.tail.headD .dead)))]
def rnOk (args : List AV) : Bool := match args with
  | [x, .v (.int .i64 m), .v (.int .i64 _)] => (match intsA? x with | some l => decide (l.length ≤ 1000000 ∧ 0 ≤ m ∧ m ≤ 1048576) | none => false)
  | _ => false
def rnX (x m id : AV) : List Int := noteL (intsY x) (exInt m).toNat (exInt id)
def rnB (x id : AV) : Bool := decide (exInt id ∉ intsY x)
theorem rnOk_of (l : List Int) (t : Tip) (m : Nat) (id : Int) (h : l.length ≤ 1000000) (hm : m ≤ 1048576) : rnOk [.lst 1 (l.map gi) t, gi m, gi id] = true := by
  show (match intsA? (.lst 1 (l.map gi) t) with | some l => decide (l.length ≤ 1000000 ∧ (0 : Int) ≤ (m : Int) ∧ (m : Int) ≤ 1048576) | none => false) = true
  rw [intsA_lst]; exact decide_eq_true ⟨h, by omega, by omega⟩
theorem rnX_gi (l : List Int) (t : Tip) (m : Nat) (id : Int) : rnX (.lst 1 (l.map gi) t) (.v (.int .i64 (m : Int))) (.v (.int .i64 id)) = noteL l m id := by
  unfold rnX; rw [intsY_lst]; rfl
theorem rnB_gi (l : List Int) (t : Tip) (id : Int) : rnB (.lst 1 (l.map gi) t) (.v (.int .i64 id)) = decide (id ∉ l) := by
  unfold rnB; rw [intsY_lst]; rfl
theorem rnote_ok : ∀ args H r H', tot? (rnV rnX rnB) rnOk args H = some (r, H') → HSound1 Try.prog nro 8 args H r H' := by
  refine tot_nrm (has_fn (by kernel_rfl)) fun args hok => ?_
  unfold rnOk at hok
  split at hok
  · rename_i x m id
    split at hok
    · rename_i l hl
      obtain ⟨k1, k2, k3⟩ := of_decide_eq_true hok
      obtain ⟨mN, rfl⟩ : ∃ mN : Nat, m = (mN : Int) := ⟨m.toNat, (Int.toNat_of_nonneg k2).symm⟩
      obtain ⟨a4, a5⟩ := intsA_nrm hl
      refine ⟨by rw [List.all_cons, a4]; rfl, ?_⟩
      rw [List.map_cons, List.map_cons, List.map_cons, List.map_nil, a5]
      refine (fs_rnote l mN id k1 (by omega)).mono fun r _ ⟨y, h1, h2⟩ => ⟨y, h1, ?_⟩
      show Le y (.tuple [.lst 1 ((noteL (intsY x) (Int.toNat (mN : Int)) id).map gi) .no, .v (.bool (decide (id ∉ intsY x)))])
      rw [intsY_some hl, Int.toNat_natCast]
      exact h2
    · cases hok
  · cases hok
theorem Tr.leAt {P : Program} {ro : Nat → Option (List Value)} {c : Code} {act : List AV} {H : AH} {Q : Exit → List AV → AH → Prop} (k : Nat) {a b : AV} (hk : act[k]? = some a) (hle : Le a b) (h : Tr P ro c (act.set k b) H Q) : Tr P ro c act H Q := by
  intro G W ac hI hR hA
  refine h G W ac hI hR (RVs.setL k hA fun c hc => ?_)
  obtain ⟨c', hc', hr⟩ := hA.get k _ hk
  rw [hc] at hc'
  cases hc'
  exact hle G W _ hr
noncomputable def prL (S : WS) : FuncId → Option (List AV → AH → Ans) := fun g => match g with
  | 12 => some (obj? (wAll S))
  | 9 => some (obj? (wNote S))
  | 14 => some (obj? (wHas S))
  | 13 => some (obj? (wLen S))
  | 10 => some (obj? (wClear S))
  | 15 => some (tot? (rhV S.rh) rhOk)
  | 8 => some (tot? (rnV S.rn S.rb) rnOk)
  | 11 => some (tot? (sameIV S.si) sameIOk)
  | 6 => some (pure? awakeS)
  | _ => none
def wsx : WS := wsG rnX rnB sameIX
theorem knownL : Known nro (prL wsx) := by
  intro g p h
  unfold prL at h
  split at h
  · cases h; exact wall_ok _ _ _
  · cases h; exact wnote_ok _ _ _
  · cases h; exact whas_ok _ _ _
  · cases h; exact wlen_ok _ _ _
  · cases h; exact wclear_ok _ _ _
  · cases h; exact rhas_ok
  · cases h; exact rnote_ok
  · cases h; exact samei_ok
  · cases h; exact known07 _ _ (by rfl)
  · cases h
def muL : FuncId → Bool := fun g => g == 12 || (g == 9 || (g == 14 || (g == 13 || g == 10)))
theorem flatL {pr : FuncId → Option (List AV → AH → Ans)} : Flats muL pr := by
  intro (g : Nat) h
  unfold muL at h
  simp only [Bool.or_eq_true] at h
  have h3 : (12 : Nat) < 1000000 ∧ (9 : Nat) < 1000000 ∧ (14 : Nat) < 1000000 ∧ (13 : Nat) < 1000000 ∧ (10 : Nat) < 1000000 := by decide
  obtain ⟨k1, k2, k3, k4, k5⟩ := h3
  rcases h with h | h | h | h | h
  · have h2 : (g : Nat) + 1000000 = 12 := eq_of_beq h
    exact absurd h2 (by omega)
  · have h2 : (g : Nat) + 1000000 = 9 := eq_of_beq h
    exact absurd h2 (by omega)
  · have h2 : (g : Nat) + 1000000 = 14 := eq_of_beq h
    exact absurd h2 (by omega)
  · have h2 : (g : Nat) + 1000000 = 13 := eq_of_beq h
    exact absurd h2 (by omega)
  · have h2 : (g : Nat) + 1000000 = 10 := eq_of_beq h
    exact absurd h2 (by omega)
def acA (a : Int × Int) : AV := .v (.agg #[.int .i64 a.1, .int .i64 a.2])
end Go.Proofs.Ytkpgldafkbhngaa.AE
