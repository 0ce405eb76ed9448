/-
  A region that draws its order, of which each operation hands back one value in every world that meets S, and leaves a world that meets S: any one order will do.
-/
import Derived.Deep.RegionHeld3
namespace Go.Proofs.Ytibbeedodlnhjaa
section
variable {P : Program} {ops : Array Oper} {Q : Exit → Act → World → Prop} {md : Region.Mode} {S : World → Prop}
/-- The operation hands back v in every world that meets S, and the world behind it meets S; or it is not wanted. -/
def Gives (P : Program) (ops : Array Oper) (S : World → Prop) (o : Oper) (v : Value) (a : Act) : Prop :=
  (Region.wanted o (yielded ops a.tmps) = true ∧ ∀ w, S w → ∀ (b : Act) (K : Act → World → Prop) (Q : Exit → Act → World → Prop), (∀ w', S w' → K (b.put o.dst v) w') → Oper.upon P o b K Q ((execOp a.eval o).run P w)) ∨
  (Region.wanted o (yielded ops a.tmps) = false ∧ v = undef)
theorem gives_pure {o : Oper} {v : Value} {a : Act} (hw : Region.wanted o (yielded ops a.tmps) = true) (h : ∀ w, S w → (execOp a.eval o).run P w = .ok (.value v) w) : Gives P ops S o v a :=
  Or.inl ⟨hw, fun w hS b K Q hK => by rw [h w hS]; exact hK w hS⟩
theorem gives_call {o : Oper} {v : Value} {a : Act} (hw : Region.wanted o (yielded ops a.tmps) = true) (h : ∀ w, S w → ∀ (b : Act) (K : Act → World → Prop) (Q : Exit → Act → World → Prop), (∀ w', S w' → K (b.put o.dst v) w') → Oper.upon P o b K Q ((execOp a.eval o).run P w)) : Gives P ops S o v a :=
  Or.inl ⟨hw, h⟩
theorem gives_not {o : Oper} {a : Act} (hw : Region.wanted o (yielded ops a.tmps) = false) : Gives P ops S o undef a := Or.inr ⟨hw, rfl⟩
/-- Whatever has not come up yet waits for it, or is apart from it. -/
def Fr (md : Region.Mode) (ops : Array Oper) (listed : Array Bool) (i : Nat) (oi : Oper) : Prop :=
  ∀ j oj, ops[j]? = some oj → j ≠ i → listed.getD j true = false → (∀ e ∈ oj.after, Region.binds md e = true → e.on ≠ i) → oi.apart ops oj = true
def wpD (P : Program) (md : Region.Mode) (ops : Array Oper) (Q : Exit → Act → World → Prop) (S : World → Prop) : Nat → Array Bool → Act → Prop
  | 0, listed, a => Region.ready md ops listed = [] ∧ ∀ w, S w → Q .normal a w
  | n + 1, listed, a => (Region.ready md ops listed = [] ∧ ∀ w, S w → Q .normal a w) ∨
      ∃ i o v, ops[i]? = some o ∧ i ∈ Region.ready md ops listed ∧ Fr md ops listed i o ∧ Gives P ops S o v a ∧ wpD P md ops Q S n (listed.setIfInBounds i true) (a.put o.dst v)
theorem Gives.same {o : Oper} {v : Value} {a b : Act} (e1 : execOp b.eval o = execOp a.eval o) (e2 : Region.wanted o (yielded ops b.tmps) = Region.wanted o (yielded ops a.tmps)) (h : Gives P ops S o v a) : Gives P ops S o v b := by
  unfold Gives at *; rw [e1, e2]; exact h
theorem wpD_swap (hsel : ∀ (j : Nat) (o : Oper) cs b, ops[j]? = some o → o.op ≠ .select cs b) : ∀ (n : Nat) (listed : Array Bool) (a : Act), wpD P md ops Q S n listed a → ∀ j ∈ Region.ready md ops listed,
    ∃ oj u m, n = m + 1 ∧ ops[j]? = some oj ∧ Gives P ops S oj u a ∧ wpD P md ops Q S m (listed.setIfInBounds j true) (a.put oj.dst u)
  | 0, _, _, h, j, hj => by rw [h.1] at hj; cases hj
  | n + 1, listed, a, h, j, hj => by
    rcases h with h | ⟨i, oi, v, hi, hr, hfree, hy, hD⟩
    · rw [h.1] at hj; cases hj
    · rcases Decidable.em (j = i) with rfl | hne
      · exact ⟨oi, v, n, rfl, hi, hy, hD⟩
      · obtain ⟨oj, u, m, rfl, hoj, hu, hD2⟩ := wpD_swap hsel n _ _ hD j (ready_mono hj hne)
        obtain ⟨un, oj', hoj', hall⟩ := mem_ready.1 hj
        rw [hoj] at hoj'
        injection hoj' with hoj'
        subst hoj'
        have off : ∀ e ∈ oj.after, Region.binds md e = true → e.on ≠ i := fun e he hb heq => by
          have t1 := hall e he hb
          have t0 := (mem_ready.1 hr).1
          rw [heq] at t1
          rcases Nat.lt_or_ge i listed.size with hlt | hge
          · simp [hlt] at t0 t1; rw [t0] at t1; cases t1
          · simp [Array.getElem?_eq_none hge] at t1
        have hap := hfree j oj hoj hne un off
        obtain ⟨n1, n2, n3⟩ := Oper.apart_spec hap
        have nsi := fun cs b => hsel i oi cs b hi
        have nsj := fun cs b => hsel j oj cs b hoj
        refine ⟨oj, u, m + 1, rfl, hoj, hu.same (execOp_put oj nsj a oi.dst v n1).symm (wanted_put oj a oi.dst v n1).symm, Or.inr ⟨i, oi, v, hi, ready_mono hr (Ne.symm hne), ?_, hy.same (execOp_put oi nsi a oj.dst u n3) (wanted_put oi a oj.dst u n3), ?_⟩⟩
        · intro k ok hk hki hun hno
          refine hfree k ok hk hki ?_ hno
          rcases Decidable.em (j = k) with rfl | hjk
          · exact un
          · rwa [getD_set_ne true hjk] at hun
        · rw [Array.setIfInBounds_comm _ _ hne, Act.put_comm a u v (fun d hd => fun hd2 => n2 d hd2 hd)]
          exact hD2
theorem wpD_go (hs : Region.noSelect ops = true) : ∀ (n : Nat) (listed : Array Bool) (a : Act) (w : World), S w → wpD P md ops Q S n listed a → wpAnyH P md ops Q S n listed a w
  | 0, _, _, w, hS, h => ⟨h.1, h.2 w hS⟩
  | n + 1, listed, a, w, hS, h => by
    refine ⟨fun h0 => ?_, fun j hj => ?_⟩
    · rcases h with h | ⟨i, _, _, _, hr, _⟩
      · exact h.2 w hS
      · rw [h0] at hr; cases hr
    · obtain ⟨oj, u, m, hm, hoj, hu, hD⟩ := wpD_swap (Region.noSelect_spec hs) (n + 1) listed a h j hj
      obtain rfl : m = n := by omega
      unfold wpOp
      rw [hoj]
      dsimp only
      rcases hu with ⟨hw, hf⟩ | ⟨hw, rfl⟩
      · rw [if_pos hw]
        exact Or.inl (hf w hS a _ _ (fun w' hS' => ⟨hS', wpD_go hs m _ _ w' hS' hD⟩))
      · rw [if_neg (by rw [hw]; simp)]
        exact ⟨hS, wpD_go hs m _ _ w hS hD⟩
theorem wpD_step {i : Nat} {o : Oper} {v : Value} {n : Nat} {listed : Array Bool} {a : Act} (hi : ops[i]? = some o) (hf : Region.free md ops listed i = true) (hr : (Region.ready md ops listed).contains i = true)
    (hy : Gives P ops S o v a) (h : wpD P md ops Q S n (listed.setIfInBounds i true) (a.put o.dst v)) : wpD P md ops Q S (n + 1) listed a :=
  Or.inr ⟨i, o, v, hi, by simpa using hr, fun j oj => Region.free_spec hi hf j oj, hy, h⟩
theorem wpD_done {listed : Array Bool} {a : Act} (hr : Region.ready md ops listed = []) (h : ∀ w, S w → Q .normal a w) : ∀ n, wpD P md ops Q S n listed a
  | 0 => ⟨hr, h⟩
  | _ + 1 => Or.inl ⟨hr, h⟩
theorem gives_if {o : Oper} {a : Act} {b : Bool} {v : Value} (h1 : b = true → Gives P ops S o v a) (h2 : b = false → Region.wanted o (yielded ops a.tmps) = false) : Gives P ops S o (bif b then v else undef) a := by
  cases b with
  | false => exact Or.inr ⟨h2 rfl, rfl⟩
  | true => exact h1 rfl
/-- A region in the order of its text: the rest of its operations, from every world that meets S. -/
def wpG (P : Program) (ops : Array Oper) (Q : Exit → Act → World → Prop) (S : World → Prop) (rest : List Oper) (a : Act) : Prop := ∀ w, S w → wpList P ops Q rest a w
theorem wpG_go {id : Nat} {a : Act} {w : World} (hS : S w) (h : wpG P ops Q S ops.toList a) : (Code.region id ops false).wp P Q a w := wp_region_list (h w hS)
theorem wpG_step {o : Oper} {rest : List Oper} {v : Value} {a : Act} (hy : Gives P ops S o v a) (h : wpG P ops Q S rest (a.put o.dst v)) : wpG P ops Q S (o :: rest) a := by
  intro w hS
  unfold wpList
  rcases hy with ⟨hw, hf⟩ | ⟨hw, rfl⟩
  · rw [if_pos hw]
    exact Or.inl (hf w hS a _ _ (fun w' hS' => h w' hS'))
  · rw [if_neg (by rw [hw]; simp)]
    exact h w hS
theorem wpG_done {a : Act} (h : ∀ w, S w → Q .normal a w) : wpG P ops Q S [] a := fun w hS => h w hS
end
end Go.Proofs.Ytibbeedodlnhjaa
