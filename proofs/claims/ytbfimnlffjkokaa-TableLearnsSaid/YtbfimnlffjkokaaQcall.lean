/-
  A call that leaves the world as it is may come up first in a region that draws its order, where its value is the same in every world of the region.
-/
import Derived.Deep.RegionHeld3
namespace Go.Proofs.Ytbfimnlffjkokaa
section
variable {P : Program} {ops : Array Oper} {Q : Exit → Act → World → Prop} {md : Region.Mode} {S : World → Prop}
/-- The operation is a call that hands back v and leaves each world as it was that meets S. -/
def Hands (P : Program) (ops : Array Oper) (S : World → Prop) (o : Oper) (v : Value) (a : Act) : Prop :=
  Region.wanted o (yielded ops a.tmps) = true ∧ ∀ w, S w → ∀ (b : Act) (K : Act → World → Prop) (Q : Exit → Act → World → Prop), K (b.put o.dst v) w → Oper.upon P o b K Q ((execOp a.eval o).run P w)
theorem Hands.comes {i : Nat} {o : Oper} {v : Value} {a : Act} (hi : ops[i]? = some o) (hy : Hands P ops S o v a) {K : Act → World → Prop} {w : World} (hS : S w) (h : K (a.put o.dst v) w) : wpOp P ops Q i K a w := by
  obtain ⟨hw, hf⟩ := hy
  have g : o.wp P a w K Q := hf w hS a K Q h
  unfold wpOp
  rw [hi]
  show if _ then _ else _
  rw [if_pos hw]
  exact Or.inl g
/-- Another operation, apart from it, goes on as it would have gone behind it. -/
theorem Hands.past {j : Nat} {oi oj : Oper} {v : Value} (hj : ops[j]? = some oj) (hap : oi.apart ops oj = true) (hsi : ∀ cs b, oi.op ≠ .select cs b) (hsj : ∀ cs b, oj.op ≠ .select cs b)
    (hQ : ∀ c a w, Q (.panic c) (a.put oi.dst v) w → Q (.panic c) a w) {K : Act → World → Prop} {a : Act} {w : World} (hy : Hands P ops S oi v a) (h : wpOp P ops Q j K (a.put oi.dst v) w) :
    wpOp P ops Q j (fun a' w' => Hands P ops S oi v a' ∧ K (a'.put oi.dst v) w') a w := by
  obtain ⟨n1, n2, n3⟩ := Oper.apart_spec hap
  have same : ∀ b c : Act, execOp c.eval oi = execOp b.eval oi → Region.wanted oi (yielded ops c.tmps) = Region.wanted oi (yielded ops b.tmps) → Hands P ops S oi v b → Hands P ops S oi v c := fun b c e1 e2 hb => by
    unfold Hands at *; rw [e1, e2]; exact hb
  have put : ∀ (b : Act) (u : Value), Hands P ops S oi v b → Hands P ops S oi v (b.put oj.dst u) := fun b u => same b _ (execOp_put oi hsi b oj.dst u n3) (wanted_put oi b oj.dst u n3)
  have comm : ∀ (b : Act) (u : Value) (W : World), K ((b.put oi.dst v).put oj.dst u) W → K ((b.put oj.dst u).put oi.dst v) W := fun b u W hk => by rw [← Act.put_comm b v u n2]; exact hk
  unfold wpOp at h ⊢
  rw [hj] at h ⊢
  have ew := wanted_put oj a oi.dst v n1
  have ee := execOp_put oj hsj a oi.dst v n1
  dsimp only at h ⊢
  rw [ew] at h
  by_cases hw : Region.wanted oj (yielded ops a.tmps) = true
  · rw [if_pos hw] at h ⊢
    rcases h with h | ⟨h1, h2⟩
    · left
      unfold Oper.wp at h ⊢
      rw [ee] at h
      revert h
      cases (execOp a.eval oj).run P w with
      | halt x w' =>
        cases x <;> simp only [Oper.upon] <;> first | exact fun h => h | exact fun h => hQ _ _ _ h
      | ok n w' =>
        cases n with
        | value u => simp only [Oper.upon]; exact fun h => ⟨put a u hy, comm a u w' h⟩
        | skip => simp only [Oper.upon]; exact fun h => ⟨put a _ hy, comm a _ w' h⟩
        | defer d =>
          simp only [Oper.upon]
          intro h
          refine ⟨put _ _ (same a _ rfl rfl hy), ?_⟩
          rw [← Act.put_comm _ v undef n2, ← Act.put_defers]
          exact h
        | enter f args =>
          simp only [Oper.upon]
          intro h
          refine Calls.mono h fun e W he => ?_
          cases e with
          | returned u => exact ⟨put a u hy, comm a u W he⟩
          | panicked c => exact hQ _ _ _ he
          | outgrown => exact he
        | row r args => simp only [Oper.upon]; exact fun h => Rows.mono h fun u W he => ⟨put a u hy, comm a u W he⟩
        | _ => simp only [Oper.upon]; exact fun h => h
    · right
      refine ⟨?_, h2⟩
      unfold Oper.asks at h1 ⊢
      rw [ee] at h1
      exact h1
  · rw [if_neg hw] at h ⊢
    exact ⟨put a _ hy, comm a _ w h⟩
theorem Hands.first {i : Nat} {oi : Oper} {v : Value} (hi : ops[i]? = some oi) (hsel : ∀ (j : Nat) (o : Oper) cs b, ops[j]? = some o → o.op ≠ .select cs b)
    (hQ : ∀ c a w, Q (.panic c) (a.put oi.dst v) w → Q (.panic c) a w) (fuel : Nat) :
    ∀ (listed : Array Bool) (a : Act) (w : World),
      (∀ j oj, ops[j]? = some oj → j ≠ i → listed.getD j true = false → (∀ e ∈ oj.after, Region.binds md e = true → e.on ≠ i) → oi.apart ops oj = true) →
      i ∈ Region.ready md ops listed → Hands P ops S oi v a → S w →
      wpAnyH P md ops Q S fuel (listed.setIfInBounds i true) (a.put oi.dst v) w → wpAnyH P md ops Q S (fuel + 1) listed a w := by
  have nosel := fun cs b => hsel i oi cs b hi
  induction fuel with
  | zero =>
    intro listed a w _ hr hy hS H
    refine ⟨fun h => absurd hr (by rw [h]; simp), fun j hj => ?_⟩
    rcases Decidable.em (j = i) with rfl | hne
    · exact hy.comes hi hS ⟨hS, H⟩
    · exact absurd (ready_mono hj hne) (by rw [H.1]; simp)
  | succ n ih =>
    intro listed a w hfree hr hy hS H
    refine ⟨fun h => absurd hr (by rw [h]; simp), fun j hj => ?_⟩
    rcases Decidable.em (j = i) with rfl | hne
    · exact hy.comes hi hS ⟨hS, H⟩
    · have hq := H.2 j (ready_mono hj hne)
      obtain ⟨un, oj, hoj, hall⟩ := mem_ready.1 hj
      have off : ∀ e ∈ oj.after, Region.binds md e = true → e.on ≠ i := fun e he hb heq => by
        have t1 := hall e he hb
        have t0 := (mem_ready.1 hr).1
        rw [heq] at t1
        rcases Nat.lt_or_ge i listed.size with hlt | hge
        · simp [hlt] at t0 t1; rw [t0] at t1; cases t1
        · simp [Array.getElem?_eq_none hge] at t1
      have go := Hands.past hoj (hfree j oj hoj hne un off) nosel (fun cs b => hsel j oj cs b hoj) hQ hy hq
      refine wpOp_mono (fun a' w' h3 => ⟨h3.2.1, ih (listed.setIfInBounds j true) a' w' ?_ (ready_mono hr (Ne.symm hne)) h3.1 h3.2.1 ?_⟩) go
      · intro k ok hk hki hun hno
        refine hfree k ok hk hki ?_ hno
        rcases Decidable.em (j = k) with rfl | hjk
        · exact un
        · rwa [getD_set_ne true hjk] at hun
      · rw [Array.setIfInBounds_comm _ _ hne]
        exact h3.2.2
theorem wpAnyH_hands {i : Nat} {oi : Oper} {v : Value} {fuel : Nat} {listed : Array Bool} {a : Act} {w : World} (hi : ops[i]? = some oi)
    (hs : Region.noSelect ops = true) (hf : Region.free md ops listed i = true) (hr : (Region.ready md ops listed).contains i = true)
    (hQ : ∀ c a w, Q (.panic c) (a.put oi.dst v) w → Q (.panic c) a w) (hS : S w) (hw : Region.wanted oi (yielded ops a.tmps) = true)
    (hc : ∀ w, S w → ∀ (b : Act) (K : Act → World → Prop) (Q : Exit → Act → World → Prop), K (b.put oi.dst v) w → Oper.upon P oi b K Q ((execOp a.eval oi).run P w))
    (h : wpAnyH P md ops Q S fuel (listed.setIfInBounds i true) (a.put oi.dst v) w) : wpAnyH P md ops Q S (fuel + 1) listed a w :=
  Hands.first hi (Region.noSelect_spec hs) hQ fuel listed a w (Region.free_spec hi hf) (by simpa using hr) ⟨hw, hc⟩ hS h
end
end Go.Proofs.Ytbfimnlffjkokaa
