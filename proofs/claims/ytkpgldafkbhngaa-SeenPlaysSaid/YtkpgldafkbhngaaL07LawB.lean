/-
  The law SeenPlays of layer 7, from what comes in.
-/
import Derived.Test.YtkpgldafkbhngaaL07Law
import Derived.Test.YtkpgldafkbhngaaFld
namespace Go.Proofs.Ytkpgldafkbhngaa
open Go.RowKit AE
def qsOf (len : Nat) (f : Nat → Nat → Int) : List (Int × Int) := (List.range len).map fun i => (f i 0, f i 1)
def flV (q : List (Int × Int)) : List Value := q.flatMap fun a => [.int .i64 a.1, .int .i64 a.2]
theorem pvs_flV (pr : Nat → Nat → Prop) (w : World) : ∀ q : List (Int × Int), PVs pr w ((q.map acA).flatMap AV.cells) (flV q)
  | [] => .nil
  | a :: q => .cons (.v _) (.cons (.v _) (pvs_flV pr w q))
theorem flV_one : ∀ q : List (Int × Int), ∀ u ∈ flV q, u.oneCell' = true
  | a :: q, u, h => by
    rcases List.mem_cons.1 h with rfl | h
    · rfl
    rcases List.mem_cons.1 h with rfl | h
    · rfl
    exact flV_one q u h
theorem flV_get : ∀ (q : List (Int × Int)) (j : Nat) (u : Value), (flV q)[j]? = some u → ∃ i k, i < q.length ∧ k < 2 ∧ j = i * 2 + k ∧ ∃ a, q[i]? = some a ∧ u = .int .i64 (if k = 0 then a.1 else a.2)
  | [], j, u, h => by simp [flV] at h
  | a :: q, 0, u, h => by
    have h : some (Value.int .i64 a.1) = some u := h
    cases h
    exact ⟨0, 0, by simp, by omega, rfl, a, rfl, rfl⟩
  | a :: q, 1, u, h => by
    have h : some (Value.int .i64 a.2) = some u := h
    cases h
    exact ⟨0, 1, by simp, by omega, rfl, a, rfl, rfl⟩
  | a :: q, j + 2, u, h => by
    have h : (flV q)[j]? = some u := h
    obtain ⟨i, k, h1, h2, h3, b, h4, h5⟩ := flV_get q j u h
    exact ⟨i + 1, k, by simp; omega, h2, by omega, b, by simpa using h4, h5⟩
theorem flds_rv {w : World} {a : Option Addr} {len cap : Nat} {f : Nat → Nat → Int} (h : Fld w a len 2 f) (hc : len ≤ cap) (hx : cap ≤ maxLen) : RV (G0 w) w (.lst 2 ((qsOf len f).map acA) .no) (.slice a len cap) := by
  have hl : (qsOf len f).length = len := by simp [qsOf]
  refine .lst (cs := flV (qsOf len f)) (by simp [hl]) (pvs_flV _ _ _) (fun x hx => ?_) ⟨flV_one _, fun hne => ?_⟩ hc hx trivial
  · obtain ⟨u, _, rfl⟩ := List.mem_map.1 hx
    rfl
  · have h0 : 0 < len := by
      rcases Nat.eq_zero_or_pos len with e | e
      · subst e; exact absurd rfl hne
      · exact e
    obtain ⟨b, off, e, hcell⟩ := h h0
    refine ⟨b, off, e, fun j u hu => ?_⟩
    obtain ⟨i, k, h1, h2, h3, q, h4, h5⟩ := flV_get _ j u hu
    rw [hl] at h1
    have hq : q = (f i 0, f i 1) := by
      unfold qsOf at h4
      rw [List.getElem?_map, List.getElem?_range h1] at h4
      simpa using h4.symm
    have hcl := hcell i k h1 h2
    have hu' : u = .int .i64 (f i k) := by
      rw [h5, hq]
      match k, h2 with
      | 0, _ => rfl
      | 1, _ => rfl
    have e2 : off + j = off + i * 2 + k := by omega
    rw [e2, hu']
    exact ⟨cell_lt hcl, hcl⟩
theorem w_SeenPlays (w : World) (m : Int) (_ : (Lit.int .i64 m).wf = true) (a : Option Addr) (len cap : Nat) (f : Nat → Nat → Int) (hF : Fld w a len 2 f) (_ : len ≤ maxLen) (_ : ∀ i j, i < len → j < 2 → (Lit.int .i64 (f i j)).wf = true) (hc : len ≤ cap) (hx : cap ≤ maxLen) :
    Calls Try.prog 3 #[.int .i64 m, .slice a len cap] w fun e w' => e = .returned (.bool true) ∧ Below w.heap.size w w' :=
  law_true (fs_plays m (qsOf len f)) w _ (ro_none _ _) (.cons (.v _) (.cons (flds_rv hF hc hx) .nil))
end Go.Proofs.Ytkpgldafkbhngaa
