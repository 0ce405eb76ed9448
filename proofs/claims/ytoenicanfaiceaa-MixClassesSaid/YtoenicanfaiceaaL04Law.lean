/-
  The walks of the laws of layer 4.
-/
import Derived.Test.YtoenicanfaiceaaMixC
import Derived.Test.YtoenicanfaiceaaRef01
import Derived.Test.YtoenicanfaiceaaAgg
import Derived.Deep.RegionHeld3
namespace Go.Proofs.Ytoenicanfaiceaa
open Go.RowKit Mx
theorem awake04 (w : World) :
    Calls Try.prog 9 #[] w fun e w' => e = .returned (.bool true) ∧ Below w.heap.size w w' := by
  have hx : ((pr 7 0 0).1 != 0 || (pr 7 0 0).2 != 0) = true := by decide +kernel
  have hlen : (clsL 7 1 5 [2, 3]).length = 2 := rfl
  have HL := Lib.hid hlen
  have hne : (((pr 7 0 0).1 : Int) == 0) = false := by decide +kernel
  have hne2 : (((pr 7 0 0).1 : Int) != 0) = true := by decide +kernel
  clear hlen hx
  go_enter Try.func9, Try.ntmps9
  go_wp2_with fail
  refine (pair04 _).mono ?_; rintro e w1 ⟨rfl, b1⟩
  go_wp2_with fail
  refine (rpair04 _).mono ?_; rintro e w' ⟨rfl, rfl⟩
  go_wp2_with fail
  refine (all04 _ _ (lit_row _ _ _)).mono ?_; rintro e w2 ⟨a, cap, rfl, hr, b2⟩
  rw [HL.out]
  go_wp2_with fail
  go_ret
  have b2' := ((Below.refl w1.heap.size w1).alloc (Nat.le_refl _) _).trans (b2.mono (by simp))
  exact ⟨rfl, (below3 b1 b2')⟩
structure St04 (w0 : World) (k x : Nat) (v : Value) (j : Nat) (L : List Int) (W : World) : Prop where
  bl : Below (w0.heap.size + 1) (w0.alloc (.cells #[.int .u64 (k : Int), .int .u64 (x : Int)] 28)) W
  own : W.ownsRow (w0.heap.size + 1) 3 1 v j (L.map (Value.int .i64))
  bk : Bk W w0.heap.size 28 #[.int .u64 (k : Int), .int .u64 (x : Int)]
theorem St04.below {w0 W W' : World} {k x j : Nat} {v : Value} {L : List Int} (h : St04 w0 k x v j L W) (b : Below W.heap.size W W') : St04 w0 k x v j L W' :=
  ⟨h.bl.trans (b.mono (by have := h.bl.size; simp at this; omega)), own_move h.own b, h.bk.below b⟩
theorem St04.drewN {w0 W : World} {k x j : Nat} {v : Value} {L : List Int} (h : St04 w0 k x v j L W) (n : Nat) : St04 w0 k x v j L (W.drewN n) := h.below (bl_drewN (Below.refl _ _) n)
theorem St04.drew {w0 W : World} {k x j : Nat} {v : Value} {L : List Int} (h : St04 w0 k x v j L W) : St04 w0 k x v j L W.drew := h.below (Below.refl _ _).drew
theorem own_bk {B g : Nat} {w w' : World} {e t : TypeId} {size : Nat} {v : Value} {n : Nat} {xs : List Value} {cs : Array Value} (hA : Bk w g t cs) (ho : w.ownsRow B e size v n xs) (x : Obj) (hg : (w.alloc x).grownBy w' v.ownBlock) (h : g < B) : Bk w' g t cs :=
  (hA.below ((Below.refl _ _).alloc (Nat.le_refl _) _)).grown hg (by intro e; have := (ho.lt g e.symm).1; omega)
theorem nat_of (z : Int) (h : (Lit.int .u64 z).wf = true) : ∃ n : Nat, z = (n : Int) ∧ n < M := by
  simp only [Lit.wf, Bool.and_eq_true, decide_eq_true_eq] at h
  have h1 : 0 ≤ z := h.1
  have h2 : z ≤ 18446744073709551615 := h.2
  exact ⟨z.toNat, by omega, by unfold M; omega⟩
set_option maxHeartbeats 1000000 in
theorem w_MixPairs (w : World) (k : Int) (wk : (Lit.int .u64 k).wf = true) (x : Int) (wx : (Lit.int .u64 x).wf = true) (y : Int) (wy : (Lit.int .u64 y).wf = true) :
    Calls Try.prog 3 #[.int .u64 k, .int .u64 x, .int .u64 y] w fun e w' => e = .returned (.bool true) ∧ Below w.heap.size w w' := by
  obtain ⟨k, rfl, hk⟩ := nat_of k wk
  obtain ⟨x, rfl, hx⟩ := nat_of x wx
  obtain ⟨y, rfl, hy⟩ := nat_of y wy
  go_enter Try.func3, Try.ntmps3
  go_wp2_with fail
  refine (pair_any k x y _ ⟨hx, hy⟩ hk).mono ?_; rintro e w1 ⟨rfl, b1⟩
  go_wp2_with fail
  refine (rpair_any k x y _ ⟨hx, hy⟩ hk).mono ?_; rintro e w' ⟨rfl, rfl⟩
  go_wp2_with fail
  refine (of_any k x y _ ⟨hx, hy⟩ hk).mono ?_; rintro e w2 ⟨rfl, b2⟩
  go_wp2_with fail
  refine (awake04 _).mono ?_; rintro e w3 ⟨rfl, b3⟩
  go_wp2_with fail
  go_ret
  exact ⟨rfl, (below3 (below3 b1 b2) b3)⟩
set_option maxHeartbeats 1000000 in
theorem w_MixBack (w : World) (k : Int) (wk : (Lit.int .u64 k).wf = true) (x : Int) (wx : (Lit.int .u64 x).wf = true) (y : Int) (wy : (Lit.int .u64 y).wf = true) :
    Calls Try.prog 4 #[.int .u64 k, .int .u64 x, .int .u64 y] w fun e w' => e = .returned (.bool true) ∧ Below w.heap.size w w' := by
  obtain ⟨k, rfl, hk⟩ := nat_of k wk
  obtain ⟨x, rfl, hx⟩ := nat_of x wx
  obtain ⟨y, rfl, hy⟩ := nat_of y wy
  have hr := rp_in k x y ⟨hx, hy⟩
  have hp := pr_in k x y ⟨hx, hy⟩
  have e1 : pr k (rp k x y).1 (rp k x y).2 = (x, y) := fw_bw k (x, y) ⟨hx, hy⟩
  have e2 : rp k (pr k x y).1 (pr k x y).2 = (x, y) := bw_fw k (x, y) ⟨hx, hy⟩
  have P1 := fun w => rpair_any k (rp k x y).1 (rp k x y).2 w hr hk
  rw [e1] at P1
  have P2 := fun w => back_any k (pr k x y).1 (pr k x y).2 w hp
  rw [e2] at P2
  have P1 := Lib.hid P1
  have P2 := Lib.hid P2
  clear e1 e2 hr hp
  go_enter Try.func4, Try.ntmps4
  go_wp2_with fail
  refine (back_any k x y _ ⟨hx, hy⟩).mono ?_; rintro e w1 ⟨rfl, b1⟩
  go_wp2_with fail
  refine (P1.out _).mono ?_; rintro e w' ⟨rfl, rfl⟩
  go_wp2_with fail
  refine (rpair_any k x y _ ⟨hx, hy⟩ hk).mono ?_; rintro e w' ⟨rfl, rfl⟩
  go_wp2_with fail
  refine (P2.out _).mono ?_; rintro e w2 ⟨rfl, b2⟩
  go_wp2_with fail
  refine (awake04 _).mono ?_; rintro e w3 ⟨rfl, b3⟩
  go_wp2_with fail
  go_ret
  exact ⟨rfl, (below3 (below3 b1 b2) b3)⟩
end Go.Proofs.Ytoenicanfaiceaa
