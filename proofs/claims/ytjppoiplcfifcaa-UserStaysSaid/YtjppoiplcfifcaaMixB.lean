/-
  The contracts of the rounds of layer 4.
-/
import Derived.Test.YtjppoiplcfifcaaMix
namespace Go.Proofs.Ytjppoiplcfifcaa
open Go.RowKit Mx
/-- The two cells that a round turns. -/
structure Two (B : Nat) (W : World) (g1 g2 : Nat) (x y : Nat) : Prop where
  a : Bk W g1 22 #[.int .u64 x]
  b : Bk W g2 22 #[.int .u64 y]
  n : g1 ≠ g2
  l1 : B ≤ g1
  l2 : B ≤ g2
theorem Two.drew {B g1 g2 x y : Nat} {W : World} (q : Two B W g1 g2 x y) : Two B W.drew g1 g2 x y := ⟨q.a, q.b, q.n, q.l1, q.l2⟩
theorem Two.sx {B g1 g2 x y : Nat} {W : World} (q : Two B W g1 g2 x y) (z : Nat) : Two B (W.setCell ⟨g1, 0, none⟩ (.int .u64 z)) g1 g2 z y :=
  ⟨q.a.set_ 0 _, q.b.grown (only_set W g1 0 _) (by simpa using Ne.symm q.n), q.n, q.l1, q.l2⟩
theorem Two.sy {B g1 g2 x y : Nat} {W : World} (q : Two B W g1 g2 x y) (z : Nat) : Two B (W.setCell ⟨g2, 0, none⟩ (.int .u64 z)) g1 g2 x z :=
  ⟨q.a.grown (only_set W g2 0 _) (by simpa using q.n), q.b.set_ 0 _, q.n, q.l1, q.l2⟩
set_option maxHeartbeats 1000000 in
theorem round_any (B g1 g2 x y k : Nat) (w : World) (q : Two B w g1 g2 x y) (hi : In (x, y)) (hk : k < M) (hB : B ≤ w.heap.size) :
    Calls Try.prog 30 #[.int .u64 k, .pointer (some ⟨g1, 0, none⟩), .pointer (some ⟨g2, 0, none⟩)] w fun e w' => e = .returned (.tuple #[]) ∧ Two B w' g1 g2 (stp k (x, y)).1 (stp k (x, y)).2 ∧ Below B w w' := by
  have cx := q.a.cell 0
  have cy := q.b.cell 0
  have fx1 := q.a.frozen 0
  have fy1 := q.b.frozen 0
  have Q := Lib.hid q
  have HI := Lib.hid hi
  have HK := Lib.hid hk
  have hn := q.n
  have H1 := Lib.hid (show bits BinOp.xor IntKind.u64 (IntKind.u64.wrap (((rl 56 x : Nat) : Int) + (y : Int))) (k : Int) = ((fx k x y : Nat) : Int) from w_fx k (rl 56 x) y hk)
  have H2 := Lib.hid (w_xor (rl 3 y) (fx k x y) (rl_lt _ _ hi.2) (fx_lt _ _ _ hk))
  clear q hi hk
  go_enter Try.func30, Try.ntmps30
  go_wp2_with fail
  go_region_law (first | (go_simp; go_at_call 31; refine (rot56 x _ HI.out.1).mono ?_; rintro e w1 ⟨rfl, rfl⟩))
  all_goals
    rw [H1.out]
    have q2 := (Q.out.sx (fx k x y)).drew
    have b2 := ((Below.refl B w).setCell (p := ⟨g1, 0, none⟩) Q.out.l1 (.int .u64 (fx k x y : Nat))).drew
    generalize World.drew (World.setCell w ⟨g1, 0, none⟩ (.int .u64 (fx k x y : Nat))) = w2 at q2 b2 ⊢
    have Q2 := Lib.hid q2
    have B2 := Lib.hid b2
    have dx := q2.a.cell 0
    have dy := q2.b.cell 0
    have gx := q2.a.frozen 0
    have gy := q2.b.frozen 0
    clear q2 b2 cx cy fx1 fy1
    go_wp2_with fail
    go_region_law (first | (go_simp; go_at_call 31; refine (rot3 y _ HI.out.2).mono ?_; rintro e w1 ⟨rfl, rfl⟩))
    all_goals
      rw [H2.out]
      have q3 := (Q2.out.sy (rl 3 y ^^^ fx k x y)).drew
      have b3 := (B2.out.setCell (p := ⟨g2, 0, none⟩) Q2.out.l2 (.int .u64 (rl 3 y ^^^ fx k x y : Nat))).drew
      generalize World.drew (World.setCell w2 ⟨g2, 0, none⟩ (.int .u64 (rl 3 y ^^^ fx k x y : Nat))) = w3 at q3 b3 ⊢
      go_wp2_with fail
      go_end0
      exact ⟨rfl, q3, b3⟩
theorem Two.at {B g1 g2 x y : Nat} {W : World} (p : Nat × Nat) (q : Two B W g1 g2 p.1 p.2) (e : p = (x, y)) : Two B W g1 g2 x y := by rw [e] at q; exact q
set_option maxHeartbeats 1000000 in
theorem forwards_any (B g1 g2 k : Nat) (p : Nat × Nat) (w : World) (q : Two B w g1 g2 p.1 p.2) (hi : In p) (hk : k < M) (hB : B ≤ w.heap.size) :
    Calls Try.prog 29 #[.int .u64 k, .func (.func 30) #[] #[.pointer (some ⟨g1, 0, none⟩), .pointer (some ⟨g2, 0, none⟩)]] w fun e w' => e = .returned (.tuple #[]) ∧ Two B w' g1 g2 (fw k 8 p).1 (fw k 8 p).2 ∧ Below B w w' := by
  have Q := Lib.hid q
  have HB := Lib.hid hB
  clear q hB
  go_enter Try.func29, Try.ntmps29
  go_wp2_with fail
  go_loopw [5] (fun i wr => ∃ (n : Nat), n ≤ 8 ∧ i = .int .u64 n ∧ Two B wr g1 g2 (fw k n p).1 (fw k n p).2 ∧ Below B w wr) (fun i _ => 8 - (intOf i).toNat)
  case atStart => exact ⟨0, Nat.zero_le _, rfl, Q.out, Below.refl _ _⟩
  case round =>
    obtain ⟨n, hn, rfl, hq, hb⟩ := hrel
    have Q1 := Lib.hid hq
    have B1 := Lib.hid hb
    have HK := Lib.hid (w_key k n hn)
    have HI := Lib.hid (fw_in k n p hi)
    clear hq hb
    by_cases hlt : n < 8
    · have hlt2 : decide ((n : Int) < 8) = true := by simp; omega
      go_wp2_with fail
      rw [HK.out]
      refine (round_any B g1 g2 _ _ (key k n) _ Q1.out HI.out (key_lt _ _) (Nat.le_trans HB.out B1.out.size)).mono ?_; rintro e w2 ⟨rfl, q2, b2⟩
      have Q2 := Lib.hid q2
      have B2 := Lib.hid (B1.out.trans b2)
      clear q2 b2
      go_wp2_with fail
      go_roundw
      case rel => exact ⟨n + 1, by omega, by go_num, Q2.out, B2.out⟩
      case measure => simp [intOf]; omega
    · obtain rfl : n = 8 := by omega
      go_wp2_with fail
      go_end0
      exact ⟨rfl, Q1.out, B1.out⟩
/-- What a key makes of two numbers, and back. -/
def pr (k x y : Nat) : Nat × Nat := fw k 8 (x, y)
def rp (k x y : Nat) : Nat × Nat := bw k 8 (x, y)
set_option maxHeartbeats 1000000 in
theorem pair_any (k x y : Nat) (w : World) (hi : In (x, y)) (hk : k < M) :
    Calls Try.prog 27 #[.int .u64 k, .int .u64 x, .int .u64 y] w fun e w' => e = .returned (.tuple #[.int .u64 (pr k x y).1, .int .u64 (pr k x y).2]) ∧ Below w.heap.size w w' := by
  have hmf := mf_any
  have q : Two w.heap.size ((w.alloc (.cells #[.int .u64 x] 22)).alloc (.cells #[.int .u64 y] 22)) w.heap.size (w.heap.size + 1) x y :=
    ⟨Bk.below (Bk.new w _ _) ((Below.refl _ _).alloc (Nat.le_refl _) _), by simpa using Bk.new (w.alloc (.cells #[.int .u64 x] 22)) 22 #[.int .u64 y], by omega, Nat.le_refl _, by omega⟩
  have Q := Lib.hid q
  have B0 := Lib.hid (((Below.refl w.heap.size w).alloc (Nat.le_refl _) (.cells #[.int .u64 x] 22)).alloc (by simp) (.cells #[.int .u64 y] 22))
  clear q
  go_enter Try.func27, Try.ntmps27
  go_wp2_with fail
  refine (forwards_any w.heap.size _ _ k (x, y) _ Q.out hi hk (by simp; omega)).mono ?_; rintro e w2 ⟨rfl, q2, b2⟩
  have c1 := q2.a.cell 0
  have c2 := q2.b.cell 0
  have B2 := Lib.hid (B0.out.trans b2)
  clear q2 b2
  go_wp2_with fail
  go_quiet (fail)
  go_wp2_with fail
  go_ret2
  exact ⟨rfl, bl_drewN B2.out _⟩
theorem of_any (k x y : Nat) (w : World) (hi : In (x, y)) (hk : k < M) :
    Calls Try.prog 24 #[.int .u64 k, .int .u64 x, .int .u64 y] w fun e w' => e = .returned (.int .u64 (pr k x y).1) ∧ Below w.heap.size w w' := by
  go_enter Try.func24, Try.ntmps24
  go_wp2_with fail
  refine (pair_any k x y _ hi hk).mono ?_; rintro e w1 ⟨rfl, b1⟩
  go_wp2_with fail
  go_ret
  exact ⟨rfl, b1⟩
set_option maxHeartbeats 1000000 in
theorem rpair_any (k x y : Nat) (w : World) (hi : In (x, y)) (hk : k < M) :
    Calls Try.prog 28 #[.int .u64 k, .int .u64 x, .int .u64 y] w fun e w' => e = .returned (.tuple #[.int .u64 (pr k x y).1, .int .u64 (pr k x y).2]) ∧ w = w' := by
  have HI0 := Lib.hid hi
  have HK0 := Lib.hid hk
  clear hi hk
  go_enter Try.func28, Try.ntmps28
  go_wp2_with fail
  go_loop [1, 2, 8] (fun a b i => ∃ (n : Nat), n ≤ 8 ∧ i = .int .i64 n ∧ a = .int .u64 (fw k n (x, y)).1 ∧ b = .int .u64 (fw k n (x, y)).2) (fun _ _ i => 8 - (intOf i).toNat)
  case atStart => exact ⟨0, Nat.zero_le _, rfl, rfl, rfl⟩
  case round =>
    obtain ⟨n, hn, rfl, rfl, rfl⟩ := hrel
    have hin := fw_in k n (x, y) HI0.out
    have HI := Lib.hid hin
    have HK := Lib.hid (w_key k n hn)
    have H1 := Lib.hid (show bits BinOp.xor IntKind.u64 (IntKind.u64.wrap (((rl 56 (fw k n (x, y)).1 : Nat) : Int) + (((fw k n (x, y)).2 : Nat) : Int))) ((key k n : Nat) : Int) = ((fx (key k n) (fw k n (x, y)).1 (fw k n (x, y)).2 : Nat) : Int) from w_fx (key k n) (rl 56 (fw k n (x, y)).1) (fw k n (x, y)).2 (key_lt _ _))
    have H2 := Lib.hid (w_xor (rl 3 (fw k n (x, y)).2) (fx (key k n) (fw k n (x, y)).1 (fw k n (x, y)).2) (rl_lt _ _ hin.2) (fx_lt _ _ _ (key_lt _ _)))
    clear hin
    by_cases hlt : n < 8
    · have hw : IntKind.u64.wrap (n : Int) = n := by rw [w64, Nat.mod_eq_of_lt (by unfold M; omega)]
      go_wp2_with fail
      refine (turned_any 56 _ _ HI.out.1 (by decide)).mono ?_; rintro e w' ⟨rfl, rfl⟩
      go_wp2_with fail
      rw [HK.out, H1.out]
      refine (turned_any 3 _ _ HI.out.2 (by decide)).mono ?_; rintro e w' ⟨rfl, rfl⟩
      go_wp2_with fail
      go_round
      case rel => exact ⟨n + 1, by omega, by go_num, rfl, by rw [H2.out]; rfl⟩
      case measure => simp [intOf]; omega
    · obtain rfl : n = 8 := by omega
      go_wp2_with fail
      go_ret2
      exact ⟨rfl, rfl⟩
end Go.Proofs.Ytjppoiplcfifcaa
