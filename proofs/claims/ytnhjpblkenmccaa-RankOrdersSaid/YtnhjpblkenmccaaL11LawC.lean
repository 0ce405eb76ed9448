/-
  The walk of the law RankOrders of layer 11.
-/
import Derived.Test.YtnhjpblkenmccaaL11LawB
namespace Go.Proofs.Ytnhjpblkenmccaa
open Go.RowKit Bd Rk
structure Three (w0 : World) (f h k : Nat → Int) (W : World) : Prop where
  bl : Below w0.heap.size w0 W
  x : Bk W w0.heap.size 23 #[.int .i64 (f 0), .int .i64 (f 1), .int .i64 (f 2), .int .i64 (f 3), .int .i64 (f 4), .int .i64 (f 5), .int .i64 (f 6)]
  y : Bk W (w0.heap.size + 1) 23 #[.int .i64 (h 0), .int .i64 (h 1), .int .i64 (h 2), .int .i64 (h 3), .int .i64 (h 4), .int .i64 (h 5), .int .i64 (h 6)]
  z : Bk W (w0.heap.size + 2) 23 #[.int .i64 (k 0), .int .i64 (k 1), .int .i64 (k 2), .int .i64 (k 3), .int .i64 (k 4), .int .i64 (k 5), .int .i64 (k 6)]
theorem Three.below {w0 W W' : World} {f h k : Nat → Int} (q : Three w0 f h k W) (b : Below W.heap.size W W') : Three w0 f h k W' := ⟨q.bl.trans (b.mono q.bl.size), q.x.below b, q.y.below b, q.z.below b⟩
theorem Three.drew {w0 W : World} {f h k : Nat → Int} (q : Three w0 f h k W) : Three w0 f h k W.drew := q.below (Below.refl _ _).drew
theorem Three.s {w0 W : World} {f h k : Nat → Int} (q : Three w0 f h k W) : (W.cell? ⟨w0.heap.size, 0, none⟩ = some (.int .i64 (f 0)) ∧ W.cell? ⟨w0.heap.size, 1, none⟩ = some (.int .i64 (f 1)) ∧ W.cell? ⟨w0.heap.size, 2, none⟩ = some (.int .i64 (f 2)) ∧ W.cell? ⟨w0.heap.size, 3, none⟩ = some (.int .i64 (f 3)) ∧ W.cell? ⟨w0.heap.size, 4, none⟩ = some (.int .i64 (f 4)) ∧ W.cell? ⟨w0.heap.size, 5, none⟩ = some (.int .i64 (f 5)) ∧ W.cell? ⟨w0.heap.size, 6, none⟩ = some (.int .i64 (f 6)) ∧ W.cell? ⟨w0.heap.size + 1, 0, none⟩ = some (.int .i64 (h 0)) ∧ W.cell? ⟨w0.heap.size + 1, 1, none⟩ = some (.int .i64 (h 1)) ∧ W.cell? ⟨w0.heap.size + 1, 2, none⟩ = some (.int .i64 (h 2)) ∧ W.cell? ⟨w0.heap.size + 1, 3, none⟩ = some (.int .i64 (h 3)) ∧ W.cell? ⟨w0.heap.size + 1, 4, none⟩ = some (.int .i64 (h 4)) ∧ W.cell? ⟨w0.heap.size + 1, 5, none⟩ = some (.int .i64 (h 5)) ∧ W.cell? ⟨w0.heap.size + 1, 6, none⟩ = some (.int .i64 (h 6)) ∧ W.cell? ⟨w0.heap.size + 2, 0, none⟩ = some (.int .i64 (k 0)) ∧ W.cell? ⟨w0.heap.size + 2, 1, none⟩ = some (.int .i64 (k 1)) ∧ W.cell? ⟨w0.heap.size + 2, 2, none⟩ = some (.int .i64 (k 2)) ∧ W.cell? ⟨w0.heap.size + 2, 3, none⟩ = some (.int .i64 (k 3)) ∧ W.cell? ⟨w0.heap.size + 2, 4, none⟩ = some (.int .i64 (k 4)) ∧ W.cell? ⟨w0.heap.size + 2, 5, none⟩ = some (.int .i64 (k 5)) ∧ W.cell? ⟨w0.heap.size + 2, 6, none⟩ = some (.int .i64 (k 6))) ∧ Three w0 f h k W :=
  ⟨⟨q.x.cell 0, q.x.cell 1, q.x.cell 2, q.x.cell 3, q.x.cell 4, q.x.cell 5, q.x.cell 6, q.y.cell 0, q.y.cell 1, q.y.cell 2, q.y.cell 3, q.y.cell 4, q.y.cell 5, q.y.cell 6, q.z.cell 0, q.z.cell 1, q.z.cell 2, q.z.cell 3, q.z.cell 4, q.z.cell 5, q.z.cell 6⟩, q⟩
set_option maxRecDepth 100000 in
set_option maxHeartbeats 8000000 in
theorem w_RankOrders (w : World) (f0 f1 f2 f3 f4 f5 f6 h0 h1 h2 h3 h4 h5 h6 k0 k1 k2 k3 k4 k5 k6 : Int) :
    Calls Try.prog 3 #[.agg #[.int .i64 f0, .int .i64 f1, .int .i64 f2, .int .i64 f3, .int .i64 f4, .int .i64 f5, .int .i64 f6], .agg #[.int .i64 h0, .int .i64 h1, .int .i64 h2, .int .i64 h3, .int .i64 h4, .int .i64 h5, .int .i64 h6], .agg #[.int .i64 k0, .int .i64 k1, .int .i64 k2, .int .i64 k3, .int .i64 k4, .int .i64 k5, .int .i64 k6]] w fun e w' => e = .returned (.bool true) ∧ Below w.heap.size w w' := by
  obtain ⟨f, rfl, rfl, rfl, rfl, rfl, rfl, rfl⟩ : ∃ f : Nat → Int, f 0 = f0 ∧ f 1 = f1 ∧ f 2 = f2 ∧ f 3 = f3 ∧ f 4 = f4 ∧ f 5 = f5 ∧ f 6 = f6 :=
    ⟨fun i => match i with | 0 => f0 | 1 => f1 | 2 => f2 | 3 => f3 | 4 => f4 | 5 => f5 | _ => f6, rfl, rfl, rfl, rfl, rfl, rfl, rfl⟩
  obtain ⟨h, rfl, rfl, rfl, rfl, rfl, rfl, rfl⟩ : ∃ h : Nat → Int, h 0 = h0 ∧ h 1 = h1 ∧ h 2 = h2 ∧ h 3 = h3 ∧ h 4 = h4 ∧ h 5 = h5 ∧ h 6 = h6 :=
    ⟨fun i => match i with | 0 => h0 | 1 => h1 | 2 => h2 | 3 => h3 | 4 => h4 | 5 => h5 | _ => h6, rfl, rfl, rfl, rfl, rfl, rfl, rfl⟩
  obtain ⟨k, rfl, rfl, rfl, rfl, rfl, rfl, rfl⟩ : ∃ k : Nat → Int, k 0 = k0 ∧ k 1 = k1 ∧ k 2 = k2 ∧ k 3 = k3 ∧ k 4 = k4 ∧ k 5 = k5 ∧ k 6 = k6 :=
    ⟨fun i => match i with | 0 => k0 | 1 => k1 | 2 => k2 | 3 => k3 | 4 => k4 | 5 => k5 | _ => k6, rfl, rfl, rfl, rfl, rfl, rfl, rfl⟩
  obtain ⟨p, hp⟩ : ∃ p, bef f h = p := ⟨_, rfl⟩
  obtain ⟨q, hq⟩ : ∃ q, bef h f = q := ⟨_, rfl⟩
  obtain ⟨r, hr⟩ : ∃ r, bef h k = r := ⟨_, rfl⟩
  obtain ⟨s, hs⟩ : ∃ s, bef f k = s := ⟨_, rfl⟩
  obtain ⟨v, hv⟩ : ∃ v, wor f h = v := ⟨_, rfl⟩
  obtain ⟨u, hu⟩ : ∃ u, wor h f = u := ⟨_, rfl⟩
  obtain ⟨x, hx⟩ : ∃ x, wor h k = x := ⟨_, rfl⟩
  obtain ⟨y, hy⟩ : ∃ y, wor f k = y := ⟨_, rfl⟩
  obtain ⟨n3, hn3⟩ : ∃ n3, (f 3 != h 3) = n3 := ⟨_, rfl⟩
  obtain ⟨n6, hn6⟩ : ∃ n6, (f 6 != h 6) = n6 := ⟨_, rfl⟩
  obtain ⟨n0, hn0⟩ : ∃ n0, (f 0 != h 0) = n0 := ⟨_, rfl⟩
  obtain ⟨n1, hn1⟩ : ∃ n1, (f 1 != h 1) = n1 := ⟨_, rfl⟩
  obtain ⟨o1, ho1⟩ : ∃ o1, one f h = o1 := ⟨_, rfl⟩
  have B1 := Lib.hid (show ∀ W, Calls Try.prog 5 #[.agg #[.int .i64 (f 0), .int .i64 (f 1), .int .i64 (f 2), .int .i64 (f 3), .int .i64 (f 4), .int .i64 (f 5), .int .i64 (f 6)], .agg #[.int .i64 (h 0), .int .i64 (h 1), .int .i64 (h 2), .int .i64 (h 3), .int .i64 (h 4), .int .i64 (h 5), .int .i64 (h 6)]] W (fun e w' => e = .returned (.bool p) ∧ Below W.heap.size W w') from fun W => by have := before_any f h W; rw [hp] at this; exact this)
  have B2 := Lib.hid (show ∀ W, Calls Try.prog 5 #[.agg #[.int .i64 (h 0), .int .i64 (h 1), .int .i64 (h 2), .int .i64 (h 3), .int .i64 (h 4), .int .i64 (h 5), .int .i64 (h 6)], .agg #[.int .i64 (f 0), .int .i64 (f 1), .int .i64 (f 2), .int .i64 (f 3), .int .i64 (f 4), .int .i64 (f 5), .int .i64 (f 6)]] W (fun e w' => e = .returned (.bool q) ∧ Below W.heap.size W w') from fun W => by have := before_any h f W; rw [hq] at this; exact this)
  have B3 := Lib.hid (show ∀ W, Calls Try.prog 5 #[.agg #[.int .i64 (h 0), .int .i64 (h 1), .int .i64 (h 2), .int .i64 (h 3), .int .i64 (h 4), .int .i64 (h 5), .int .i64 (h 6)], .agg #[.int .i64 (k 0), .int .i64 (k 1), .int .i64 (k 2), .int .i64 (k 3), .int .i64 (k 4), .int .i64 (k 5), .int .i64 (k 6)]] W (fun e w' => e = .returned (.bool r) ∧ Below W.heap.size W w') from fun W => by have := before_any h k W; rw [hr] at this; exact this)
  have B4 := Lib.hid (show ∀ W, Calls Try.prog 5 #[.agg #[.int .i64 (f 0), .int .i64 (f 1), .int .i64 (f 2), .int .i64 (f 3), .int .i64 (f 4), .int .i64 (f 5), .int .i64 (f 6)], .agg #[.int .i64 (k 0), .int .i64 (k 1), .int .i64 (k 2), .int .i64 (k 3), .int .i64 (k 4), .int .i64 (k 5), .int .i64 (k 6)]] W (fun e w' => e = .returned (.bool s) ∧ Below W.heap.size W w') from fun W => by have := before_any f k W; rw [hs] at this; exact this)
  have B5 := Lib.hid (show ∀ W, Calls Try.prog 5 #[.agg #[.int .i64 (f 0), .int .i64 (f 1), .int .i64 (f 2), .int .i64 (f 3), .int .i64 (f 4), .int .i64 (f 5), .int .i64 (f 6)], .agg #[.int .i64 (f 0), .int .i64 (f 1), .int .i64 (f 2), .int .i64 (f 3), .int .i64 (f 4), .int .i64 (f 5), .int .i64 (f 6)]] W (fun e w' => e = .returned (.bool false) ∧ Below W.heap.size W w') from fun W => by have := before_any f f W; rw [bef_self] at this; exact this)
  have W1 := Lib.hid (show ∀ W, Calls Try.prog 7 #[.agg #[.int .i64 (f 0), .int .i64 (f 1), .int .i64 (f 2), .int .i64 (f 3), .int .i64 (f 4), .int .i64 (f 5), .int .i64 (f 6)], .agg #[.int .i64 (h 0), .int .i64 (h 1), .int .i64 (h 2), .int .i64 (h 3), .int .i64 (h 4), .int .i64 (h 5), .int .i64 (h 6)]] W (fun e w' => e = .returned (.bool v) ∧ Below W.heap.size W w') from fun W => by have := worse_any f h W; rw [hv] at this; exact this)
  have W2 := Lib.hid (show ∀ W, Calls Try.prog 7 #[.agg #[.int .i64 (h 0), .int .i64 (h 1), .int .i64 (h 2), .int .i64 (h 3), .int .i64 (h 4), .int .i64 (h 5), .int .i64 (h 6)], .agg #[.int .i64 (f 0), .int .i64 (f 1), .int .i64 (f 2), .int .i64 (f 3), .int .i64 (f 4), .int .i64 (f 5), .int .i64 (f 6)]] W (fun e w' => e = .returned (.bool u) ∧ Below W.heap.size W w') from fun W => by have := worse_any h f W; rw [hu] at this; exact this)
  have W3 := Lib.hid (show ∀ W, Calls Try.prog 7 #[.agg #[.int .i64 (h 0), .int .i64 (h 1), .int .i64 (h 2), .int .i64 (h 3), .int .i64 (h 4), .int .i64 (h 5), .int .i64 (h 6)], .agg #[.int .i64 (k 0), .int .i64 (k 1), .int .i64 (k 2), .int .i64 (k 3), .int .i64 (k 4), .int .i64 (k 5), .int .i64 (k 6)]] W (fun e w' => e = .returned (.bool x) ∧ Below W.heap.size W w') from fun W => by have := worse_any h k W; rw [hx] at this; exact this)
  have W4 := Lib.hid (show ∀ W, Calls Try.prog 7 #[.agg #[.int .i64 (f 0), .int .i64 (f 1), .int .i64 (f 2), .int .i64 (f 3), .int .i64 (f 4), .int .i64 (f 5), .int .i64 (f 6)], .agg #[.int .i64 (k 0), .int .i64 (k 1), .int .i64 (k 2), .int .i64 (k 3), .int .i64 (k 4), .int .i64 (k 5), .int .i64 (k 6)]] W (fun e w' => e = .returned (.bool y) ∧ Below W.heap.size W w') from fun W => by have := worse_any f k W; rw [hy] at this; exact this)
  have W5 := Lib.hid (show ∀ W, Calls Try.prog 7 #[.agg #[.int .i64 (f 0), .int .i64 (f 1), .int .i64 (f 2), .int .i64 (f 3), .int .i64 (f 4), .int .i64 (f 5), .int .i64 (f 6)], .agg #[.int .i64 (f 0), .int .i64 (f 1), .int .i64 (f 2), .int .i64 (f 3), .int .i64 (f 4), .int .i64 (f 5), .int .i64 (f 6)]] W (fun e w' => e = .returned (.bool false) ∧ Below W.heap.size W w') from fun W => by have := worse_any f f W; rw [wor_self] at this; exact this)
  have R1 := Lib.hid (show ∀ W, Calls Try.prog 6 #[.agg #[.int .i64 (f 0), .int .i64 (f 1), .int .i64 (f 2), .int .i64 (f 3), .int .i64 (f 4), .int .i64 (f 5), .int .i64 (f 6)], .agg #[.int .i64 (h 0), .int .i64 (h 1), .int .i64 (h 2), .int .i64 (h 3), .int .i64 (h 4), .int .i64 (h 5), .int .i64 (h 6)]] W (fun e w' => e = .returned (.bool p) ∧ Below W.heap.size W w') from fun W => by have := rbefore_any f h W; rw [hp] at this; exact this)
  have R2 := Lib.hid (show ∀ W, Calls Try.prog 8 #[.agg #[.int .i64 (f 0), .int .i64 (f 1), .int .i64 (f 2), .int .i64 (f 3), .int .i64 (f 4), .int .i64 (f 5), .int .i64 (f 6)], .agg #[.int .i64 (h 0), .int .i64 (h 1), .int .i64 (h 2), .int .i64 (h 3), .int .i64 (h 4), .int .i64 (h 5), .int .i64 (h 6)]] W (fun e w' => e = .returned (.bool v) ∧ Below W.heap.size W w') from fun W => by have := rworse_any f h W; rw [hv] at this; exact this)
  have F1 := Lib.hid (show o1 = (p || q) by rw [← ho1, ← hp, ← hq]; exact one_bef f h)
  have F2 := Lib.hid (show (p && q) = false by rw [← hp, ← hq]; exact asym_bef f h)
  have F3 := Lib.hid (show (o1 || n1) = (v || u) by rw [← ho1, ← hv, ← hu, ← hn1, ← one_wor]; congr 1; by_cases e : f 1 = h 1 <;> simp [e])
  have F4 := Lib.hid (show (!p || !r || s) = true by rw [← hp, ← hr, ← hs]; cases h1 : bef f h <;> cases h2 : bef h k <;> simp; exact bef_trans h1 h2)
  have F5 := Lib.hid (show (!v || !x || y) = true by rw [← hv, ← hx, ← hy]; cases h1 : wor f h <;> cases h2 : wor h k <;> simp; exact wor_trans h1 h2)
  have F6 := Lib.hid (show ((n3 || n6) || n0) = o1 by rw [← hn3, ← hn6, ← hn0, ← ho1, one]; by_cases e1 : f 3 = h 3 <;> by_cases e2 : f 6 = h 6 <;> by_cases e3 : f 0 = h 0 <;> simp [e1, e2, e3])
  clear hp hq hr hs hv hu hx hy ho1
  have N3 := Lib.hid hn3
  have N6 := Lib.hid hn6
  have N0 := Lib.hid hn0
  have N1 := Lib.hid hn1
  clear hn3 hn6 hn0 hn1
  go_enter Try.func3, Try.ntmps3
  go_upto_region 1 with (fail)
  generalize hW : World.alloc (World.alloc (World.alloc w _) _) _ = W
  have A1 := Lib.hid (show Three w f h k W by
    rw [← hW]
    have up := fun (W : World) (o : Obj) => (Below.refl W.heap.size W).alloc (Nat.le_refl _) o
    exact ⟨((up w _).trans ((up _ _).mono (by simp))).trans ((up _ _).mono (by simp; omega)), ((Bk.new w _ _).below (up _ _)).below (up _ _), (Bk.new' (by simp)).below (up _ _), Bk.new' (by simp)⟩)
  clear hW
  refine wp_region_held_drew (S := (fun W => (W.cell? ⟨w.heap.size, 0, none⟩ = some (.int .i64 (f 0)) ∧ W.cell? ⟨w.heap.size, 1, none⟩ = some (.int .i64 (f 1)) ∧ W.cell? ⟨w.heap.size, 2, none⟩ = some (.int .i64 (f 2)) ∧ W.cell? ⟨w.heap.size, 3, none⟩ = some (.int .i64 (f 3)) ∧ W.cell? ⟨w.heap.size, 4, none⟩ = some (.int .i64 (f 4)) ∧ W.cell? ⟨w.heap.size, 5, none⟩ = some (.int .i64 (f 5)) ∧ W.cell? ⟨w.heap.size, 6, none⟩ = some (.int .i64 (f 6)) ∧ W.cell? ⟨w.heap.size + 1, 0, none⟩ = some (.int .i64 (h 0)) ∧ W.cell? ⟨w.heap.size + 1, 1, none⟩ = some (.int .i64 (h 1)) ∧ W.cell? ⟨w.heap.size + 1, 2, none⟩ = some (.int .i64 (h 2)) ∧ W.cell? ⟨w.heap.size + 1, 3, none⟩ = some (.int .i64 (h 3)) ∧ W.cell? ⟨w.heap.size + 1, 4, none⟩ = some (.int .i64 (h 4)) ∧ W.cell? ⟨w.heap.size + 1, 5, none⟩ = some (.int .i64 (h 5)) ∧ W.cell? ⟨w.heap.size + 1, 6, none⟩ = some (.int .i64 (h 6)) ∧ W.cell? ⟨w.heap.size + 2, 0, none⟩ = some (.int .i64 (k 0)) ∧ W.cell? ⟨w.heap.size + 2, 1, none⟩ = some (.int .i64 (k 1)) ∧ W.cell? ⟨w.heap.size + 2, 2, none⟩ = some (.int .i64 (k 2)) ∧ W.cell? ⟨w.heap.size + 2, 3, none⟩ = some (.int .i64 (k 3)) ∧ W.cell? ⟨w.heap.size + 2, 4, none⟩ = some (.int .i64 (k 4)) ∧ W.cell? ⟨w.heap.size + 2, 5, none⟩ = some (.int .i64 (k 5)) ∧ W.cell? ⟨w.heap.size + 2, 6, none⟩ = some (.int .i64 (k 6))) ∧ Three w f h k W)) (by kernel_rfl) ?_ (fun hHeld => ?_)
  · (try dsimp only); first | exact (Three.below hHeld.2 (by assumption)).s | exact A1.out.drew.s | exact A1.out.s
  refine wpD_go (by kernel_rfl) _ _ _ _ (by assumption) ?_
  refine wpD_step (i := 0) (o := { dst := some 8, op := Op.load 23 (Operand.tmp 3), type := 23, pos := "law.go:20", after := #[], guard := none }) (v := ?_) rfl (by kernel_rfl) (by kernel_rfl) ?_ ?_
  rotate_left
  · refine gives_pure (by rfl) ?_
    intro w0 hSw; (try dsimp only at hSw); go_simp; (try with_reducible rfl)
  try simp only [Act.put, List.setIfInBounds_toArray, List.set_cons_zero, List.set_cons_succ]
  refine wpD_step (i := 1) (o := { dst := some 9, op := Op.load 23 (Operand.tmp 4), type := 23, pos := "law.go:20", after := #[], guard := none }) (v := ?_) rfl (by kernel_rfl) (by kernel_rfl) ?_ ?_
  rotate_left
  · refine gives_pure (by rfl) ?_
    intro w0 hSw; (try dsimp only at hSw); go_simp; (try with_reducible rfl)
  try simp only [Act.put, List.setIfInBounds_toArray, List.set_cons_zero, List.set_cons_succ]
  refine wpD_step (i := 3) (o := { dst := some 11, op := Op.load 23 (Operand.tmp 3), type := 23, pos := "law.go:20", after := #[], guard := none }) (v := ?_) rfl (by kernel_rfl) (by kernel_rfl) ?_ ?_
  rotate_left
  · refine gives_pure (by rfl) ?_
    intro w0 hSw; (try dsimp only at hSw); go_simp; (try with_reducible rfl)
  try simp only [Act.put, List.setIfInBounds_toArray, List.set_cons_zero, List.set_cons_succ]
  refine wpD_step (i := 4) (o := { dst := some 12, op := Op.load 23 (Operand.tmp 4), type := 23, pos := "law.go:20", after := #[], guard := none }) (v := ?_) rfl (by kernel_rfl) (by kernel_rfl) ?_ ?_
  rotate_left
  · refine gives_pure (by rfl) ?_
    intro w0 hSw; (try dsimp only at hSw); go_simp; (try with_reducible rfl)
  try simp only [Act.put, List.setIfInBounds_toArray, List.set_cons_zero, List.set_cons_succ]
  refine wpD_step (i := 2) (o := { dst := some 10, op := Op.call { callee := Callee.value (Operand.func 5), args := #[Operand.tmp 8, Operand.tmp 9], argTypes := #[23, 23] }, type := 4, pos := "law.go:20", after := #[{ on := 0, ground := Ground.data }, { on := 1, ground := Ground.data }], guard := none }) (v := (Value.bool (p))) rfl (by kernel_rfl) (by kernel_rfl) ?_ ?_
  · refine gives_call (by rfl) ?_
    intro w0 hHeld b0 K0 Q0 hK0; have hSw := hHeld; (try dsimp only at hSw); go_simp; refine (B1.out _).mono ?_; rintro e w5 ⟨rfl, b5⟩; exact hK0 _ (by (try dsimp only); first | exact (Three.below hHeld.2 (by assumption)).s | exact A1.out.drew.s | exact A1.out.s)
  try simp only [Act.put, List.setIfInBounds_toArray, List.set_cons_zero, List.set_cons_succ]
  refine wpD_step (i := 5) (o := { dst := some 13, op := Op.call { callee := Callee.value (Operand.func 6), args := #[Operand.tmp 11, Operand.tmp 12], argTypes := #[23, 23] }, type := 4, pos := "law.go:20", after := #[{ on := 3, ground := Ground.data }, { on := 4, ground := Ground.data }, { on := 2, ground := Ground.chain }], guard := none }) (v := (Value.bool (p))) rfl (by kernel_rfl) (by kernel_rfl) ?_ ?_
  · refine gives_call (by rfl) ?_
    intro w0 hHeld b0 K0 Q0 hK0; have hSw := hHeld; (try dsimp only at hSw); go_simp; refine (R1.out _).mono ?_; rintro e w5 ⟨rfl, b5⟩; exact hK0 _ (by (try dsimp only); first | exact (Three.below hHeld.2 (by assumption)).s | exact A1.out.drew.s | exact A1.out.s)
  try simp only [Act.put, List.setIfInBounds_toArray, List.set_cons_zero, List.set_cons_succ]
  refine wpD_step (i := 6) (o := { dst := some 14, op := Op.binOp BinOp.neq 4 (Operand.tmp 10) (Operand.tmp 13) 4, type := 4, pos := "law.go:20", after := #[{ on := 2, ground := Ground.data }, { on := 5, ground := Ground.data }], guard := none }) (v := (Value.bool (false))) rfl (by kernel_rfl) (by kernel_rfl) ?_ ?_
  · rcases p with _ | _ <;> (refine gives_pure (by rfl) ?_; intro w0 hSw; first | rfl | ((try dsimp only at hSw); go_simp; (try with_reducible rfl)))
  try simp only [Act.put, List.setIfInBounds_toArray, List.set_cons_zero, List.set_cons_succ]
  refine wpD_step (i := 7) (o := { dst := some 15, op := Op.move (Operand.tmp 14), type := 4, pos := "law.go:20", after := #[{ on := 6, ground := Ground.data }, { on := 5, ground := Ground.chain }], guard := none }) (v := (Value.bool (false))) rfl (by kernel_rfl) (by kernel_rfl) ?_ ?_
  · refine gives_pure (by rfl) ?_
    intro w0 hSw; (try dsimp only at hSw); go_simp; (try with_reducible rfl)
  try simp only [Act.put, List.setIfInBounds_toArray, List.set_cons_zero, List.set_cons_succ]
  refine wpD_step (i := 8) (o := { dst := some 16, op := Op.load 23 (Operand.tmp 3), type := 23, pos := "law.go:20", after := #[{ on := 7, ground := Ground.guard }], guard := some (7, false) }) (v := ?_) rfl (by kernel_rfl) (by kernel_rfl) ?_ ?_
  rotate_left
  · refine gives_pure (by rfl) ?_
    intro w0 hSw; (try dsimp only at hSw); go_simp; (try with_reducible rfl)
  try simp only [Act.put, List.setIfInBounds_toArray, List.set_cons_zero, List.set_cons_succ]
  refine wpD_step (i := 9) (o := { dst := some 17, op := Op.load 23 (Operand.tmp 4), type := 23, pos := "law.go:20", after := #[{ on := 7, ground := Ground.guard }], guard := some (7, false) }) (v := ?_) rfl (by kernel_rfl) (by kernel_rfl) ?_ ?_
  rotate_left
  · refine gives_pure (by rfl) ?_
    intro w0 hSw; (try dsimp only at hSw); go_simp; (try with_reducible rfl)
  try simp only [Act.put, List.setIfInBounds_toArray, List.set_cons_zero, List.set_cons_succ]
  refine wpD_step (i := 11) (o := { dst := some 19, op := Op.load 23 (Operand.tmp 3), type := 23, pos := "law.go:20", after := #[{ on := 7, ground := Ground.guard }], guard := some (7, false) }) (v := ?_) rfl (by kernel_rfl) (by kernel_rfl) ?_ ?_
  rotate_left
  · refine gives_pure (by rfl) ?_
    intro w0 hSw; (try dsimp only at hSw); go_simp; (try with_reducible rfl)
  try simp only [Act.put, List.setIfInBounds_toArray, List.set_cons_zero, List.set_cons_succ]
  refine wpD_step (i := 12) (o := { dst := some 20, op := Op.load 23 (Operand.tmp 4), type := 23, pos := "law.go:20", after := #[{ on := 7, ground := Ground.guard }], guard := some (7, false) }) (v := ?_) rfl (by kernel_rfl) (by kernel_rfl) ?_ ?_
  rotate_left
  · refine gives_pure (by rfl) ?_
    intro w0 hSw; (try dsimp only at hSw); go_simp; (try with_reducible rfl)
  try simp only [Act.put, List.setIfInBounds_toArray, List.set_cons_zero, List.set_cons_succ]
  refine wpD_step (i := 10) (o := { dst := some 18, op := Op.call { callee := Callee.value (Operand.func 7), args := #[Operand.tmp 16, Operand.tmp 17], argTypes := #[23, 23] }, type := 4, pos := "law.go:20", after := #[{ on := 8, ground := Ground.data }, { on := 9, ground := Ground.data }, { on := 7, ground := Ground.chain }, { on := 7, ground := Ground.guard }], guard := some (7, false) }) (v := (Value.bool (v))) rfl (by kernel_rfl) (by kernel_rfl) ?_ ?_
  · refine gives_call (by rfl) ?_
    intro w0 hHeld b0 K0 Q0 hK0; have hSw := hHeld; (try dsimp only at hSw); go_simp; refine (W1.out _).mono ?_; rintro e w5 ⟨rfl, b5⟩; exact hK0 _ (by (try dsimp only); first | exact (Three.below hHeld.2 (by assumption)).s | exact A1.out.drew.s | exact A1.out.s)
  try simp only [Act.put, List.setIfInBounds_toArray, List.set_cons_zero, List.set_cons_succ]
  refine wpD_step (i := 13) (o := { dst := some 21, op := Op.call { callee := Callee.value (Operand.func 8), args := #[Operand.tmp 19, Operand.tmp 20], argTypes := #[23, 23] }, type := 4, pos := "law.go:20", after := #[{ on := 11, ground := Ground.data }, { on := 12, ground := Ground.data }, { on := 10, ground := Ground.chain }, { on := 7, ground := Ground.guard }], guard := some (7, false) }) (v := (Value.bool (v))) rfl (by kernel_rfl) (by kernel_rfl) ?_ ?_
  · refine gives_call (by rfl) ?_
    intro w0 hHeld b0 K0 Q0 hK0; have hSw := hHeld; (try dsimp only at hSw); go_simp; refine (R2.out _).mono ?_; rintro e w5 ⟨rfl, b5⟩; exact hK0 _ (by (try dsimp only); first | exact (Three.below hHeld.2 (by assumption)).s | exact A1.out.drew.s | exact A1.out.s)
  try simp only [Act.put, List.setIfInBounds_toArray, List.set_cons_zero, List.set_cons_succ]
  refine wpD_step (i := 14) (o := { dst := some 22, op := Op.binOp BinOp.neq 4 (Operand.tmp 18) (Operand.tmp 21) 4, type := 4, pos := "law.go:20", after := #[{ on := 10, ground := Ground.data }, { on := 13, ground := Ground.data }, { on := 7, ground := Ground.guard }], guard := some (7, false) }) (v := (Value.bool (false))) rfl (by kernel_rfl) (by kernel_rfl) ?_ ?_
  · rcases v with _ | _ <;> (refine gives_pure (by rfl) ?_; intro w0 hSw; first | rfl | ((try dsimp only at hSw); go_simp; (try with_reducible rfl)))
  try simp only [Act.put, List.setIfInBounds_toArray, List.set_cons_zero, List.set_cons_succ]
  refine wpD_step (i := 15) (o := { dst := some 23, op := Op.pick (Operand.tmp 15) (Operand.const (Value.bool true)) (Operand.tmp 22), type := 4, pos := "law.go:20", after := #[{ on := 7, ground := Ground.data }, { on := 14, ground := Ground.data }], guard := none }) (v := (Value.bool (false))) rfl (by kernel_rfl) (by kernel_rfl) ?_ ?_
  · refine gives_pure (by rfl) ?_
    intro w0 hSw; first | rfl | ((try dsimp only at hSw); go_simp; (try with_reducible rfl))
  try simp only [Act.put, List.setIfInBounds_toArray, List.set_cons_zero, List.set_cons_succ]
  refine wpD_step (i := 16) (o := { dst := some 24, op := Op.move (Operand.tmp 23), type := 4, pos := "law.go:20", after := #[{ on := 15, ground := Ground.data }, { on := 13, ground := Ground.chain }], guard := none }) (v := (Value.bool (false))) rfl (by kernel_rfl) (by kernel_rfl) ?_ ?_
  · refine gives_pure (by rfl) ?_
    intro w0 hSw; (try dsimp only at hSw); go_simp; (try with_reducible rfl)
  try simp only [Act.put, List.setIfInBounds_toArray, List.set_cons_zero, List.set_cons_succ]
  refine wpD_step (i := 17) (o := { dst := some 25, op := Op.load 23 (Operand.tmp 3), type := 23, pos := "law.go:20", after := #[{ on := 16, ground := Ground.guard }], guard := some (16, false) }) (v := ?_) rfl (by kernel_rfl) (by kernel_rfl) ?_ ?_
  rotate_left
  · refine gives_pure (by rfl) ?_
    intro w0 hSw; (try dsimp only at hSw); go_simp; (try with_reducible rfl)
  try simp only [Act.put, List.setIfInBounds_toArray, List.set_cons_zero, List.set_cons_succ]
  refine wpD_step (i := 18) (o := { dst := some 26, op := Op.load 23 (Operand.tmp 3), type := 23, pos := "law.go:20", after := #[{ on := 16, ground := Ground.guard }], guard := some (16, false) }) (v := ?_) rfl (by kernel_rfl) (by kernel_rfl) ?_ ?_
  rotate_left
  · refine gives_pure (by rfl) ?_
    intro w0 hSw; (try dsimp only at hSw); go_simp; (try with_reducible rfl)
  try simp only [Act.put, List.setIfInBounds_toArray, List.set_cons_zero, List.set_cons_succ]
  refine wpD_step (i := 19) (o := { dst := some 27, op := Op.call { callee := Callee.value (Operand.func 5), args := #[Operand.tmp 25, Operand.tmp 26], argTypes := #[23, 23] }, type := 4, pos := "law.go:20", after := #[{ on := 17, ground := Ground.data }, { on := 18, ground := Ground.data }, { on := 16, ground := Ground.chain }, { on := 16, ground := Ground.guard }], guard := some (16, false) }) (v := (Value.bool (false))) rfl (by kernel_rfl) (by kernel_rfl) ?_ ?_
  · refine gives_call (by rfl) ?_
    intro w0 hHeld b0 K0 Q0 hK0; have hSw := hHeld; (try dsimp only at hSw); go_simp; refine (B5.out _).mono ?_; rintro e w5 ⟨rfl, b5⟩; exact hK0 _ (by (try dsimp only); first | exact (Three.below hHeld.2 (by assumption)).s | exact A1.out.drew.s | exact A1.out.s)
  try simp only [Act.put, List.setIfInBounds_toArray, List.set_cons_zero, List.set_cons_succ]
  refine wpD_step (i := 20) (o := { dst := some 28, op := Op.pick (Operand.tmp 24) (Operand.const (Value.bool true)) (Operand.tmp 27), type := 4, pos := "law.go:20", after := #[{ on := 16, ground := Ground.data }, { on := 19, ground := Ground.data }], guard := none }) (v := (Value.bool (false))) rfl (by kernel_rfl) (by kernel_rfl) ?_ ?_
  · refine gives_pure (by rfl) ?_
    intro w0 hSw; first | rfl | ((try dsimp only at hSw); go_simp; (try with_reducible rfl))
  try simp only [Act.put, List.setIfInBounds_toArray, List.set_cons_zero, List.set_cons_succ]
  refine wpD_step (i := 21) (o := { dst := some 29, op := Op.move (Operand.tmp 28), type := 4, pos := "law.go:20", after := #[{ on := 20, ground := Ground.data }, { on := 19, ground := Ground.chain }], guard := none }) (v := (Value.bool (false))) rfl (by kernel_rfl) (by kernel_rfl) ?_ ?_
  · refine gives_pure (by rfl) ?_
    intro w0 hSw; (try dsimp only at hSw); go_simp; (try with_reducible rfl)
  try simp only [Act.put, List.setIfInBounds_toArray, List.set_cons_zero, List.set_cons_succ]
  refine wpD_step (i := 22) (o := { dst := some 30, op := Op.load 23 (Operand.tmp 3), type := 23, pos := "law.go:20", after := #[{ on := 21, ground := Ground.guard }], guard := some (21, false) }) (v := ?_) rfl (by kernel_rfl) (by kernel_rfl) ?_ ?_
  rotate_left
  · refine gives_pure (by rfl) ?_
    intro w0 hSw; (try dsimp only at hSw); go_simp; (try with_reducible rfl)
  try simp only [Act.put, List.setIfInBounds_toArray, List.set_cons_zero, List.set_cons_succ]
  refine wpD_step (i := 23) (o := { dst := some 31, op := Op.load 23 (Operand.tmp 3), type := 23, pos := "law.go:20", after := #[{ on := 21, ground := Ground.guard }], guard := some (21, false) }) (v := ?_) rfl (by kernel_rfl) (by kernel_rfl) ?_ ?_
  rotate_left
  · refine gives_pure (by rfl) ?_
    intro w0 hSw; (try dsimp only at hSw); go_simp; (try with_reducible rfl)
  try simp only [Act.put, List.setIfInBounds_toArray, List.set_cons_zero, List.set_cons_succ]
  refine wpD_step (i := 24) (o := { dst := some 32, op := Op.call { callee := Callee.value (Operand.func 7), args := #[Operand.tmp 30, Operand.tmp 31], argTypes := #[23, 23] }, type := 4, pos := "law.go:20", after := #[{ on := 22, ground := Ground.data }, { on := 23, ground := Ground.data }, { on := 21, ground := Ground.chain }, { on := 21, ground := Ground.guard }], guard := some (21, false) }) (v := (Value.bool (false))) rfl (by kernel_rfl) (by kernel_rfl) ?_ ?_
  · refine gives_call (by rfl) ?_
    intro w0 hHeld b0 K0 Q0 hK0; have hSw := hHeld; (try dsimp only at hSw); go_simp; refine (W5.out _).mono ?_; rintro e w5 ⟨rfl, b5⟩; exact hK0 _ (by (try dsimp only); first | exact (Three.below hHeld.2 (by assumption)).s | exact A1.out.drew.s | exact A1.out.s)
  try simp only [Act.put, List.setIfInBounds_toArray, List.set_cons_zero, List.set_cons_succ]
  refine wpD_step (i := 25) (o := { dst := some 33, op := Op.pick (Operand.tmp 29) (Operand.const (Value.bool true)) (Operand.tmp 32), type := 4, pos := "law.go:20", after := #[{ on := 21, ground := Ground.data }, { on := 24, ground := Ground.data }], guard := none }) (v := (Value.bool (false))) rfl (by kernel_rfl) (by kernel_rfl) ?_ ?_
  · refine gives_pure (by rfl) ?_
    intro w0 hSw; first | rfl | ((try dsimp only at hSw); go_simp; (try with_reducible rfl))
  try simp only [Act.put, List.setIfInBounds_toArray, List.set_cons_zero, List.set_cons_succ]
  refine wpD_done (by kernel_rfl) (fun wz hHeld => ?_) _
  have A2 := Lib.hid hHeld.2
  clear hHeld A1
  go_upto_region 3 with (fail)
  have hn3 := N3.out
  have hn6 := N6.out
  have hn0 := N0.out
  refine wpG_go (S := (fun W => (W.cell? ⟨w.heap.size, 0, none⟩ = some (.int .i64 (f 0)) ∧ W.cell? ⟨w.heap.size, 1, none⟩ = some (.int .i64 (f 1)) ∧ W.cell? ⟨w.heap.size, 2, none⟩ = some (.int .i64 (f 2)) ∧ W.cell? ⟨w.heap.size, 3, none⟩ = some (.int .i64 (f 3)) ∧ W.cell? ⟨w.heap.size, 4, none⟩ = some (.int .i64 (f 4)) ∧ W.cell? ⟨w.heap.size, 5, none⟩ = some (.int .i64 (f 5)) ∧ W.cell? ⟨w.heap.size, 6, none⟩ = some (.int .i64 (f 6)) ∧ W.cell? ⟨w.heap.size + 1, 0, none⟩ = some (.int .i64 (h 0)) ∧ W.cell? ⟨w.heap.size + 1, 1, none⟩ = some (.int .i64 (h 1)) ∧ W.cell? ⟨w.heap.size + 1, 2, none⟩ = some (.int .i64 (h 2)) ∧ W.cell? ⟨w.heap.size + 1, 3, none⟩ = some (.int .i64 (h 3)) ∧ W.cell? ⟨w.heap.size + 1, 4, none⟩ = some (.int .i64 (h 4)) ∧ W.cell? ⟨w.heap.size + 1, 5, none⟩ = some (.int .i64 (h 5)) ∧ W.cell? ⟨w.heap.size + 1, 6, none⟩ = some (.int .i64 (h 6)) ∧ W.cell? ⟨w.heap.size + 2, 0, none⟩ = some (.int .i64 (k 0)) ∧ W.cell? ⟨w.heap.size + 2, 1, none⟩ = some (.int .i64 (k 1)) ∧ W.cell? ⟨w.heap.size + 2, 2, none⟩ = some (.int .i64 (k 2)) ∧ W.cell? ⟨w.heap.size + 2, 3, none⟩ = some (.int .i64 (k 3)) ∧ W.cell? ⟨w.heap.size + 2, 4, none⟩ = some (.int .i64 (k 4)) ∧ W.cell? ⟨w.heap.size + 2, 5, none⟩ = some (.int .i64 (k 5)) ∧ W.cell? ⟨w.heap.size + 2, 6, none⟩ = some (.int .i64 (k 6))) ∧ Three w f h k W)) ?_ ?_
  · (try dsimp only); first | exact (Three.below hHeld.2 (by assumption)).s | exact A2.out.drew.s | exact A2.out.s
  refine wpG_step (o := { dst := some 34, op := Op.fieldAddr 23 (Operand.tmp 3) 3, type := 0, pos := "law.go:23", after := #[], guard := none }) (v := ?_) ?_ ?_
  rotate_left
  · refine gives_pure (by rfl) ?_
    intro w0 hSw; (try dsimp only at hSw); go_simp; (try with_reducible rfl)
  try simp only [Act.put, List.setIfInBounds_toArray, List.set_cons_zero, List.set_cons_succ]
  refine wpG_step (o := { dst := some 35, op := Op.load 3 (Operand.tmp 34), type := 3, pos := "law.go:23", after := #[{ on := 0, ground := Ground.data }], guard := none }) (v := ?_) ?_ ?_
  rotate_left
  · refine gives_pure (by rfl) ?_
    intro w0 hSw; (try dsimp only at hSw); go_simp; (try with_reducible rfl)
  try simp only [Act.put, List.setIfInBounds_toArray, List.set_cons_zero, List.set_cons_succ]
  refine wpG_step (o := { dst := some 36, op := Op.fieldAddr 23 (Operand.tmp 4) 3, type := 0, pos := "law.go:23", after := #[], guard := none }) (v := ?_) ?_ ?_
  rotate_left
  · refine gives_pure (by rfl) ?_
    intro w0 hSw; (try dsimp only at hSw); go_simp; (try with_reducible rfl)
  try simp only [Act.put, List.setIfInBounds_toArray, List.set_cons_zero, List.set_cons_succ]
  refine wpG_step (o := { dst := some 37, op := Op.load 3 (Operand.tmp 36), type := 3, pos := "law.go:23", after := #[{ on := 2, ground := Ground.data }], guard := none }) (v := ?_) ?_ ?_
  rotate_left
  · refine gives_pure (by rfl) ?_
    intro w0 hSw; (try dsimp only at hSw); go_simp; (try with_reducible rfl)
  try simp only [Act.put, List.setIfInBounds_toArray, List.set_cons_zero, List.set_cons_succ]
  refine wpG_step (o := { dst := some 38, op := Op.binOp BinOp.neq 3 (Operand.tmp 35) (Operand.tmp 37) 3, type := 4, pos := "law.go:23", after := #[{ on := 1, ground := Ground.data }, { on := 3, ground := Ground.data }], guard := none }) (v := (Value.bool (n3))) ?_ ?_
  · refine gives_pure (by rfl) ?_
    intro w0 hSw; first | rfl | ((try dsimp only at hSw); go_simp; (try with_reducible rfl))
  try simp only [Act.put, List.setIfInBounds_toArray, List.set_cons_zero, List.set_cons_succ]
  refine wpG_step (o := { dst := some 39, op := Op.move (Operand.tmp 38), type := 4, pos := "law.go:23", after := #[{ on := 4, ground := Ground.data }], guard := none }) (v := (Value.bool (n3))) ?_ ?_
  · refine gives_pure (by rfl) ?_
    intro w0 hSw; (try dsimp only at hSw); go_simp; (try with_reducible rfl)
  try simp only [Act.put, List.setIfInBounds_toArray, List.set_cons_zero, List.set_cons_succ]
  refine wpG_step (o := { dst := some 40, op := Op.fieldAddr 23 (Operand.tmp 3) 6, type := 0, pos := "law.go:23", after := #[{ on := 5, ground := Ground.guard }], guard := some (5, false) }) (v := (bif (!n3) then ?_ else undef)) ?_ ?_
  rotate_left
  · refine gives_if (fun hb => ?_) (fun hb => ?_)
    · rcases n3 with _ | _ <;> (first | exact absurd hb (by decide) | (clear hb; refine gives_pure (by rfl) ?_; intro w0 hSw; (try dsimp only at hSw); go_simp; (try with_reducible rfl)))
    · revert hb; rcases n3 with _ | _ <;> intro hb <;> (first | rfl | exact absurd hb (by decide))
  try simp only [Act.put, List.setIfInBounds_toArray, List.set_cons_zero, List.set_cons_succ]
  refine wpG_step (o := { dst := some 41, op := Op.load 3 (Operand.tmp 40), type := 3, pos := "law.go:23", after := #[{ on := 6, ground := Ground.data }, { on := 5, ground := Ground.guard }], guard := some (5, false) }) (v := (bif (!n3) then ?_ else undef)) ?_ ?_
  rotate_left
  · refine gives_if (fun hb => ?_) (fun hb => ?_)
    · rcases n3 with _ | _ <;> (first | exact absurd hb (by decide) | (clear hb; refine gives_pure (by rfl) ?_; intro w0 hSw; (try dsimp only at hSw); go_simp; (try with_reducible rfl)))
    · revert hb; rcases n3 with _ | _ <;> intro hb <;> (first | rfl | exact absurd hb (by decide))
  try simp only [Act.put, List.setIfInBounds_toArray, List.set_cons_zero, List.set_cons_succ]
  refine wpG_step (o := { dst := some 42, op := Op.fieldAddr 23 (Operand.tmp 4) 6, type := 0, pos := "law.go:23", after := #[{ on := 5, ground := Ground.guard }], guard := some (5, false) }) (v := (bif (!n3) then ?_ else undef)) ?_ ?_
  rotate_left
  · refine gives_if (fun hb => ?_) (fun hb => ?_)
    · rcases n3 with _ | _ <;> (first | exact absurd hb (by decide) | (clear hb; refine gives_pure (by rfl) ?_; intro w0 hSw; (try dsimp only at hSw); go_simp; (try with_reducible rfl)))
    · revert hb; rcases n3 with _ | _ <;> intro hb <;> (first | rfl | exact absurd hb (by decide))
  try simp only [Act.put, List.setIfInBounds_toArray, List.set_cons_zero, List.set_cons_succ]
  refine wpG_step (o := { dst := some 43, op := Op.load 3 (Operand.tmp 42), type := 3, pos := "law.go:23", after := #[{ on := 8, ground := Ground.data }, { on := 5, ground := Ground.guard }], guard := some (5, false) }) (v := (bif (!n3) then ?_ else undef)) ?_ ?_
  rotate_left
  · refine gives_if (fun hb => ?_) (fun hb => ?_)
    · rcases n3 with _ | _ <;> (first | exact absurd hb (by decide) | (clear hb; refine gives_pure (by rfl) ?_; intro w0 hSw; (try dsimp only at hSw); go_simp; (try with_reducible rfl)))
    · revert hb; rcases n3 with _ | _ <;> intro hb <;> (first | rfl | exact absurd hb (by decide))
  try simp only [Act.put, List.setIfInBounds_toArray, List.set_cons_zero, List.set_cons_succ]
  refine wpG_step (o := { dst := some 44, op := Op.binOp BinOp.neq 3 (Operand.tmp 41) (Operand.tmp 43) 3, type := 4, pos := "law.go:23", after := #[{ on := 7, ground := Ground.data }, { on := 9, ground := Ground.data }, { on := 5, ground := Ground.guard }], guard := some (5, false) }) (v := (bif (!n3) then Value.bool (n6) else undef)) ?_ ?_
  · refine gives_if (fun hb => ?_) (fun hb => ?_)
    · rcases n3 with _ | _ <;> (first | exact absurd hb (by decide) | (clear hb; refine gives_pure (by rfl) ?_; intro w0 hSw; first | rfl | ((try dsimp only at hSw); go_simp; (try with_reducible rfl))))
    · revert hb; rcases n3 with _ | _ <;> intro hb <;> (first | rfl | exact absurd hb (by decide))
  try simp only [Act.put, List.setIfInBounds_toArray, List.set_cons_zero, List.set_cons_succ]
  refine wpG_step (o := { dst := some 45, op := Op.pick (Operand.tmp 39) (Operand.const (Value.bool true)) (Operand.tmp 44), type := 4, pos := "law.go:23", after := #[{ on := 5, ground := Ground.data }, { on := 10, ground := Ground.data }], guard := none }) (v := (Value.bool ((n3 || n6)))) ?_ ?_
  · rcases n3 with _ | _ <;> rcases n6 with _ | _ <;> (refine gives_pure (by rfl) ?_; intro w0 hSw; first | rfl | ((try dsimp only at hSw); go_simp; (try with_reducible rfl)))
  try simp only [Act.put, List.setIfInBounds_toArray, List.set_cons_zero, List.set_cons_succ]
  refine wpG_step (o := { dst := some 46, op := Op.move (Operand.tmp 45), type := 4, pos := "law.go:23", after := #[{ on := 11, ground := Ground.data }, { on := 5, ground := Ground.chain }], guard := none }) (v := (Value.bool ((n3 || n6)))) ?_ ?_
  · refine gives_pure (by rfl) ?_
    intro w0 hSw; (try dsimp only at hSw); go_simp; (try with_reducible rfl)
  try simp only [Act.put, List.setIfInBounds_toArray, List.set_cons_zero, List.set_cons_succ]
  refine wpG_step (o := { dst := some 47, op := Op.fieldAddr 23 (Operand.tmp 3) 0, type := 0, pos := "law.go:23", after := #[{ on := 12, ground := Ground.guard }], guard := some (12, false) }) (v := (bif (!(n3 || n6)) then ?_ else undef)) ?_ ?_
  rotate_left
  · refine gives_if (fun hb => ?_) (fun hb => ?_)
    · rcases n3 with _ | _ <;> rcases n6 with _ | _ <;> (first | exact absurd hb (by decide) | (clear hb; refine gives_pure (by rfl) ?_; intro w0 hSw; (try dsimp only at hSw); go_simp; (try with_reducible rfl)))
    · revert hb; rcases n3 with _ | _ <;> rcases n6 with _ | _ <;> intro hb <;> (first | rfl | exact absurd hb (by decide))
  try simp only [Act.put, List.setIfInBounds_toArray, List.set_cons_zero, List.set_cons_succ]
  refine wpG_step (o := { dst := some 48, op := Op.load 3 (Operand.tmp 47), type := 3, pos := "law.go:23", after := #[{ on := 13, ground := Ground.data }, { on := 12, ground := Ground.guard }], guard := some (12, false) }) (v := (bif (!(n3 || n6)) then ?_ else undef)) ?_ ?_
  rotate_left
  · refine gives_if (fun hb => ?_) (fun hb => ?_)
    · rcases n3 with _ | _ <;> rcases n6 with _ | _ <;> (first | exact absurd hb (by decide) | (clear hb; refine gives_pure (by rfl) ?_; intro w0 hSw; (try dsimp only at hSw); go_simp; (try with_reducible rfl)))
    · revert hb; rcases n3 with _ | _ <;> rcases n6 with _ | _ <;> intro hb <;> (first | rfl | exact absurd hb (by decide))
  try simp only [Act.put, List.setIfInBounds_toArray, List.set_cons_zero, List.set_cons_succ]
  refine wpG_step (o := { dst := some 49, op := Op.fieldAddr 23 (Operand.tmp 4) 0, type := 0, pos := "law.go:23", after := #[{ on := 12, ground := Ground.guard }], guard := some (12, false) }) (v := (bif (!(n3 || n6)) then ?_ else undef)) ?_ ?_
  rotate_left
  · refine gives_if (fun hb => ?_) (fun hb => ?_)
    · rcases n3 with _ | _ <;> rcases n6 with _ | _ <;> (first | exact absurd hb (by decide) | (clear hb; refine gives_pure (by rfl) ?_; intro w0 hSw; (try dsimp only at hSw); go_simp; (try with_reducible rfl)))
    · revert hb; rcases n3 with _ | _ <;> rcases n6 with _ | _ <;> intro hb <;> (first | rfl | exact absurd hb (by decide))
  try simp only [Act.put, List.setIfInBounds_toArray, List.set_cons_zero, List.set_cons_succ]
  refine wpG_step (o := { dst := some 50, op := Op.load 3 (Operand.tmp 49), type := 3, pos := "law.go:23", after := #[{ on := 15, ground := Ground.data }, { on := 12, ground := Ground.guard }], guard := some (12, false) }) (v := (bif (!(n3 || n6)) then ?_ else undef)) ?_ ?_
  rotate_left
  · refine gives_if (fun hb => ?_) (fun hb => ?_)
    · rcases n3 with _ | _ <;> rcases n6 with _ | _ <;> (first | exact absurd hb (by decide) | (clear hb; refine gives_pure (by rfl) ?_; intro w0 hSw; (try dsimp only at hSw); go_simp; (try with_reducible rfl)))
    · revert hb; rcases n3 with _ | _ <;> rcases n6 with _ | _ <;> intro hb <;> (first | rfl | exact absurd hb (by decide))
  try simp only [Act.put, List.setIfInBounds_toArray, List.set_cons_zero, List.set_cons_succ]
  refine wpG_step (o := { dst := some 51, op := Op.binOp BinOp.neq 3 (Operand.tmp 48) (Operand.tmp 50) 3, type := 4, pos := "law.go:23", after := #[{ on := 14, ground := Ground.data }, { on := 16, ground := Ground.data }, { on := 12, ground := Ground.guard }], guard := some (12, false) }) (v := (bif (!(n3 || n6)) then Value.bool (n0) else undef)) ?_ ?_
  · refine gives_if (fun hb => ?_) (fun hb => ?_)
    · rcases n3 with _ | _ <;> rcases n6 with _ | _ <;> (first | exact absurd hb (by decide) | (clear hb; refine gives_pure (by rfl) ?_; intro w0 hSw; first | rfl | ((try dsimp only at hSw); go_simp; (try with_reducible rfl))))
    · revert hb; rcases n3 with _ | _ <;> rcases n6 with _ | _ <;> intro hb <;> (first | rfl | exact absurd hb (by decide))
  try simp only [Act.put, List.setIfInBounds_toArray, List.set_cons_zero, List.set_cons_succ]
  refine wpG_step (o := { dst := some 52, op := Op.pick (Operand.tmp 46) (Operand.const (Value.bool true)) (Operand.tmp 51), type := 4, pos := "law.go:23", after := #[{ on := 12, ground := Ground.data }, { on := 17, ground := Ground.data }], guard := none }) (v := (Value.bool (((n3 || n6) || n0)))) ?_ ?_
  · rcases n3 with _ | _ <;> rcases n6 with _ | _ <;> rcases n0 with _ | _ <;> (refine gives_pure (by rfl) ?_; intro w0 hSw; first | rfl | ((try dsimp only at hSw); go_simp; (try with_reducible rfl)))
  try simp only [Act.put, List.setIfInBounds_toArray, List.set_cons_zero, List.set_cons_succ]
  refine wpG_step (o := { dst := some 7, op := Op.assign (Operand.tmp 52), type := 4, pos := "law.go:23", after := #[{ on := 18, ground := Ground.data }, { on := 12, ground := Ground.chain }, { on := 0, ground := Ground.phase }, { on := 1, ground := Ground.phase }, { on := 2, ground := Ground.phase }, { on := 3, ground := Ground.phase }, { on := 4, ground := Ground.phase }, { on := 5, ground := Ground.phase }, { on := 6, ground := Ground.phase }, { on := 7, ground := Ground.phase }, { on := 8, ground := Ground.phase }, { on := 9, ground := Ground.phase }, { on := 10, ground := Ground.phase }, { on := 11, ground := Ground.phase }, { on := 12, ground := Ground.phase }, { on := 13, ground := Ground.phase }, { on := 14, ground := Ground.phase }, { on := 15, ground := Ground.phase }, { on := 16, ground := Ground.phase }, { on := 17, ground := Ground.phase }, { on := 18, ground := Ground.phase }], guard := none }) (v := (Value.bool (((n3 || n6) || n0)))) ?_ ?_
  · refine gives_pure (by rfl) ?_
    intro w0 hSw; (try dsimp only at hSw); go_simp; (try with_reducible rfl)
  try simp only [Act.put, List.setIfInBounds_toArray, List.set_cons_zero, List.set_cons_succ]
  refine wpG_done (fun wz hHeld => ?_)
  rw [show (((n3 || n6) || n0)) = o1 from by exact F6.out]
  clear hn3 hn6 hn0
  have A3 := Lib.hid hHeld.2
  clear hHeld A2
  go_upto_region 4 with (fail)
  have hn1 := N1.out
  refine wp_region_held_drew (S := (fun W => (W.cell? ⟨w.heap.size, 0, none⟩ = some (.int .i64 (f 0)) ∧ W.cell? ⟨w.heap.size, 1, none⟩ = some (.int .i64 (f 1)) ∧ W.cell? ⟨w.heap.size, 2, none⟩ = some (.int .i64 (f 2)) ∧ W.cell? ⟨w.heap.size, 3, none⟩ = some (.int .i64 (f 3)) ∧ W.cell? ⟨w.heap.size, 4, none⟩ = some (.int .i64 (f 4)) ∧ W.cell? ⟨w.heap.size, 5, none⟩ = some (.int .i64 (f 5)) ∧ W.cell? ⟨w.heap.size, 6, none⟩ = some (.int .i64 (f 6)) ∧ W.cell? ⟨w.heap.size + 1, 0, none⟩ = some (.int .i64 (h 0)) ∧ W.cell? ⟨w.heap.size + 1, 1, none⟩ = some (.int .i64 (h 1)) ∧ W.cell? ⟨w.heap.size + 1, 2, none⟩ = some (.int .i64 (h 2)) ∧ W.cell? ⟨w.heap.size + 1, 3, none⟩ = some (.int .i64 (h 3)) ∧ W.cell? ⟨w.heap.size + 1, 4, none⟩ = some (.int .i64 (h 4)) ∧ W.cell? ⟨w.heap.size + 1, 5, none⟩ = some (.int .i64 (h 5)) ∧ W.cell? ⟨w.heap.size + 1, 6, none⟩ = some (.int .i64 (h 6)) ∧ W.cell? ⟨w.heap.size + 2, 0, none⟩ = some (.int .i64 (k 0)) ∧ W.cell? ⟨w.heap.size + 2, 1, none⟩ = some (.int .i64 (k 1)) ∧ W.cell? ⟨w.heap.size + 2, 2, none⟩ = some (.int .i64 (k 2)) ∧ W.cell? ⟨w.heap.size + 2, 3, none⟩ = some (.int .i64 (k 3)) ∧ W.cell? ⟨w.heap.size + 2, 4, none⟩ = some (.int .i64 (k 4)) ∧ W.cell? ⟨w.heap.size + 2, 5, none⟩ = some (.int .i64 (k 5)) ∧ W.cell? ⟨w.heap.size + 2, 6, none⟩ = some (.int .i64 (k 6))) ∧ Three w f h k W)) (by kernel_rfl) ?_ (fun hHeld => ?_)
  · (try dsimp only); first | exact (Three.below hHeld.2 (by assumption)).s | exact A3.out.drew.s | exact A3.out.s
  refine wpD_go (by kernel_rfl) _ _ _ _ (by assumption) ?_
  refine wpD_step (i := 0) (o := { dst := some 53, op := Op.move (Operand.tmp 7), type := 4, pos := "law.go:24", after := #[], guard := none }) (v := (Value.bool (o1))) rfl (by kernel_rfl) (by kernel_rfl) ?_ ?_
  · refine gives_pure (by rfl) ?_
    intro w0 hSw; (try dsimp only at hSw); go_simp; (try with_reducible rfl)
  try simp only [Act.put, List.setIfInBounds_toArray, List.set_cons_zero, List.set_cons_succ]
  refine wpD_step (i := 1) (o := { dst := some 54, op := Op.load 23 (Operand.tmp 3), type := 23, pos := "law.go:24", after := #[], guard := none }) (v := ?_) rfl (by kernel_rfl) (by kernel_rfl) ?_ ?_
  rotate_left
  · refine gives_pure (by rfl) ?_
    intro w0 hSw; (try dsimp only at hSw); go_simp; (try with_reducible rfl)
  try simp only [Act.put, List.setIfInBounds_toArray, List.set_cons_zero, List.set_cons_succ]
  refine wpD_step (i := 2) (o := { dst := some 55, op := Op.load 23 (Operand.tmp 4), type := 23, pos := "law.go:24", after := #[], guard := none }) (v := ?_) rfl (by kernel_rfl) (by kernel_rfl) ?_ ?_
  rotate_left
  · refine gives_pure (by rfl) ?_
    intro w0 hSw; (try dsimp only at hSw); go_simp; (try with_reducible rfl)
  try simp only [Act.put, List.setIfInBounds_toArray, List.set_cons_zero, List.set_cons_succ]
  refine wpD_step (i := 3) (o := { dst := some 56, op := Op.call { callee := Callee.value (Operand.func 5), args := #[Operand.tmp 54, Operand.tmp 55], argTypes := #[23, 23] }, type := 4, pos := "law.go:24", after := #[{ on := 1, ground := Ground.data }, { on := 2, ground := Ground.data }], guard := none }) (v := (Value.bool (p))) rfl (by kernel_rfl) (by kernel_rfl) ?_ ?_
  · refine gives_call (by rfl) ?_
    intro w0 hHeld b0 K0 Q0 hK0; have hSw := hHeld; (try dsimp only at hSw); go_simp; refine (B1.out _).mono ?_; rintro e w5 ⟨rfl, b5⟩; exact hK0 _ (by (try dsimp only); first | exact (Three.below hHeld.2 (by assumption)).s | exact A3.out.drew.s | exact A3.out.s)
  try simp only [Act.put, List.setIfInBounds_toArray, List.set_cons_zero, List.set_cons_succ]
  refine wpD_step (i := 4) (o := { dst := some 57, op := Op.move (Operand.tmp 56), type := 4, pos := "law.go:24", after := #[{ on := 3, ground := Ground.data }, { on := 3, ground := Ground.chain }], guard := none }) (v := (Value.bool (p))) rfl (by kernel_rfl) (by kernel_rfl) ?_ ?_
  · refine gives_pure (by rfl) ?_
    intro w0 hSw; (try dsimp only at hSw); go_simp; (try with_reducible rfl)
  try simp only [Act.put, List.setIfInBounds_toArray, List.set_cons_zero, List.set_cons_succ]
  refine wpD_step (i := 5) (o := { dst := some 58, op := Op.load 23 (Operand.tmp 4), type := 23, pos := "law.go:24", after := #[{ on := 4, ground := Ground.guard }], guard := some (4, false) }) (v := (bif (!p) then ?_ else undef)) rfl (by kernel_rfl) (by kernel_rfl) ?_ ?_
  rotate_left
  · refine gives_if (fun hb => ?_) (fun hb => ?_)
    · rcases p with _ | _ <;> (first | exact absurd hb (by decide) | (clear hb; refine gives_pure (by rfl) ?_; intro w0 hSw; (try dsimp only at hSw); go_simp; (try with_reducible rfl)))
    · revert hb; rcases p with _ | _ <;> intro hb <;> (first | rfl | exact absurd hb (by decide))
  try simp only [Act.put, List.setIfInBounds_toArray, List.set_cons_zero, List.set_cons_succ]
  refine wpD_step (i := 6) (o := { dst := some 59, op := Op.load 23 (Operand.tmp 3), type := 23, pos := "law.go:24", after := #[{ on := 4, ground := Ground.guard }], guard := some (4, false) }) (v := (bif (!p) then ?_ else undef)) rfl (by kernel_rfl) (by kernel_rfl) ?_ ?_
  rotate_left
  · refine gives_if (fun hb => ?_) (fun hb => ?_)
    · rcases p with _ | _ <;> (first | exact absurd hb (by decide) | (clear hb; refine gives_pure (by rfl) ?_; intro w0 hSw; (try dsimp only at hSw); go_simp; (try with_reducible rfl)))
    · revert hb; rcases p with _ | _ <;> intro hb <;> (first | rfl | exact absurd hb (by decide))
  try simp only [Act.put, List.setIfInBounds_toArray, List.set_cons_zero, List.set_cons_succ]
  refine wpD_step (i := 7) (o := { dst := some 60, op := Op.call { callee := Callee.value (Operand.func 5), args := #[Operand.tmp 58, Operand.tmp 59], argTypes := #[23, 23] }, type := 4, pos := "law.go:24", after := #[{ on := 5, ground := Ground.data }, { on := 6, ground := Ground.data }, { on := 4, ground := Ground.chain }, { on := 4, ground := Ground.guard }], guard := some (4, false) }) (v := (bif (!p) then Value.bool (q) else undef)) rfl (by kernel_rfl) (by kernel_rfl) ?_ ?_
  · refine gives_if (fun hb => ?_) (fun hb => ?_)
    · rcases p with _ | _ <;> (first | exact absurd hb (by decide) | (clear hb; refine gives_call (by rfl) ?_; intro w0 hHeld b0 K0 Q0 hK0; have hSw := hHeld; (try dsimp only at hSw); go_simp; refine (B2.out _).mono ?_; rintro e w5 ⟨rfl, b5⟩; exact hK0 _ (by (try dsimp only); first | exact (Three.below hHeld.2 (by assumption)).s | exact A3.out.drew.s | exact A3.out.s)))
    · revert hb; rcases p with _ | _ <;> intro hb <;> (first | rfl | exact absurd hb (by decide))
  try simp only [Act.put, List.setIfInBounds_toArray, List.set_cons_zero, List.set_cons_succ]
  refine wpD_step (i := 8) (o := { dst := some 61, op := Op.pick (Operand.tmp 57) (Operand.const (Value.bool true)) (Operand.tmp 60), type := 4, pos := "law.go:24", after := #[{ on := 4, ground := Ground.data }, { on := 7, ground := Ground.data }], guard := none }) (v := (Value.bool ((p || q)))) rfl (by kernel_rfl) (by kernel_rfl) ?_ ?_
  · rcases p with _ | _ <;> rcases q with _ | _ <;> (refine gives_pure (by rfl) ?_; intro w0 hSw; first | rfl | ((try dsimp only at hSw); go_simp; (try with_reducible rfl)))
  try simp only [Act.put, List.setIfInBounds_toArray, List.set_cons_zero, List.set_cons_succ]
  refine wpD_step (i := 9) (o := { dst := some 62, op := Op.binOp BinOp.neq 4 (Operand.tmp 53) (Operand.tmp 61) 4, type := 4, pos := "law.go:24", after := #[{ on := 0, ground := Ground.data }, { on := 8, ground := Ground.data }], guard := none }) (v := (Value.bool ((o1 != (p || q))))) rfl (by kernel_rfl) (by kernel_rfl) ?_ ?_
  · rcases o1 with _ | _ <;> rcases p with _ | _ <;> rcases q with _ | _ <;> (refine gives_pure (by rfl) ?_; intro w0 hSw; first | rfl | ((try dsimp only at hSw); go_simp; (try with_reducible rfl)))
  try simp only [Act.put, List.setIfInBounds_toArray, List.set_cons_zero, List.set_cons_succ]
  refine wpD_step (i := 10) (o := { dst := some 63, op := Op.move (Operand.tmp 62), type := 4, pos := "law.go:24", after := #[{ on := 9, ground := Ground.data }, { on := 7, ground := Ground.chain }], guard := none }) (v := (Value.bool ((o1 != (p || q))))) rfl (by kernel_rfl) (by kernel_rfl) ?_ ?_
  · refine gives_pure (by rfl) ?_
    intro w0 hSw; (try dsimp only at hSw); go_simp; (try with_reducible rfl)
  try simp only [Act.put, List.setIfInBounds_toArray, List.set_cons_zero, List.set_cons_succ]
  refine wpD_step (i := 11) (o := { dst := some 64, op := Op.load 23 (Operand.tmp 3), type := 23, pos := "law.go:24", after := #[{ on := 10, ground := Ground.guard }], guard := some (10, false) }) (v := (bif (!(o1 != (p || q))) then ?_ else undef)) rfl (by kernel_rfl) (by kernel_rfl) ?_ ?_
  rotate_left
  · refine gives_if (fun hb => ?_) (fun hb => ?_)
    · rcases o1 with _ | _ <;> rcases p with _ | _ <;> rcases q with _ | _ <;> (first | exact absurd hb (by decide) | (clear hb; refine gives_pure (by rfl) ?_; intro w0 hSw; (try dsimp only at hSw); go_simp; (try with_reducible rfl)))
    · revert hb; rcases o1 with _ | _ <;> rcases p with _ | _ <;> rcases q with _ | _ <;> intro hb <;> (first | rfl | exact absurd hb (by decide))
  try simp only [Act.put, List.setIfInBounds_toArray, List.set_cons_zero, List.set_cons_succ]
  refine wpD_step (i := 12) (o := { dst := some 65, op := Op.load 23 (Operand.tmp 4), type := 23, pos := "law.go:24", after := #[{ on := 10, ground := Ground.guard }], guard := some (10, false) }) (v := (bif (!(o1 != (p || q))) then ?_ else undef)) rfl (by kernel_rfl) (by kernel_rfl) ?_ ?_
  rotate_left
  · refine gives_if (fun hb => ?_) (fun hb => ?_)
    · rcases o1 with _ | _ <;> rcases p with _ | _ <;> rcases q with _ | _ <;> (first | exact absurd hb (by decide) | (clear hb; refine gives_pure (by rfl) ?_; intro w0 hSw; (try dsimp only at hSw); go_simp; (try with_reducible rfl)))
    · revert hb; rcases o1 with _ | _ <;> rcases p with _ | _ <;> rcases q with _ | _ <;> intro hb <;> (first | rfl | exact absurd hb (by decide))
  try simp only [Act.put, List.setIfInBounds_toArray, List.set_cons_zero, List.set_cons_succ]
  refine wpD_step (i := 13) (o := { dst := some 66, op := Op.call { callee := Callee.value (Operand.func 5), args := #[Operand.tmp 64, Operand.tmp 65], argTypes := #[23, 23] }, type := 4, pos := "law.go:24", after := #[{ on := 11, ground := Ground.data }, { on := 12, ground := Ground.data }, { on := 10, ground := Ground.chain }, { on := 10, ground := Ground.guard }], guard := some (10, false) }) (v := (bif (!(o1 != (p || q))) then Value.bool (p) else undef)) rfl (by kernel_rfl) (by kernel_rfl) ?_ ?_
  · refine gives_if (fun hb => ?_) (fun hb => ?_)
    · rcases o1 with _ | _ <;> rcases p with _ | _ <;> rcases q with _ | _ <;> (first | exact absurd hb (by decide) | (clear hb; refine gives_call (by rfl) ?_; intro w0 hHeld b0 K0 Q0 hK0; have hSw := hHeld; (try dsimp only at hSw); go_simp; refine (B1.out _).mono ?_; rintro e w5 ⟨rfl, b5⟩; exact hK0 _ (by (try dsimp only); first | exact (Three.below hHeld.2 (by assumption)).s | exact A3.out.drew.s | exact A3.out.s)))
    · revert hb; rcases o1 with _ | _ <;> rcases p with _ | _ <;> rcases q with _ | _ <;> intro hb <;> (first | rfl | exact absurd hb (by decide))
  try simp only [Act.put, List.setIfInBounds_toArray, List.set_cons_zero, List.set_cons_succ]
  refine wpD_step (i := 14) (o := { dst := some 67, op := Op.move (Operand.tmp 66), type := 4, pos := "law.go:24", after := #[{ on := 13, ground := Ground.data }, { on := 13, ground := Ground.chain }, { on := 10, ground := Ground.guard }], guard := some (10, false) }) (v := (bif (!(o1 != (p || q))) then Value.bool (p) else undef)) rfl (by kernel_rfl) (by kernel_rfl) ?_ ?_
  · refine gives_if (fun hb => ?_) (fun hb => ?_)
    · rcases o1 with _ | _ <;> rcases p with _ | _ <;> rcases q with _ | _ <;> (first | exact absurd hb (by decide) | (clear hb; refine gives_pure (by rfl) ?_; intro w0 hSw; (try dsimp only at hSw); go_simp; (try with_reducible rfl)))
    · revert hb; rcases o1 with _ | _ <;> rcases p with _ | _ <;> rcases q with _ | _ <;> intro hb <;> (first | rfl | exact absurd hb (by decide))
  try simp only [Act.put, List.setIfInBounds_toArray, List.set_cons_zero, List.set_cons_succ]
  refine wpD_step (i := 15) (o := { dst := some 68, op := Op.load 23 (Operand.tmp 4), type := 23, pos := "law.go:24", after := #[{ on := 14, ground := Ground.guard }], guard := some (14, true) }) (v := (bif ((!(o1 != (p || q))) && p) then ?_ else undef)) rfl (by kernel_rfl) (by kernel_rfl) ?_ ?_
  rotate_left
  · refine gives_if (fun hb => ?_) (fun hb => ?_)
    · rcases o1 with _ | _ <;> rcases p with _ | _ <;> rcases q with _ | _ <;> (first | exact absurd hb (by decide) | (clear hb; refine gives_pure (by rfl) ?_; intro w0 hSw; (try dsimp only at hSw); go_simp; (try with_reducible rfl)))
    · revert hb; rcases o1 with _ | _ <;> rcases p with _ | _ <;> rcases q with _ | _ <;> intro hb <;> (first | rfl | exact absurd hb (by decide))
  try simp only [Act.put, List.setIfInBounds_toArray, List.set_cons_zero, List.set_cons_succ]
  refine wpD_step (i := 16) (o := { dst := some 69, op := Op.load 23 (Operand.tmp 3), type := 23, pos := "law.go:24", after := #[{ on := 14, ground := Ground.guard }], guard := some (14, true) }) (v := (bif ((!(o1 != (p || q))) && p) then ?_ else undef)) rfl (by kernel_rfl) (by kernel_rfl) ?_ ?_
  rotate_left
  · refine gives_if (fun hb => ?_) (fun hb => ?_)
    · rcases o1 with _ | _ <;> rcases p with _ | _ <;> rcases q with _ | _ <;> (first | exact absurd hb (by decide) | (clear hb; refine gives_pure (by rfl) ?_; intro w0 hSw; (try dsimp only at hSw); go_simp; (try with_reducible rfl)))
    · revert hb; rcases o1 with _ | _ <;> rcases p with _ | _ <;> rcases q with _ | _ <;> intro hb <;> (first | rfl | exact absurd hb (by decide))
  try simp only [Act.put, List.setIfInBounds_toArray, List.set_cons_zero, List.set_cons_succ]
  refine wpD_step (i := 17) (o := { dst := some 70, op := Op.call { callee := Callee.value (Operand.func 5), args := #[Operand.tmp 68, Operand.tmp 69], argTypes := #[23, 23] }, type := 4, pos := "law.go:24", after := #[{ on := 15, ground := Ground.data }, { on := 16, ground := Ground.data }, { on := 14, ground := Ground.chain }, { on := 14, ground := Ground.guard }], guard := some (14, true) }) (v := (bif ((!(o1 != (p || q))) && p) then Value.bool (q) else undef)) rfl (by kernel_rfl) (by kernel_rfl) ?_ ?_
  · refine gives_if (fun hb => ?_) (fun hb => ?_)
    · rcases o1 with _ | _ <;> rcases p with _ | _ <;> rcases q with _ | _ <;> (first | exact absurd hb (by decide) | (clear hb; refine gives_call (by rfl) ?_; intro w0 hHeld b0 K0 Q0 hK0; have hSw := hHeld; (try dsimp only at hSw); go_simp; refine (B2.out _).mono ?_; rintro e w5 ⟨rfl, b5⟩; exact hK0 _ (by (try dsimp only); first | exact (Three.below hHeld.2 (by assumption)).s | exact A3.out.drew.s | exact A3.out.s)))
    · revert hb; rcases o1 with _ | _ <;> rcases p with _ | _ <;> rcases q with _ | _ <;> intro hb <;> (first | rfl | exact absurd hb (by decide))
  try simp only [Act.put, List.setIfInBounds_toArray, List.set_cons_zero, List.set_cons_succ]
  refine wpD_step (i := 18) (o := { dst := some 71, op := Op.pick (Operand.tmp 67) (Operand.tmp 70) (Operand.const (Value.bool false)), type := 4, pos := "law.go:24", after := #[{ on := 14, ground := Ground.data }, { on := 17, ground := Ground.data }, { on := 10, ground := Ground.guard }], guard := some (10, false) }) (v := (bif (!(o1 != (p || q))) then Value.bool ((p && q)) else undef)) rfl (by kernel_rfl) (by kernel_rfl) ?_ ?_
  · refine gives_if (fun hb => ?_) (fun hb => ?_)
    · rcases o1 with _ | _ <;> rcases p with _ | _ <;> rcases q with _ | _ <;> (first | exact absurd hb (by decide) | (clear hb; refine gives_pure (by rfl) ?_; intro w0 hSw; first | rfl | ((try dsimp only at hSw); go_simp; (try with_reducible rfl))))
    · revert hb; rcases o1 with _ | _ <;> rcases p with _ | _ <;> rcases q with _ | _ <;> intro hb <;> (first | rfl | exact absurd hb (by decide))
  try simp only [Act.put, List.setIfInBounds_toArray, List.set_cons_zero, List.set_cons_succ]
  refine wpD_step (i := 19) (o := { dst := some 72, op := Op.pick (Operand.tmp 63) (Operand.const (Value.bool true)) (Operand.tmp 71), type := 4, pos := "law.go:24", after := #[{ on := 10, ground := Ground.data }, { on := 18, ground := Ground.data }], guard := none }) (v := (Value.bool (((o1 != (p || q)) || (p && q))))) rfl (by kernel_rfl) (by kernel_rfl) ?_ ?_
  · rcases o1 with _ | _ <;> rcases p with _ | _ <;> rcases q with _ | _ <;> (refine gives_pure (by rfl) ?_; intro w0 hSw; first | rfl | ((try dsimp only at hSw); go_simp; (try with_reducible rfl)))
  try simp only [Act.put, List.setIfInBounds_toArray, List.set_cons_zero, List.set_cons_succ]
  refine wpD_step (i := 20) (o := { dst := some 73, op := Op.move (Operand.tmp 72), type := 4, pos := "law.go:24", after := #[{ on := 19, ground := Ground.data }, { on := 17, ground := Ground.chain }], guard := none }) (v := (Value.bool (((o1 != (p || q)) || (p && q))))) rfl (by kernel_rfl) (by kernel_rfl) ?_ ?_
  · refine gives_pure (by rfl) ?_
    intro w0 hSw; (try dsimp only at hSw); go_simp; (try with_reducible rfl)
  try simp only [Act.put, List.setIfInBounds_toArray, List.set_cons_zero, List.set_cons_succ]
  refine wpD_step (i := 21) (o := { dst := some 74, op := Op.move (Operand.tmp 7), type := 4, pos := "law.go:24", after := #[{ on := 20, ground := Ground.guard }], guard := some (20, false) }) (v := (bif (!((o1 != (p || q)) || (p && q))) then Value.bool (o1) else undef)) rfl (by kernel_rfl) (by kernel_rfl) ?_ ?_
  · refine gives_if (fun hb => ?_) (fun hb => ?_)
    · rcases o1 with _ | _ <;> rcases p with _ | _ <;> rcases q with _ | _ <;> (first | exact absurd hb (by decide) | (clear hb; refine gives_pure (by rfl) ?_; intro w0 hSw; (try dsimp only at hSw); go_simp; (try with_reducible rfl)))
    · revert hb; rcases o1 with _ | _ <;> rcases p with _ | _ <;> rcases q with _ | _ <;> intro hb <;> (first | rfl | exact absurd hb (by decide))
  try simp only [Act.put, List.setIfInBounds_toArray, List.set_cons_zero, List.set_cons_succ]
  refine wpD_step (i := 22) (o := { dst := some 75, op := Op.move (Operand.tmp 74), type := 4, pos := "law.go:24", after := #[{ on := 21, ground := Ground.data }, { on := 20, ground := Ground.chain }, { on := 20, ground := Ground.guard }], guard := some (20, false) }) (v := (bif (!((o1 != (p || q)) || (p && q))) then Value.bool (o1) else undef)) rfl (by kernel_rfl) (by kernel_rfl) ?_ ?_
  · refine gives_if (fun hb => ?_) (fun hb => ?_)
    · rcases o1 with _ | _ <;> rcases p with _ | _ <;> rcases q with _ | _ <;> (first | exact absurd hb (by decide) | (clear hb; refine gives_pure (by rfl) ?_; intro w0 hSw; (try dsimp only at hSw); go_simp; (try with_reducible rfl)))
    · revert hb; rcases o1 with _ | _ <;> rcases p with _ | _ <;> rcases q with _ | _ <;> intro hb <;> (first | rfl | exact absurd hb (by decide))
  try simp only [Act.put, List.setIfInBounds_toArray, List.set_cons_zero, List.set_cons_succ]
  refine wpD_step (i := 23) (o := { dst := some 76, op := Op.fieldAddr 23 (Operand.tmp 3) 1, type := 0, pos := "law.go:24", after := #[{ on := 22, ground := Ground.guard }], guard := some (22, false) }) (v := (bif ((!((o1 != (p || q)) || (p && q))) && (!o1)) then ?_ else undef)) rfl (by kernel_rfl) (by kernel_rfl) ?_ ?_
  rotate_left
  · refine gives_if (fun hb => ?_) (fun hb => ?_)
    · rcases o1 with _ | _ <;> rcases p with _ | _ <;> rcases q with _ | _ <;> (first | exact absurd hb (by decide) | (clear hb; refine gives_pure (by rfl) ?_; intro w0 hSw; (try dsimp only at hSw); go_simp; (try with_reducible rfl)))
    · revert hb; rcases o1 with _ | _ <;> rcases p with _ | _ <;> rcases q with _ | _ <;> intro hb <;> (first | rfl | exact absurd hb (by decide))
  try simp only [Act.put, List.setIfInBounds_toArray, List.set_cons_zero, List.set_cons_succ]
  refine wpD_step (i := 24) (o := { dst := some 77, op := Op.load 3 (Operand.tmp 76), type := 3, pos := "law.go:24", after := #[{ on := 23, ground := Ground.data }, { on := 22, ground := Ground.guard }], guard := some (22, false) }) (v := (bif ((!((o1 != (p || q)) || (p && q))) && (!o1)) then ?_ else undef)) rfl (by kernel_rfl) (by kernel_rfl) ?_ ?_
  rotate_left
  · refine gives_if (fun hb => ?_) (fun hb => ?_)
    · rcases o1 with _ | _ <;> rcases p with _ | _ <;> rcases q with _ | _ <;> (first | exact absurd hb (by decide) | (clear hb; refine gives_pure (by rfl) ?_; intro w0 hSw; (try dsimp only at hSw); go_simp; (try with_reducible rfl)))
    · revert hb; rcases o1 with _ | _ <;> rcases p with _ | _ <;> rcases q with _ | _ <;> intro hb <;> (first | rfl | exact absurd hb (by decide))
  try simp only [Act.put, List.setIfInBounds_toArray, List.set_cons_zero, List.set_cons_succ]
  refine wpD_step (i := 25) (o := { dst := some 78, op := Op.fieldAddr 23 (Operand.tmp 4) 1, type := 0, pos := "law.go:24", after := #[{ on := 22, ground := Ground.guard }], guard := some (22, false) }) (v := (bif ((!((o1 != (p || q)) || (p && q))) && (!o1)) then ?_ else undef)) rfl (by kernel_rfl) (by kernel_rfl) ?_ ?_
  rotate_left
  · refine gives_if (fun hb => ?_) (fun hb => ?_)
    · rcases o1 with _ | _ <;> rcases p with _ | _ <;> rcases q with _ | _ <;> (first | exact absurd hb (by decide) | (clear hb; refine gives_pure (by rfl) ?_; intro w0 hSw; (try dsimp only at hSw); go_simp; (try with_reducible rfl)))
    · revert hb; rcases o1 with _ | _ <;> rcases p with _ | _ <;> rcases q with _ | _ <;> intro hb <;> (first | rfl | exact absurd hb (by decide))
  try simp only [Act.put, List.setIfInBounds_toArray, List.set_cons_zero, List.set_cons_succ]
  refine wpD_step (i := 26) (o := { dst := some 79, op := Op.load 3 (Operand.tmp 78), type := 3, pos := "law.go:24", after := #[{ on := 25, ground := Ground.data }, { on := 22, ground := Ground.guard }], guard := some (22, false) }) (v := (bif ((!((o1 != (p || q)) || (p && q))) && (!o1)) then ?_ else undef)) rfl (by kernel_rfl) (by kernel_rfl) ?_ ?_
  rotate_left
  · refine gives_if (fun hb => ?_) (fun hb => ?_)
    · rcases o1 with _ | _ <;> rcases p with _ | _ <;> rcases q with _ | _ <;> (first | exact absurd hb (by decide) | (clear hb; refine gives_pure (by rfl) ?_; intro w0 hSw; (try dsimp only at hSw); go_simp; (try with_reducible rfl)))
    · revert hb; rcases o1 with _ | _ <;> rcases p with _ | _ <;> rcases q with _ | _ <;> intro hb <;> (first | rfl | exact absurd hb (by decide))
  try simp only [Act.put, List.setIfInBounds_toArray, List.set_cons_zero, List.set_cons_succ]
  refine wpD_step (i := 29) (o := { dst := some 82, op := Op.load 23 (Operand.tmp 3), type := 23, pos := "law.go:24", after := #[{ on := 20, ground := Ground.guard }], guard := some (20, false) }) (v := (bif (!((o1 != (p || q)) || (p && q))) then ?_ else undef)) rfl (by kernel_rfl) (by kernel_rfl) ?_ ?_
  rotate_left
  · refine gives_if (fun hb => ?_) (fun hb => ?_)
    · rcases o1 with _ | _ <;> rcases p with _ | _ <;> rcases q with _ | _ <;> (first | exact absurd hb (by decide) | (clear hb; refine gives_pure (by rfl) ?_; intro w0 hSw; (try dsimp only at hSw); go_simp; (try with_reducible rfl)))
    · revert hb; rcases o1 with _ | _ <;> rcases p with _ | _ <;> rcases q with _ | _ <;> intro hb <;> (first | rfl | exact absurd hb (by decide))
  try simp only [Act.put, List.setIfInBounds_toArray, List.set_cons_zero, List.set_cons_succ]
  refine wpD_step (i := 30) (o := { dst := some 83, op := Op.load 23 (Operand.tmp 4), type := 23, pos := "law.go:24", after := #[{ on := 20, ground := Ground.guard }], guard := some (20, false) }) (v := (bif (!((o1 != (p || q)) || (p && q))) then ?_ else undef)) rfl (by kernel_rfl) (by kernel_rfl) ?_ ?_
  rotate_left
  · refine gives_if (fun hb => ?_) (fun hb => ?_)
    · rcases o1 with _ | _ <;> rcases p with _ | _ <;> rcases q with _ | _ <;> (first | exact absurd hb (by decide) | (clear hb; refine gives_pure (by rfl) ?_; intro w0 hSw; (try dsimp only at hSw); go_simp; (try with_reducible rfl)))
    · revert hb; rcases o1 with _ | _ <;> rcases p with _ | _ <;> rcases q with _ | _ <;> intro hb <;> (first | rfl | exact absurd hb (by decide))
  try simp only [Act.put, List.setIfInBounds_toArray, List.set_cons_zero, List.set_cons_succ]
  refine wpD_step (i := 27) (o := { dst := some 80, op := Op.binOp BinOp.neq 3 (Operand.tmp 77) (Operand.tmp 79) 3, type := 4, pos := "law.go:24", after := #[{ on := 24, ground := Ground.data }, { on := 26, ground := Ground.data }, { on := 22, ground := Ground.guard }], guard := some (22, false) }) (v := (bif ((!((o1 != (p || q)) || (p && q))) && (!o1)) then Value.bool (n1) else undef)) rfl (by kernel_rfl) (by kernel_rfl) ?_ ?_
  · refine gives_if (fun hb => ?_) (fun hb => ?_)
    · rcases o1 with _ | _ <;> rcases p with _ | _ <;> rcases q with _ | _ <;> (first | exact absurd hb (by decide) | (clear hb; refine gives_pure (by rfl) ?_; intro w0 hSw; first | rfl | ((try dsimp only at hSw); go_simp; (try with_reducible rfl))))
    · revert hb; rcases o1 with _ | _ <;> rcases p with _ | _ <;> rcases q with _ | _ <;> intro hb <;> (first | rfl | exact absurd hb (by decide))
  try simp only [Act.put, List.setIfInBounds_toArray, List.set_cons_zero, List.set_cons_succ]
  refine wpD_step (i := 28) (o := { dst := some 81, op := Op.pick (Operand.tmp 75) (Operand.const (Value.bool true)) (Operand.tmp 80), type := 4, pos := "law.go:24", after := #[{ on := 22, ground := Ground.data }, { on := 27, ground := Ground.data }, { on := 20, ground := Ground.guard }], guard := some (20, false) }) (v := (bif (!((o1 != (p || q)) || (p && q))) then Value.bool ((o1 || n1)) else undef)) rfl (by kernel_rfl) (by kernel_rfl) ?_ ?_
  · refine gives_if (fun hb => ?_) (fun hb => ?_)
    · rcases o1 with _ | _ <;> rcases p with _ | _ <;> rcases q with _ | _ <;> rcases n1 with _ | _ <;> (first | exact absurd hb (by decide) | (clear hb; refine gives_pure (by rfl) ?_; intro w0 hSw; first | rfl | ((try dsimp only at hSw); go_simp; (try with_reducible rfl))))
    · revert hb; rcases o1 with _ | _ <;> rcases p with _ | _ <;> rcases q with _ | _ <;> intro hb <;> (first | rfl | exact absurd hb (by decide))
  try simp only [Act.put, List.setIfInBounds_toArray, List.set_cons_zero, List.set_cons_succ]
  refine wpD_step (i := 31) (o := { dst := some 84, op := Op.call { callee := Callee.value (Operand.func 7), args := #[Operand.tmp 82, Operand.tmp 83], argTypes := #[23, 23] }, type := 4, pos := "law.go:24", after := #[{ on := 29, ground := Ground.data }, { on := 30, ground := Ground.data }, { on := 22, ground := Ground.chain }, { on := 20, ground := Ground.guard }], guard := some (20, false) }) (v := (bif (!((o1 != (p || q)) || (p && q))) then Value.bool (v) else undef)) rfl (by kernel_rfl) (by kernel_rfl) ?_ ?_
  · refine gives_if (fun hb => ?_) (fun hb => ?_)
    · rcases o1 with _ | _ <;> rcases p with _ | _ <;> rcases q with _ | _ <;> (first | exact absurd hb (by decide) | (clear hb; refine gives_call (by rfl) ?_; intro w0 hHeld b0 K0 Q0 hK0; have hSw := hHeld; (try dsimp only at hSw); go_simp; refine (W1.out _).mono ?_; rintro e w5 ⟨rfl, b5⟩; exact hK0 _ (by (try dsimp only); first | exact (Three.below hHeld.2 (by assumption)).s | exact A3.out.drew.s | exact A3.out.s)))
    · revert hb; rcases o1 with _ | _ <;> rcases p with _ | _ <;> rcases q with _ | _ <;> intro hb <;> (first | rfl | exact absurd hb (by decide))
  try simp only [Act.put, List.setIfInBounds_toArray, List.set_cons_zero, List.set_cons_succ]
  refine wpD_step (i := 32) (o := { dst := some 85, op := Op.move (Operand.tmp 84), type := 4, pos := "law.go:24", after := #[{ on := 31, ground := Ground.data }, { on := 31, ground := Ground.chain }, { on := 20, ground := Ground.guard }], guard := some (20, false) }) (v := (bif (!((o1 != (p || q)) || (p && q))) then Value.bool (v) else undef)) rfl (by kernel_rfl) (by kernel_rfl) ?_ ?_
  · refine gives_if (fun hb => ?_) (fun hb => ?_)
    · rcases o1 with _ | _ <;> rcases p with _ | _ <;> rcases q with _ | _ <;> (first | exact absurd hb (by decide) | (clear hb; refine gives_pure (by rfl) ?_; intro w0 hSw; (try dsimp only at hSw); go_simp; (try with_reducible rfl)))
    · revert hb; rcases o1 with _ | _ <;> rcases p with _ | _ <;> rcases q with _ | _ <;> intro hb <;> (first | rfl | exact absurd hb (by decide))
  try simp only [Act.put, List.setIfInBounds_toArray, List.set_cons_zero, List.set_cons_succ]
  refine wpD_step (i := 33) (o := { dst := some 86, op := Op.load 23 (Operand.tmp 4), type := 23, pos := "law.go:24", after := #[{ on := 32, ground := Ground.guard }], guard := some (32, false) }) (v := (bif ((!((o1 != (p || q)) || (p && q))) && (!v)) then ?_ else undef)) rfl (by kernel_rfl) (by kernel_rfl) ?_ ?_
  rotate_left
  · refine gives_if (fun hb => ?_) (fun hb => ?_)
    · rcases o1 with _ | _ <;> rcases p with _ | _ <;> rcases q with _ | _ <;> rcases v with _ | _ <;> (first | exact absurd hb (by decide) | (clear hb; refine gives_pure (by rfl) ?_; intro w0 hSw; (try dsimp only at hSw); go_simp; (try with_reducible rfl)))
    · revert hb; rcases o1 with _ | _ <;> rcases p with _ | _ <;> rcases q with _ | _ <;> rcases v with _ | _ <;> intro hb <;> (first | rfl | exact absurd hb (by decide))
  try simp only [Act.put, List.setIfInBounds_toArray, List.set_cons_zero, List.set_cons_succ]
  refine wpD_step (i := 34) (o := { dst := some 87, op := Op.load 23 (Operand.tmp 3), type := 23, pos := "law.go:24", after := #[{ on := 32, ground := Ground.guard }], guard := some (32, false) }) (v := (bif ((!((o1 != (p || q)) || (p && q))) && (!v)) then ?_ else undef)) rfl (by kernel_rfl) (by kernel_rfl) ?_ ?_
  rotate_left
  · refine gives_if (fun hb => ?_) (fun hb => ?_)
    · rcases o1 with _ | _ <;> rcases p with _ | _ <;> rcases q with _ | _ <;> rcases v with _ | _ <;> (first | exact absurd hb (by decide) | (clear hb; refine gives_pure (by rfl) ?_; intro w0 hSw; (try dsimp only at hSw); go_simp; (try with_reducible rfl)))
    · revert hb; rcases o1 with _ | _ <;> rcases p with _ | _ <;> rcases q with _ | _ <;> rcases v with _ | _ <;> intro hb <;> (first | rfl | exact absurd hb (by decide))
  try simp only [Act.put, List.setIfInBounds_toArray, List.set_cons_zero, List.set_cons_succ]
  refine wpD_step (i := 35) (o := { dst := some 88, op := Op.call { callee := Callee.value (Operand.func 7), args := #[Operand.tmp 86, Operand.tmp 87], argTypes := #[23, 23] }, type := 4, pos := "law.go:24", after := #[{ on := 33, ground := Ground.data }, { on := 34, ground := Ground.data }, { on := 32, ground := Ground.chain }, { on := 32, ground := Ground.guard }], guard := some (32, false) }) (v := (bif ((!((o1 != (p || q)) || (p && q))) && (!v)) then Value.bool (u) else undef)) rfl (by kernel_rfl) (by kernel_rfl) ?_ ?_
  · refine gives_if (fun hb => ?_) (fun hb => ?_)
    · rcases o1 with _ | _ <;> rcases p with _ | _ <;> rcases q with _ | _ <;> rcases v with _ | _ <;> (first | exact absurd hb (by decide) | (clear hb; refine gives_call (by rfl) ?_; intro w0 hHeld b0 K0 Q0 hK0; have hSw := hHeld; (try dsimp only at hSw); go_simp; refine (W2.out _).mono ?_; rintro e w5 ⟨rfl, b5⟩; exact hK0 _ (by (try dsimp only); first | exact (Three.below hHeld.2 (by assumption)).s | exact A3.out.drew.s | exact A3.out.s)))
    · revert hb; rcases o1 with _ | _ <;> rcases p with _ | _ <;> rcases q with _ | _ <;> rcases v with _ | _ <;> intro hb <;> (first | rfl | exact absurd hb (by decide))
  try simp only [Act.put, List.setIfInBounds_toArray, List.set_cons_zero, List.set_cons_succ]
  refine wpD_step (i := 36) (o := { dst := some 89, op := Op.pick (Operand.tmp 85) (Operand.const (Value.bool true)) (Operand.tmp 88), type := 4, pos := "law.go:24", after := #[{ on := 32, ground := Ground.data }, { on := 35, ground := Ground.data }, { on := 20, ground := Ground.guard }], guard := some (20, false) }) (v := (bif (!((o1 != (p || q)) || (p && q))) then Value.bool ((v || u)) else undef)) rfl (by kernel_rfl) (by kernel_rfl) ?_ ?_
  · refine gives_if (fun hb => ?_) (fun hb => ?_)
    · rcases o1 with _ | _ <;> rcases p with _ | _ <;> rcases q with _ | _ <;> rcases v with _ | _ <;> rcases u with _ | _ <;> (first | exact absurd hb (by decide) | (clear hb; refine gives_pure (by rfl) ?_; intro w0 hSw; first | rfl | ((try dsimp only at hSw); go_simp; (try with_reducible rfl))))
    · revert hb; rcases o1 with _ | _ <;> rcases p with _ | _ <;> rcases q with _ | _ <;> intro hb <;> (first | rfl | exact absurd hb (by decide))
  try simp only [Act.put, List.setIfInBounds_toArray, List.set_cons_zero, List.set_cons_succ]
  refine wpD_step (i := 37) (o := { dst := some 90, op := Op.binOp BinOp.neq 4 (Operand.tmp 81) (Operand.tmp 89) 4, type := 4, pos := "law.go:24", after := #[{ on := 28, ground := Ground.data }, { on := 36, ground := Ground.data }, { on := 20, ground := Ground.guard }], guard := some (20, false) }) (v := (bif (!((o1 != (p || q)) || (p && q))) then Value.bool (((o1 || n1) != (v || u))) else undef)) rfl (by kernel_rfl) (by kernel_rfl) ?_ ?_
  · refine gives_if (fun hb => ?_) (fun hb => ?_)
    · rcases o1 with _ | _ <;> rcases p with _ | _ <;> rcases q with _ | _ <;> rcases n1 with _ | _ <;> rcases v with _ | _ <;> rcases u with _ | _ <;> (first | exact absurd hb (by decide) | (clear hb; refine gives_pure (by rfl) ?_; intro w0 hSw; first | rfl | ((try dsimp only at hSw); go_simp; (try with_reducible rfl))))
    · revert hb; rcases o1 with _ | _ <;> rcases p with _ | _ <;> rcases q with _ | _ <;> intro hb <;> (first | rfl | exact absurd hb (by decide))
  try simp only [Act.put, List.setIfInBounds_toArray, List.set_cons_zero, List.set_cons_succ]
  refine wpD_step (i := 38) (o := { dst := some 91, op := Op.pick (Operand.tmp 73) (Operand.const (Value.bool true)) (Operand.tmp 90), type := 4, pos := "law.go:24", after := #[{ on := 20, ground := Ground.data }, { on := 37, ground := Ground.data }], guard := none }) (v := (Value.bool ((((o1 != (p || q)) || (p && q)) || ((o1 || n1) != (v || u)))))) rfl (by kernel_rfl) (by kernel_rfl) ?_ ?_
  · rcases o1 with _ | _ <;> rcases p with _ | _ <;> rcases q with _ | _ <;> rcases n1 with _ | _ <;> rcases v with _ | _ <;> rcases u with _ | _ <;> (refine gives_pure (by rfl) ?_; intro w0 hSw; first | rfl | ((try dsimp only at hSw); go_simp; (try with_reducible rfl)))
  try simp only [Act.put, List.setIfInBounds_toArray, List.set_cons_zero, List.set_cons_succ]
  refine wpD_done (by kernel_rfl) (fun wz hHeld => ?_) _
  rw [show ((((o1 != (p || q)) || (p && q)) || ((o1 || n1) != (v || u)))) = false from by (have g1 := F1.out; have g2 := F2.out; have g3 := F3.out; revert g1 g2 g3; cases o1 <;> cases p <;> cases q <;> cases n1 <;> cases v <;> cases u <;> decide)]
  clear hn1
  have A4 := Lib.hid hHeld.2
  clear hHeld A3
  go_upto_region 6 with (fail)
  refine wpG_go (S := (fun W => (W.cell? ⟨w.heap.size, 0, none⟩ = some (.int .i64 (f 0)) ∧ W.cell? ⟨w.heap.size, 1, none⟩ = some (.int .i64 (f 1)) ∧ W.cell? ⟨w.heap.size, 2, none⟩ = some (.int .i64 (f 2)) ∧ W.cell? ⟨w.heap.size, 3, none⟩ = some (.int .i64 (f 3)) ∧ W.cell? ⟨w.heap.size, 4, none⟩ = some (.int .i64 (f 4)) ∧ W.cell? ⟨w.heap.size, 5, none⟩ = some (.int .i64 (f 5)) ∧ W.cell? ⟨w.heap.size, 6, none⟩ = some (.int .i64 (f 6)) ∧ W.cell? ⟨w.heap.size + 1, 0, none⟩ = some (.int .i64 (h 0)) ∧ W.cell? ⟨w.heap.size + 1, 1, none⟩ = some (.int .i64 (h 1)) ∧ W.cell? ⟨w.heap.size + 1, 2, none⟩ = some (.int .i64 (h 2)) ∧ W.cell? ⟨w.heap.size + 1, 3, none⟩ = some (.int .i64 (h 3)) ∧ W.cell? ⟨w.heap.size + 1, 4, none⟩ = some (.int .i64 (h 4)) ∧ W.cell? ⟨w.heap.size + 1, 5, none⟩ = some (.int .i64 (h 5)) ∧ W.cell? ⟨w.heap.size + 1, 6, none⟩ = some (.int .i64 (h 6)) ∧ W.cell? ⟨w.heap.size + 2, 0, none⟩ = some (.int .i64 (k 0)) ∧ W.cell? ⟨w.heap.size + 2, 1, none⟩ = some (.int .i64 (k 1)) ∧ W.cell? ⟨w.heap.size + 2, 2, none⟩ = some (.int .i64 (k 2)) ∧ W.cell? ⟨w.heap.size + 2, 3, none⟩ = some (.int .i64 (k 3)) ∧ W.cell? ⟨w.heap.size + 2, 4, none⟩ = some (.int .i64 (k 4)) ∧ W.cell? ⟨w.heap.size + 2, 5, none⟩ = some (.int .i64 (k 5)) ∧ W.cell? ⟨w.heap.size + 2, 6, none⟩ = some (.int .i64 (k 6))) ∧ Three w f h k W)) ?_ ?_
  · (try dsimp only); first | exact (Three.below hHeld.2 (by assumption)).s | exact A4.out.drew.s | exact A4.out.s
  refine wpG_step (o := { dst := some 92, op := Op.load 23 (Operand.tmp 3), type := 23, pos := "law.go:27", after := #[], guard := none }) (v := ?_) ?_ ?_
  rotate_left
  · refine gives_pure (by rfl) ?_
    intro w0 hSw; (try dsimp only at hSw); go_simp; (try with_reducible rfl)
  try simp only [Act.put, List.setIfInBounds_toArray, List.set_cons_zero, List.set_cons_succ]
  refine wpG_step (o := { dst := some 93, op := Op.load 23 (Operand.tmp 4), type := 23, pos := "law.go:27", after := #[], guard := none }) (v := ?_) ?_ ?_
  rotate_left
  · refine gives_pure (by rfl) ?_
    intro w0 hSw; (try dsimp only at hSw); go_simp; (try with_reducible rfl)
  try simp only [Act.put, List.setIfInBounds_toArray, List.set_cons_zero, List.set_cons_succ]
  refine wpG_step (o := { dst := some 94, op := Op.call { callee := Callee.value (Operand.func 5), args := #[Operand.tmp 92, Operand.tmp 93], argTypes := #[23, 23] }, type := 4, pos := "law.go:27", after := #[{ on := 0, ground := Ground.data }, { on := 1, ground := Ground.data }], guard := none }) (v := (Value.bool (p))) ?_ ?_
  · refine gives_call (by rfl) ?_
    intro w0 hHeld b0 K0 Q0 hK0; have hSw := hHeld; (try dsimp only at hSw); go_simp; refine (B1.out _).mono ?_; rintro e w5 ⟨rfl, b5⟩; exact hK0 _ (by (try dsimp only); first | exact (Three.below hHeld.2 (by assumption)).s | exact A4.out.drew.s | exact A4.out.s)
  try simp only [Act.put, List.setIfInBounds_toArray, List.set_cons_zero, List.set_cons_succ]
  refine wpG_step (o := { dst := some 95, op := Op.unOp UnOp.not 4 (Operand.tmp 94), type := 4, pos := "law.go:27", after := #[{ on := 2, ground := Ground.data }], guard := none }) (v := (Value.bool ((!p)))) ?_ ?_
  · rcases p with _ | _ <;> (refine gives_pure (by rfl) ?_; intro w0 hSw; first | rfl | ((try dsimp only at hSw); go_simp; (try with_reducible rfl)))
  try simp only [Act.put, List.setIfInBounds_toArray, List.set_cons_zero, List.set_cons_succ]
  refine wpG_step (o := { dst := some 96, op := Op.move (Operand.tmp 95), type := 4, pos := "law.go:27", after := #[{ on := 3, ground := Ground.data }, { on := 2, ground := Ground.chain }], guard := none }) (v := (Value.bool ((!p)))) ?_ ?_
  · refine gives_pure (by rfl) ?_
    intro w0 hSw; (try dsimp only at hSw); go_simp; (try with_reducible rfl)
  try simp only [Act.put, List.setIfInBounds_toArray, List.set_cons_zero, List.set_cons_succ]
  refine wpG_step (o := { dst := some 97, op := Op.load 23 (Operand.tmp 4), type := 23, pos := "law.go:27", after := #[{ on := 4, ground := Ground.guard }], guard := some (4, false) }) (v := (bif (!(!p)) then ?_ else undef)) ?_ ?_
  rotate_left
  · refine gives_if (fun hb => ?_) (fun hb => ?_)
    · rcases p with _ | _ <;> (first | exact absurd hb (by decide) | (clear hb; refine gives_pure (by rfl) ?_; intro w0 hSw; (try dsimp only at hSw); go_simp; (try with_reducible rfl)))
    · revert hb; rcases p with _ | _ <;> intro hb <;> (first | rfl | exact absurd hb (by decide))
  try simp only [Act.put, List.setIfInBounds_toArray, List.set_cons_zero, List.set_cons_succ]
  refine wpG_step (o := { dst := some 98, op := Op.load 23 (Operand.tmp 5), type := 23, pos := "law.go:27", after := #[{ on := 4, ground := Ground.guard }], guard := some (4, false) }) (v := (bif (!(!p)) then ?_ else undef)) ?_ ?_
  rotate_left
  · refine gives_if (fun hb => ?_) (fun hb => ?_)
    · rcases p with _ | _ <;> (first | exact absurd hb (by decide) | (clear hb; refine gives_pure (by rfl) ?_; intro w0 hSw; (try dsimp only at hSw); go_simp; (try with_reducible rfl)))
    · revert hb; rcases p with _ | _ <;> intro hb <;> (first | rfl | exact absurd hb (by decide))
  try simp only [Act.put, List.setIfInBounds_toArray, List.set_cons_zero, List.set_cons_succ]
  refine wpG_step (o := { dst := some 99, op := Op.call { callee := Callee.value (Operand.func 5), args := #[Operand.tmp 97, Operand.tmp 98], argTypes := #[23, 23] }, type := 4, pos := "law.go:27", after := #[{ on := 5, ground := Ground.data }, { on := 6, ground := Ground.data }, { on := 4, ground := Ground.chain }, { on := 4, ground := Ground.guard }], guard := some (4, false) }) (v := (bif (!(!p)) then Value.bool (r) else undef)) ?_ ?_
  · refine gives_if (fun hb => ?_) (fun hb => ?_)
    · rcases p with _ | _ <;> (first | exact absurd hb (by decide) | (clear hb; refine gives_call (by rfl) ?_; intro w0 hHeld b0 K0 Q0 hK0; have hSw := hHeld; (try dsimp only at hSw); go_simp; refine (B3.out _).mono ?_; rintro e w5 ⟨rfl, b5⟩; exact hK0 _ (by (try dsimp only); first | exact (Three.below hHeld.2 (by assumption)).s | exact A4.out.drew.s | exact A4.out.s)))
    · revert hb; rcases p with _ | _ <;> intro hb <;> (first | rfl | exact absurd hb (by decide))
  try simp only [Act.put, List.setIfInBounds_toArray, List.set_cons_zero, List.set_cons_succ]
  refine wpG_step (o := { dst := some 100, op := Op.unOp UnOp.not 4 (Operand.tmp 99), type := 4, pos := "law.go:27", after := #[{ on := 7, ground := Ground.data }, { on := 4, ground := Ground.guard }], guard := some (4, false) }) (v := (bif (!(!p)) then Value.bool ((!r)) else undef)) ?_ ?_
  · refine gives_if (fun hb => ?_) (fun hb => ?_)
    · rcases p with _ | _ <;> rcases r with _ | _ <;> (first | exact absurd hb (by decide) | (clear hb; refine gives_pure (by rfl) ?_; intro w0 hSw; first | rfl | ((try dsimp only at hSw); go_simp; (try with_reducible rfl))))
    · revert hb; rcases p with _ | _ <;> intro hb <;> (first | rfl | exact absurd hb (by decide))
  try simp only [Act.put, List.setIfInBounds_toArray, List.set_cons_zero, List.set_cons_succ]
  refine wpG_step (o := { dst := some 101, op := Op.pick (Operand.tmp 96) (Operand.const (Value.bool true)) (Operand.tmp 100), type := 4, pos := "law.go:27", after := #[{ on := 4, ground := Ground.data }, { on := 8, ground := Ground.data }], guard := none }) (v := (Value.bool (((!p) || (!r))))) ?_ ?_
  · rcases p with _ | _ <;> rcases r with _ | _ <;> (refine gives_pure (by rfl) ?_; intro w0 hSw; first | rfl | ((try dsimp only at hSw); go_simp; (try with_reducible rfl)))
  try simp only [Act.put, List.setIfInBounds_toArray, List.set_cons_zero, List.set_cons_succ]
  refine wpG_step (o := { dst := some 102, op := Op.move (Operand.tmp 101), type := 4, pos := "law.go:27", after := #[{ on := 9, ground := Ground.data }, { on := 7, ground := Ground.chain }], guard := none }) (v := (Value.bool (((!p) || (!r))))) ?_ ?_
  · refine gives_pure (by rfl) ?_
    intro w0 hSw; (try dsimp only at hSw); go_simp; (try with_reducible rfl)
  try simp only [Act.put, List.setIfInBounds_toArray, List.set_cons_zero, List.set_cons_succ]
  refine wpG_step (o := { dst := some 103, op := Op.load 23 (Operand.tmp 3), type := 23, pos := "law.go:27", after := #[{ on := 10, ground := Ground.guard }], guard := some (10, false) }) (v := (bif (!((!p) || (!r))) then ?_ else undef)) ?_ ?_
  rotate_left
  · refine gives_if (fun hb => ?_) (fun hb => ?_)
    · rcases p with _ | _ <;> rcases r with _ | _ <;> (first | exact absurd hb (by decide) | (clear hb; refine gives_pure (by rfl) ?_; intro w0 hSw; (try dsimp only at hSw); go_simp; (try with_reducible rfl)))
    · revert hb; rcases p with _ | _ <;> rcases r with _ | _ <;> intro hb <;> (first | rfl | exact absurd hb (by decide))
  try simp only [Act.put, List.setIfInBounds_toArray, List.set_cons_zero, List.set_cons_succ]
  refine wpG_step (o := { dst := some 104, op := Op.load 23 (Operand.tmp 5), type := 23, pos := "law.go:27", after := #[{ on := 10, ground := Ground.guard }], guard := some (10, false) }) (v := (bif (!((!p) || (!r))) then ?_ else undef)) ?_ ?_
  rotate_left
  · refine gives_if (fun hb => ?_) (fun hb => ?_)
    · rcases p with _ | _ <;> rcases r with _ | _ <;> (first | exact absurd hb (by decide) | (clear hb; refine gives_pure (by rfl) ?_; intro w0 hSw; (try dsimp only at hSw); go_simp; (try with_reducible rfl)))
    · revert hb; rcases p with _ | _ <;> rcases r with _ | _ <;> intro hb <;> (first | rfl | exact absurd hb (by decide))
  try simp only [Act.put, List.setIfInBounds_toArray, List.set_cons_zero, List.set_cons_succ]
  refine wpG_step (o := { dst := some 105, op := Op.call { callee := Callee.value (Operand.func 5), args := #[Operand.tmp 103, Operand.tmp 104], argTypes := #[23, 23] }, type := 4, pos := "law.go:27", after := #[{ on := 11, ground := Ground.data }, { on := 12, ground := Ground.data }, { on := 10, ground := Ground.chain }, { on := 10, ground := Ground.guard }], guard := some (10, false) }) (v := (bif (!((!p) || (!r))) then Value.bool (s) else undef)) ?_ ?_
  · refine gives_if (fun hb => ?_) (fun hb => ?_)
    · rcases p with _ | _ <;> rcases r with _ | _ <;> (first | exact absurd hb (by decide) | (clear hb; refine gives_call (by rfl) ?_; intro w0 hHeld b0 K0 Q0 hK0; have hSw := hHeld; (try dsimp only at hSw); go_simp; refine (B4.out _).mono ?_; rintro e w5 ⟨rfl, b5⟩; exact hK0 _ (by (try dsimp only); first | exact (Three.below hHeld.2 (by assumption)).s | exact A4.out.drew.s | exact A4.out.s)))
    · revert hb; rcases p with _ | _ <;> rcases r with _ | _ <;> intro hb <;> (first | rfl | exact absurd hb (by decide))
  try simp only [Act.put, List.setIfInBounds_toArray, List.set_cons_zero, List.set_cons_succ]
  refine wpG_step (o := { dst := some 106, op := Op.pick (Operand.tmp 102) (Operand.const (Value.bool true)) (Operand.tmp 105), type := 4, pos := "law.go:27", after := #[{ on := 10, ground := Ground.data }, { on := 13, ground := Ground.data }], guard := none }) (v := (Value.bool ((((!p) || (!r)) || s)))) ?_ ?_
  · rcases p with _ | _ <;> rcases r with _ | _ <;> rcases s with _ | _ <;> (refine gives_pure (by rfl) ?_; intro w0 hSw; first | rfl | ((try dsimp only at hSw); go_simp; (try with_reducible rfl)))
  try simp only [Act.put, List.setIfInBounds_toArray, List.set_cons_zero, List.set_cons_succ]
  refine wpG_step (o := { dst := some 107, op := Op.move (Operand.tmp 106), type := 4, pos := "law.go:27", after := #[{ on := 14, ground := Ground.data }, { on := 13, ground := Ground.chain }], guard := none }) (v := (Value.bool ((((!p) || (!r)) || s)))) ?_ ?_
  · refine gives_pure (by rfl) ?_
    intro w0 hSw; (try dsimp only at hSw); go_simp; (try with_reducible rfl)
  try simp only [Act.put, List.setIfInBounds_toArray, List.set_cons_zero, List.set_cons_succ]
  refine wpG_step (o := { dst := some 108, op := Op.load 23 (Operand.tmp 3), type := 23, pos := "law.go:27", after := #[{ on := 15, ground := Ground.guard }], guard := some (15, true) }) (v := (bif (((!p) || (!r)) || s) then ?_ else undef)) ?_ ?_
  rotate_left
  · refine gives_if (fun hb => ?_) (fun hb => ?_)
    · rcases p with _ | _ <;> rcases r with _ | _ <;> rcases s with _ | _ <;> (first | exact absurd hb (by decide) | (clear hb; refine gives_pure (by rfl) ?_; intro w0 hSw; (try dsimp only at hSw); go_simp; (try with_reducible rfl)))
    · revert hb; rcases p with _ | _ <;> rcases r with _ | _ <;> rcases s with _ | _ <;> intro hb <;> (first | rfl | exact absurd hb (by decide))
  try simp only [Act.put, List.setIfInBounds_toArray, List.set_cons_zero, List.set_cons_succ]
  refine wpG_step (o := { dst := some 109, op := Op.load 23 (Operand.tmp 4), type := 23, pos := "law.go:27", after := #[{ on := 15, ground := Ground.guard }], guard := some (15, true) }) (v := (bif (((!p) || (!r)) || s) then ?_ else undef)) ?_ ?_
  rotate_left
  · refine gives_if (fun hb => ?_) (fun hb => ?_)
    · rcases p with _ | _ <;> rcases r with _ | _ <;> rcases s with _ | _ <;> (first | exact absurd hb (by decide) | (clear hb; refine gives_pure (by rfl) ?_; intro w0 hSw; (try dsimp only at hSw); go_simp; (try with_reducible rfl)))
    · revert hb; rcases p with _ | _ <;> rcases r with _ | _ <;> rcases s with _ | _ <;> intro hb <;> (first | rfl | exact absurd hb (by decide))
  try simp only [Act.put, List.setIfInBounds_toArray, List.set_cons_zero, List.set_cons_succ]
  refine wpG_step (o := { dst := some 110, op := Op.call { callee := Callee.value (Operand.func 7), args := #[Operand.tmp 108, Operand.tmp 109], argTypes := #[23, 23] }, type := 4, pos := "law.go:27", after := #[{ on := 16, ground := Ground.data }, { on := 17, ground := Ground.data }, { on := 15, ground := Ground.chain }, { on := 15, ground := Ground.guard }], guard := some (15, true) }) (v := (bif (((!p) || (!r)) || s) then Value.bool (v) else undef)) ?_ ?_
  · refine gives_if (fun hb => ?_) (fun hb => ?_)
    · rcases p with _ | _ <;> rcases r with _ | _ <;> rcases s with _ | _ <;> (first | exact absurd hb (by decide) | (clear hb; refine gives_call (by rfl) ?_; intro w0 hHeld b0 K0 Q0 hK0; have hSw := hHeld; (try dsimp only at hSw); go_simp; refine (W1.out _).mono ?_; rintro e w5 ⟨rfl, b5⟩; exact hK0 _ (by (try dsimp only); first | exact (Three.below hHeld.2 (by assumption)).s | exact A4.out.drew.s | exact A4.out.s)))
    · revert hb; rcases p with _ | _ <;> rcases r with _ | _ <;> rcases s with _ | _ <;> intro hb <;> (first | rfl | exact absurd hb (by decide))
  try simp only [Act.put, List.setIfInBounds_toArray, List.set_cons_zero, List.set_cons_succ]
  refine wpG_step (o := { dst := some 111, op := Op.unOp UnOp.not 4 (Operand.tmp 110), type := 4, pos := "law.go:27", after := #[{ on := 18, ground := Ground.data }, { on := 15, ground := Ground.guard }], guard := some (15, true) }) (v := (bif (((!p) || (!r)) || s) then Value.bool ((!v)) else undef)) ?_ ?_
  · refine gives_if (fun hb => ?_) (fun hb => ?_)
    · rcases p with _ | _ <;> rcases r with _ | _ <;> rcases s with _ | _ <;> rcases v with _ | _ <;> (first | exact absurd hb (by decide) | (clear hb; refine gives_pure (by rfl) ?_; intro w0 hSw; first | rfl | ((try dsimp only at hSw); go_simp; (try with_reducible rfl))))
    · revert hb; rcases p with _ | _ <;> rcases r with _ | _ <;> rcases s with _ | _ <;> intro hb <;> (first | rfl | exact absurd hb (by decide))
  try simp only [Act.put, List.setIfInBounds_toArray, List.set_cons_zero, List.set_cons_succ]
  refine wpG_step (o := { dst := some 112, op := Op.move (Operand.tmp 111), type := 4, pos := "law.go:27", after := #[{ on := 19, ground := Ground.data }, { on := 18, ground := Ground.chain }, { on := 15, ground := Ground.guard }], guard := some (15, true) }) (v := (bif (((!p) || (!r)) || s) then Value.bool ((!v)) else undef)) ?_ ?_
  · refine gives_if (fun hb => ?_) (fun hb => ?_)
    · rcases p with _ | _ <;> rcases r with _ | _ <;> rcases s with _ | _ <;> (first | exact absurd hb (by decide) | (clear hb; refine gives_pure (by rfl) ?_; intro w0 hSw; (try dsimp only at hSw); go_simp; (try with_reducible rfl)))
    · revert hb; rcases p with _ | _ <;> rcases r with _ | _ <;> rcases s with _ | _ <;> intro hb <;> (first | rfl | exact absurd hb (by decide))
  try simp only [Act.put, List.setIfInBounds_toArray, List.set_cons_zero, List.set_cons_succ]
  refine wpG_step (o := { dst := some 113, op := Op.load 23 (Operand.tmp 4), type := 23, pos := "law.go:27", after := #[{ on := 20, ground := Ground.guard }], guard := some (20, false) }) (v := (bif ((((!p) || (!r)) || s) && (!(!v))) then ?_ else undef)) ?_ ?_
  rotate_left
  · refine gives_if (fun hb => ?_) (fun hb => ?_)
    · rcases p with _ | _ <;> rcases r with _ | _ <;> rcases s with _ | _ <;> rcases v with _ | _ <;> (first | exact absurd hb (by decide) | (clear hb; refine gives_pure (by rfl) ?_; intro w0 hSw; (try dsimp only at hSw); go_simp; (try with_reducible rfl)))
    · revert hb; rcases p with _ | _ <;> rcases r with _ | _ <;> rcases s with _ | _ <;> rcases v with _ | _ <;> intro hb <;> (first | rfl | exact absurd hb (by decide))
  try simp only [Act.put, List.setIfInBounds_toArray, List.set_cons_zero, List.set_cons_succ]
  refine wpG_step (o := { dst := some 114, op := Op.load 23 (Operand.tmp 5), type := 23, pos := "law.go:27", after := #[{ on := 20, ground := Ground.guard }], guard := some (20, false) }) (v := (bif ((((!p) || (!r)) || s) && (!(!v))) then ?_ else undef)) ?_ ?_
  rotate_left
  · refine gives_if (fun hb => ?_) (fun hb => ?_)
    · rcases p with _ | _ <;> rcases r with _ | _ <;> rcases s with _ | _ <;> rcases v with _ | _ <;> (first | exact absurd hb (by decide) | (clear hb; refine gives_pure (by rfl) ?_; intro w0 hSw; (try dsimp only at hSw); go_simp; (try with_reducible rfl)))
    · revert hb; rcases p with _ | _ <;> rcases r with _ | _ <;> rcases s with _ | _ <;> rcases v with _ | _ <;> intro hb <;> (first | rfl | exact absurd hb (by decide))
  try simp only [Act.put, List.setIfInBounds_toArray, List.set_cons_zero, List.set_cons_succ]
  refine wpG_step (o := { dst := some 115, op := Op.call { callee := Callee.value (Operand.func 7), args := #[Operand.tmp 113, Operand.tmp 114], argTypes := #[23, 23] }, type := 4, pos := "law.go:27", after := #[{ on := 21, ground := Ground.data }, { on := 22, ground := Ground.data }, { on := 20, ground := Ground.chain }, { on := 20, ground := Ground.guard }], guard := some (20, false) }) (v := (bif ((((!p) || (!r)) || s) && (!(!v))) then Value.bool (x) else undef)) ?_ ?_
  · refine gives_if (fun hb => ?_) (fun hb => ?_)
    · rcases p with _ | _ <;> rcases r with _ | _ <;> rcases s with _ | _ <;> rcases v with _ | _ <;> (first | exact absurd hb (by decide) | (clear hb; refine gives_call (by rfl) ?_; intro w0 hHeld b0 K0 Q0 hK0; have hSw := hHeld; (try dsimp only at hSw); go_simp; refine (W3.out _).mono ?_; rintro e w5 ⟨rfl, b5⟩; exact hK0 _ (by (try dsimp only); first | exact (Three.below hHeld.2 (by assumption)).s | exact A4.out.drew.s | exact A4.out.s)))
    · revert hb; rcases p with _ | _ <;> rcases r with _ | _ <;> rcases s with _ | _ <;> rcases v with _ | _ <;> intro hb <;> (first | rfl | exact absurd hb (by decide))
  try simp only [Act.put, List.setIfInBounds_toArray, List.set_cons_zero, List.set_cons_succ]
  refine wpG_step (o := { dst := some 116, op := Op.unOp UnOp.not 4 (Operand.tmp 115), type := 4, pos := "law.go:27", after := #[{ on := 23, ground := Ground.data }, { on := 20, ground := Ground.guard }], guard := some (20, false) }) (v := (bif ((((!p) || (!r)) || s) && (!(!v))) then Value.bool ((!x)) else undef)) ?_ ?_
  · refine gives_if (fun hb => ?_) (fun hb => ?_)
    · rcases p with _ | _ <;> rcases r with _ | _ <;> rcases s with _ | _ <;> rcases v with _ | _ <;> rcases x with _ | _ <;> (first | exact absurd hb (by decide) | (clear hb; refine gives_pure (by rfl) ?_; intro w0 hSw; first | rfl | ((try dsimp only at hSw); go_simp; (try with_reducible rfl))))
    · revert hb; rcases p with _ | _ <;> rcases r with _ | _ <;> rcases s with _ | _ <;> rcases v with _ | _ <;> intro hb <;> (first | rfl | exact absurd hb (by decide))
  try simp only [Act.put, List.setIfInBounds_toArray, List.set_cons_zero, List.set_cons_succ]
  refine wpG_step (o := { dst := some 117, op := Op.pick (Operand.tmp 112) (Operand.const (Value.bool true)) (Operand.tmp 116), type := 4, pos := "law.go:27", after := #[{ on := 20, ground := Ground.data }, { on := 24, ground := Ground.data }, { on := 15, ground := Ground.guard }], guard := some (15, true) }) (v := (bif (((!p) || (!r)) || s) then Value.bool (((!v) || (!x))) else undef)) ?_ ?_
  · refine gives_if (fun hb => ?_) (fun hb => ?_)
    · rcases p with _ | _ <;> rcases r with _ | _ <;> rcases s with _ | _ <;> rcases v with _ | _ <;> rcases x with _ | _ <;> (first | exact absurd hb (by decide) | (clear hb; refine gives_pure (by rfl) ?_; intro w0 hSw; first | rfl | ((try dsimp only at hSw); go_simp; (try with_reducible rfl))))
    · revert hb; rcases p with _ | _ <;> rcases r with _ | _ <;> rcases s with _ | _ <;> intro hb <;> (first | rfl | exact absurd hb (by decide))
  try simp only [Act.put, List.setIfInBounds_toArray, List.set_cons_zero, List.set_cons_succ]
  refine wpG_step (o := { dst := some 118, op := Op.move (Operand.tmp 117), type := 4, pos := "law.go:27", after := #[{ on := 25, ground := Ground.data }, { on := 23, ground := Ground.chain }, { on := 15, ground := Ground.guard }], guard := some (15, true) }) (v := (bif (((!p) || (!r)) || s) then Value.bool (((!v) || (!x))) else undef)) ?_ ?_
  · refine gives_if (fun hb => ?_) (fun hb => ?_)
    · rcases p with _ | _ <;> rcases r with _ | _ <;> rcases s with _ | _ <;> (first | exact absurd hb (by decide) | (clear hb; refine gives_pure (by rfl) ?_; intro w0 hSw; (try dsimp only at hSw); go_simp; (try with_reducible rfl)))
    · revert hb; rcases p with _ | _ <;> rcases r with _ | _ <;> rcases s with _ | _ <;> intro hb <;> (first | rfl | exact absurd hb (by decide))
  try simp only [Act.put, List.setIfInBounds_toArray, List.set_cons_zero, List.set_cons_succ]
  refine wpG_step (o := { dst := some 119, op := Op.load 23 (Operand.tmp 3), type := 23, pos := "law.go:27", after := #[{ on := 26, ground := Ground.guard }], guard := some (26, false) }) (v := (bif ((((!p) || (!r)) || s) && (!((!v) || (!x)))) then ?_ else undef)) ?_ ?_
  rotate_left
  · refine gives_if (fun hb => ?_) (fun hb => ?_)
    · rcases p with _ | _ <;> rcases r with _ | _ <;> rcases s with _ | _ <;> rcases v with _ | _ <;> rcases x with _ | _ <;> (first | exact absurd hb (by decide) | (clear hb; refine gives_pure (by rfl) ?_; intro w0 hSw; (try dsimp only at hSw); go_simp; (try with_reducible rfl)))
    · revert hb; rcases p with _ | _ <;> rcases r with _ | _ <;> rcases s with _ | _ <;> rcases v with _ | _ <;> rcases x with _ | _ <;> intro hb <;> (first | rfl | exact absurd hb (by decide))
  try simp only [Act.put, List.setIfInBounds_toArray, List.set_cons_zero, List.set_cons_succ]
  refine wpG_step (o := { dst := some 120, op := Op.load 23 (Operand.tmp 5), type := 23, pos := "law.go:27", after := #[{ on := 26, ground := Ground.guard }], guard := some (26, false) }) (v := (bif ((((!p) || (!r)) || s) && (!((!v) || (!x)))) then ?_ else undef)) ?_ ?_
  rotate_left
  · refine gives_if (fun hb => ?_) (fun hb => ?_)
    · rcases p with _ | _ <;> rcases r with _ | _ <;> rcases s with _ | _ <;> rcases v with _ | _ <;> rcases x with _ | _ <;> (first | exact absurd hb (by decide) | (clear hb; refine gives_pure (by rfl) ?_; intro w0 hSw; (try dsimp only at hSw); go_simp; (try with_reducible rfl)))
    · revert hb; rcases p with _ | _ <;> rcases r with _ | _ <;> rcases s with _ | _ <;> rcases v with _ | _ <;> rcases x with _ | _ <;> intro hb <;> (first | rfl | exact absurd hb (by decide))
  try simp only [Act.put, List.setIfInBounds_toArray, List.set_cons_zero, List.set_cons_succ]
  refine wpG_step (o := { dst := some 121, op := Op.call { callee := Callee.value (Operand.func 7), args := #[Operand.tmp 119, Operand.tmp 120], argTypes := #[23, 23] }, type := 4, pos := "law.go:27", after := #[{ on := 27, ground := Ground.data }, { on := 28, ground := Ground.data }, { on := 26, ground := Ground.chain }, { on := 26, ground := Ground.guard }], guard := some (26, false) }) (v := (bif ((((!p) || (!r)) || s) && (!((!v) || (!x)))) then Value.bool (y) else undef)) ?_ ?_
  · refine gives_if (fun hb => ?_) (fun hb => ?_)
    · rcases p with _ | _ <;> rcases r with _ | _ <;> rcases s with _ | _ <;> rcases v with _ | _ <;> rcases x with _ | _ <;> (first | exact absurd hb (by decide) | (clear hb; refine gives_call (by rfl) ?_; intro w0 hHeld b0 K0 Q0 hK0; have hSw := hHeld; (try dsimp only at hSw); go_simp; refine (W4.out _).mono ?_; rintro e w5 ⟨rfl, b5⟩; exact hK0 _ (by (try dsimp only); first | exact (Three.below hHeld.2 (by assumption)).s | exact A4.out.drew.s | exact A4.out.s)))
    · revert hb; rcases p with _ | _ <;> rcases r with _ | _ <;> rcases s with _ | _ <;> rcases v with _ | _ <;> rcases x with _ | _ <;> intro hb <;> (first | rfl | exact absurd hb (by decide))
  try simp only [Act.put, List.setIfInBounds_toArray, List.set_cons_zero, List.set_cons_succ]
  refine wpG_step (o := { dst := some 122, op := Op.pick (Operand.tmp 118) (Operand.const (Value.bool true)) (Operand.tmp 121), type := 4, pos := "law.go:27", after := #[{ on := 26, ground := Ground.data }, { on := 29, ground := Ground.data }, { on := 15, ground := Ground.guard }], guard := some (15, true) }) (v := (bif (((!p) || (!r)) || s) then Value.bool ((((!v) || (!x)) || y)) else undef)) ?_ ?_
  · refine gives_if (fun hb => ?_) (fun hb => ?_)
    · rcases p with _ | _ <;> rcases r with _ | _ <;> rcases s with _ | _ <;> rcases v with _ | _ <;> rcases x with _ | _ <;> rcases y with _ | _ <;> (first | exact absurd hb (by decide) | (clear hb; refine gives_pure (by rfl) ?_; intro w0 hSw; first | rfl | ((try dsimp only at hSw); go_simp; (try with_reducible rfl))))
    · revert hb; rcases p with _ | _ <;> rcases r with _ | _ <;> rcases s with _ | _ <;> intro hb <;> (first | rfl | exact absurd hb (by decide))
  try simp only [Act.put, List.setIfInBounds_toArray, List.set_cons_zero, List.set_cons_succ]
  refine wpG_step (o := { dst := some 123, op := Op.pick (Operand.tmp 107) (Operand.tmp 122) (Operand.const (Value.bool false)), type := 4, pos := "law.go:27", after := #[{ on := 15, ground := Ground.data }, { on := 30, ground := Ground.data }], guard := none }) (v := (Value.bool (((((!p) || (!r)) || s) && (((!v) || (!x)) || y))))) ?_ ?_
  · rcases p with _ | _ <;> rcases r with _ | _ <;> rcases s with _ | _ <;> rcases v with _ | _ <;> rcases x with _ | _ <;> rcases y with _ | _ <;> (refine gives_pure (by rfl) ?_; intro w0 hSw; first | rfl | ((try dsimp only at hSw); go_simp; (try with_reducible rfl)))
  try simp only [Act.put, List.setIfInBounds_toArray, List.set_cons_zero, List.set_cons_succ]
  refine wpG_step (o := { dst := some 124, op := Op.move (Operand.tmp 123), type := 4, pos := "law.go:27", after := #[{ on := 31, ground := Ground.data }, { on := 29, ground := Ground.chain }], guard := none }) (v := (Value.bool (((((!p) || (!r)) || s) && (((!v) || (!x)) || y))))) ?_ ?_
  · refine gives_pure (by rfl) ?_
    intro w0 hSw; (try dsimp only at hSw); go_simp; (try with_reducible rfl)
  try simp only [Act.put, List.setIfInBounds_toArray, List.set_cons_zero, List.set_cons_succ]
  refine wpG_step (o := { dst := some 125, op := Op.call { callee := Callee.value (Operand.func 9), args := #[], argTypes := #[] }, type := 4, pos := "law.go:27", after := #[{ on := 32, ground := Ground.chain }, { on := 32, ground := Ground.guard }], guard := some (32, true) }) (v := (bif ((((!p) || (!r)) || s) && (((!v) || (!x)) || y)) then Value.bool (true) else undef)) ?_ ?_
  · refine gives_if (fun hb => ?_) (fun hb => ?_)
    · rcases p with _ | _ <;> rcases r with _ | _ <;> rcases s with _ | _ <;> rcases v with _ | _ <;> rcases x with _ | _ <;> rcases y with _ | _ <;> (first | exact absurd hb (by decide) | (clear hb; refine gives_call (by rfl) ?_; intro w0 hHeld b0 K0 Q0 hK0; have hSw := hHeld; (try dsimp only at hSw); go_simp; refine (awake11 _).mono ?_; rintro e w5 ⟨rfl, b5⟩; exact hK0 _ (by (try dsimp only); first | exact (Three.below hHeld.2 (by assumption)).s | exact A4.out.drew.s | exact A4.out.s)))
    · revert hb; rcases p with _ | _ <;> rcases r with _ | _ <;> rcases s with _ | _ <;> rcases v with _ | _ <;> rcases x with _ | _ <;> rcases y with _ | _ <;> intro hb <;> (first | rfl | exact absurd hb (by decide))
  try simp only [Act.put, List.setIfInBounds_toArray, List.set_cons_zero, List.set_cons_succ]
  refine wpG_step (o := { dst := some 126, op := Op.pick (Operand.tmp 124) (Operand.tmp 125) (Operand.const (Value.bool false)), type := 4, pos := "law.go:27", after := #[{ on := 32, ground := Ground.data }, { on := 33, ground := Ground.data }], guard := none }) (v := (Value.bool (((((!p) || (!r)) || s) && (((!v) || (!x)) || y))))) ?_ ?_
  · rcases p with _ | _ <;> rcases r with _ | _ <;> rcases s with _ | _ <;> rcases v with _ | _ <;> rcases x with _ | _ <;> rcases y with _ | _ <;> (refine gives_pure (by rfl) ?_; intro w0 hSw; first | rfl | ((try dsimp only at hSw); go_simp; (try with_reducible rfl)))
  try simp only [Act.put, List.setIfInBounds_toArray, List.set_cons_zero, List.set_cons_succ]
  refine wpG_step (o := { dst := some 6, op := Op.assign (Operand.tmp 126), type := 4, pos := "law.go:27", after := #[{ on := 34, ground := Ground.data }, { on := 33, ground := Ground.chain }, { on := 0, ground := Ground.phase }, { on := 1, ground := Ground.phase }, { on := 2, ground := Ground.phase }, { on := 3, ground := Ground.phase }, { on := 4, ground := Ground.phase }, { on := 5, ground := Ground.phase }, { on := 6, ground := Ground.phase }, { on := 7, ground := Ground.phase }, { on := 8, ground := Ground.phase }, { on := 9, ground := Ground.phase }, { on := 10, ground := Ground.phase }, { on := 11, ground := Ground.phase }, { on := 12, ground := Ground.phase }, { on := 13, ground := Ground.phase }, { on := 14, ground := Ground.phase }, { on := 15, ground := Ground.phase }, { on := 16, ground := Ground.phase }, { on := 17, ground := Ground.phase }, { on := 18, ground := Ground.phase }, { on := 19, ground := Ground.phase }, { on := 20, ground := Ground.phase }, { on := 21, ground := Ground.phase }, { on := 22, ground := Ground.phase }, { on := 23, ground := Ground.phase }, { on := 24, ground := Ground.phase }, { on := 25, ground := Ground.phase }, { on := 26, ground := Ground.phase }, { on := 27, ground := Ground.phase }, { on := 28, ground := Ground.phase }, { on := 29, ground := Ground.phase }, { on := 30, ground := Ground.phase }, { on := 31, ground := Ground.phase }, { on := 32, ground := Ground.phase }, { on := 33, ground := Ground.phase }, { on := 34, ground := Ground.phase }], guard := none }) (v := (Value.bool (((((!p) || (!r)) || s) && (((!v) || (!x)) || y))))) ?_ ?_
  · refine gives_pure (by rfl) ?_
    intro w0 hSw; (try dsimp only at hSw); go_simp; (try with_reducible rfl)
  try simp only [Act.put, List.setIfInBounds_toArray, List.set_cons_zero, List.set_cons_succ]
  refine wpG_done (fun wz hHeld => ?_)
  rw [show (((((!p) || (!r)) || s) && (((!v) || (!x)) || y))) = true from by (have g1 := F4.out; have g2 := F5.out; revert g1 g2; cases p <;> cases r <;> cases s <;> cases v <;> cases x <;> cases y <;> decide)]
  go_wp2_with fail
  go_ret
  exact ⟨rfl, hHeld.2.bl⟩
end Go.Proofs.Ytnhjpblkenmccaa
