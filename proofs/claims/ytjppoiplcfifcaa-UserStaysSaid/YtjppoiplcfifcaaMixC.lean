/-
  The contracts of the classes of layer 4, and the walks of MixPairs and MixBack.
-/
import Derived.Test.YtjppoiplcfifcaaMixB
import Derived.Laws.MakeOwn
import Derived.IntWalk
namespace Go.Proofs.Ytjppoiplcfifcaa
open Go.RowKit Mx
theorem info_int : (Try.prog.info? 3).map (fun i => (i.zero, i.size, i.bytes)) = some (some (.int .i64 0), 1, 8) := by kernel_rfl
def cls (k x y : Nat) (n : Int) : Int := if n < 1 then 0 else ((pr k x y).1 : Int) % n
theorem cls_b (k x y : Nat) (n : Int) : 0 ≤ cls k x y n ∧ (1 ≤ n → cls k x y n < n) ∧ (n < 1 → cls k x y n = 0) := by
  unfold cls
  split
  · exact ⟨by omega, fun h => by omega, fun _ => rfl⟩
  · exact ⟨Int.emod_nonneg _ (by omega), fun _ => Int.emod_lt_of_pos _ (by omega), fun h => by omega⟩
theorem pr_in (k x y : Nat) (hi : In (x, y)) : In (pr k x y) := fw_in k 8 (x, y) hi
theorem rp_in (k x y : Nat) (hi : In (x, y)) : In (rp k x y) := bw_in k 8 (x, y) hi
theorem wn (n : Int) (h0 : 0 ≤ n) (h1 : n ≤ 9223372036854775807) : IntKind.u64.wrap n = n := by rw [IntKind.wrap_u64]; omega
set_option maxHeartbeats 1000000 in
theorem class_any (k x y : Nat) (n : Int) (w : World) (hi : In (x, y)) (hk : k < M) (hn : n ≤ 9223372036854775807) :
    Calls Try.prog 19 #[.int .u64 k, .int .u64 x, .int .u64 y, .int .i64 n] w fun e w' => e = .returned (.int .i64 (cls k x y n)) ∧ Below w.heap.size w w' := by
  have HP := Lib.hid (pr_in k x y hi)
  by_cases hn1 : n < 1
  · have H := Lib.hid ((cls_b k x y n).2.2 hn1)
    go_enter Try.func19, Try.ntmps19
    go_wp2_with fail
    go_ret
    exact ⟨ret_int H.out.symm, Below.refl _ _⟩
  · have hn2 : 1 ≤ n := by omega
    have hw := wn n (by omega) hn
    have hz : (n == 0) = false := by simp; omega
    have H := Lib.hid (show cls k x y n = ((pr k x y).1 : Int) % n from if_neg hn1)
    have HC := Lib.hid (cls_b k x y n)
    clear hn1
    go_enter Try.func19, Try.ntmps19
    go_wp2_with fail
    refine (of_any k x y _ hi hk).mono ?_; rintro e w1 ⟨rfl, b1⟩
    have hp : ((pr k x y).1 : Int) ≤ 18446744073709551615 := by have := HP.out.1; unfold M at this; omega
    go_wp2_with fail
    go_ret
    have hc := HC.out
    rw [H.out] at hc
    exact ⟨ret_int (by rw [H.out]; exact IntWalk.wrap64_in _ ⟨by omega, by have := hc.2.1 hn2; omega⟩), b1⟩
theorem rof_any (k x y : Nat) (w : World) (hi : In (x, y)) (hk : k < M) :
    Calls Try.prog 25 #[.int .u64 k, .int .u64 x, .int .u64 y] w fun e w' => e = .returned (.int .u64 (pr k x y).1) ∧ w = w' := by
  go_enter Try.func25, Try.ntmps25
  go_wp2_with fail
  refine (rpair_any k x y _ hi hk).mono ?_; rintro e w1 ⟨rfl, rfl⟩
  go_wp2_with fail
  go_ret
  exact ⟨rfl, rfl⟩
set_option maxHeartbeats 1000000 in
theorem rclass_any (k x y : Nat) (n : Int) (w : World) (hi : In (x, y)) (hk : k < M) (hn : n ≤ 9223372036854775807) :
    Calls Try.prog 22 #[.int .u64 k, .int .u64 x, .int .u64 y, .int .i64 n] w fun e w' => e = .returned (.int .i64 (cls k x y n)) ∧ w = w' := by
  have HP := Lib.hid (pr_in k x y hi)
  by_cases hn1 : n < 1
  · have H := Lib.hid ((cls_b k x y n).2.2 hn1)
    go_enter Try.func22, Try.ntmps22
    go_wp2_with fail
    go_ret
    exact ⟨ret_int H.out.symm, rfl⟩
  · have hn2 : 1 ≤ n := by omega
    have hw := wn n (by omega) hn
    have hz : (n == 0) = false := by simp; omega
    have H := Lib.hid (show cls k x y n = ((pr k x y).1 : Int) % n from if_neg hn1)
    have HC := Lib.hid (cls_b k x y n)
    clear hn1
    go_enter Try.func22, Try.ntmps22
    go_wp2_with fail
    refine (rof_any k x y _ hi hk).mono ?_; rintro e w1 ⟨rfl, rfl⟩
    have hp : ((pr k x y).1 : Int) ≤ 18446744073709551615 := by have := HP.out.1; unfold M at this; omega
    go_wp2_with fail
    go_ret
    have hc := HC.out
    rw [H.out] at hc
    exact ⟨ret_int (by rw [H.out]; exact IntWalk.wrap64_in _ ⟨by omega, by have := hc.2.1 hn2; omega⟩), rfl⟩
/-- The classes of numbers, one behind the other. -/
def clsL (k x : Nat) (n : Int) (zs : List Int) : List Int := zs.map fun z => cls k x z.toNat n
theorem clsL_snoc (k x : Nat) (n : Int) (zs : List Int) (j : Nat) (h : j < zs.length) : clsL k x n (zs.take (j + 1)) = clsL k x n (zs.take j) ++ [cls k x zs[j].toNat n] := by
  unfold clsL
  rw [List.take_succ_eq_append_getElem h, List.map_append]; rfl
theorem clsL_len (k x : Nat) (n : Int) (zs : List Int) (j : Nat) (h : j ≤ zs.length) : (clsL k x n (zs.take j)).length = j := by
  unfold clsL; rw [List.length_map, List.length_take]; omega
/-- A slice of ints in memory that is new. -/
def RetNew (w : World) (xs : List Int) (e : Ending) (w' : World) : Prop :=
  ∃ a cap, e = .returned (.slice a xs.length cap) ∧ Ints w' .i64 a xs ∧ Below w.heap.size w w' ∧ ∀ b off, a = some ⟨b, off, none⟩ → w.heap.size ≤ b
theorem ret_new {w w' : World} {e : TypeId} {v : Value} {xs : List Int} (h : w'.ownsRow w.heap.size e 1 v xs.length (xs.map (Value.int .i64))) (hb : Below w.heap.size w w') : RetNew w xs (.returned v) w' := by
  have lt := h.lt
  obtain ⟨a, cap, rfl, hr⟩ := own_row h
  exact ⟨a, cap, rfl, hr, hb, fun b off e => by subst e; exact (lt b rfl).1⟩
set_option maxHeartbeats 1000000 in
theorem all_new (k x : Nat) (n : Int) (ad : Option Addr) (cap : Nat) (zs : List Int) (w : World) (hz : Ints w .u64 ad zs) (hl : zs.length ≤ 100) (hwf : ∀ z ∈ zs, 0 ≤ z ∧ z < 18446744073709551616) (hx : x < M) (hk : k < M) (hn : n ≤ 9223372036854775807) :
    Calls Try.prog 20 #[.int .u64 k, .int .u64 x, .int .i64 n, .slice ad zs.length cap] w (RetNew w (clsL k x n zs)) := by
  obtain ⟨i0, hi, hz0, hz1, hz2⟩ := info_parts info_int
  obtain ⟨w0, hmk, hown0, hg0⟩ := run_make_own (P := Try.prog) w w.heap.size 33 3 i0 (.int .i64 0) 1 Try.underlying33 hi hz0 hz1 .i64 .i64 zs.length (by rw [hz2]; omega) (by unfold maxLen; omega) (Nat.le_refl _)
  have hI := Lib.hid (And.intro hi (And.intro hz0 (And.intro hz1 hz2)))
  have HZ := Lib.hid hz
  have HW := Lib.hid hwf
  have B0 := Lib.hid ((Below.refl w.heap.size w).grown hg0 (Nat.le_refl _) (fun i h => by cases h))
  have O0 := Lib.hid hown0
  clear hi hz0 hz1 hz2 hz hwf hown0 hg0
  go_enter Try.func20, Try.ntmps20
  go_wp2_with fail
  go_loopw [9, 17] (fun v i wr => ∃ j : Nat, j ≤ zs.length ∧ i = .int .i64 j ∧ wr.ownsRow w.heap.size 3 1 v j ((clsL k x n (zs.take j)).map (Value.int .i64)) ∧ Below w.heap.size w wr) (fun _ i _ => zs.length - (intOf i).toNat)
  case atStart => exact ⟨0, Nat.zero_le _, rfl, O0.out, B0.out⟩
  case round =>
    obtain ⟨j, hj, rfl, hown, hb⟩ := hrel
    have HO := Lib.hid hown
    have HB := Lib.hid hb
    clear hown hb
    by_cases hlt : j < zs.length
    · obtain ⟨b, off, ha, hc⟩ := (HZ.out.below HB.out).get hlt
      subst ha
      have hzj := HW.out zs[j] (List.getElem_mem _)
      have hs := Lib.hid (clsL_snoc k x n zs j hlt)
      generalize zs[j] = z at *
      obtain ⟨y, rfl⟩ : ∃ y : Nat, z = (y : Int) := ⟨z.toNat, by omega⟩
      have hy : y < M := by unfold M; omega
      rw [Int.toNat_natCast] at hs
      clear hzj
      go_wp2_with fail
      refine (class_any k x y n _ ⟨hx, hy⟩ hk hn).mono ?_; rintro e w1 ⟨rfl, b1⟩
      have HB1 := Lib.hid (HB.out.trans (b1.mono HB.out.size))
      have HO1 := Lib.hid (own_move HO.out b1)
      clear b1
      generalize cls k x y n = c at *
      go_wp2_with (at_builtin; refine wpList_append_own _ rfl _ _ 33 rfl w.heap.size 3 i0 (.int .i64 0) 1 8 Try.underlying33 hI.out.1 hI.out.2.1 hI.out.2.2.1 hI.out.2.2.2 rfl (by decide) _ _ _ rfl (HO1.out.alloc _) ⟨w1.heap.size, 0, none⟩ 1 1 [.int .i64 c] rfl rfl (news_one (newc _ _ _)) (one_cell rfl) ?_ ?_ ?_ ?_)
      · unfold maxLen; omega
      · omega
      · have := HB1.out.size; simp; omega
      intro v' w2 hown' hgr _
      have HB2 := Lib.hid (own_below HB1.out HO1.out _ hgr HB1.out.size)
      have hown2 := Lib.hid hown'
      clear hown' hgr hc
      go_wp2_with fail
      go_roundw
      case rel => exact ⟨j + 1, by omega, by go_num, by rw [hs.out, map_snoc]; exact hown2.out, HB2.out⟩
      case measure => simp [intOf]; omega
    · obtain rfl : j = zs.length := by omega
      go_wp2_with fail
      go_ret
      have h := HO.out
      rw [List.take_of_length_le (Nat.le_refl _)] at h
      have hlen : (clsL k x n zs).length = zs.length := by unfold clsL; simp
      rw [← hlen] at h
      exact ret_new h HB.out
theorem all_any (k x : Nat) (n : Int) (ad : Option Addr) (cap : Nat) (zs : List Int) (w : World) (hz : Ints w .u64 ad zs) (hl : zs.length ≤ 100) (hwf : ∀ z ∈ zs, 0 ≤ z ∧ z < 18446744073709551616) (hx : x < M) (hk : k < M) (hn : n ≤ 9223372036854775807) :
    Calls Try.prog 20 #[.int .u64 k, .int .u64 x, .int .i64 n, .slice ad zs.length cap] w (RetInts w (clsL k x n zs)) :=
  (all_new k x n ad cap zs w hz hl hwf hx hk hn).mono fun _ _ ⟨a, cap, h1, h2, h3, _⟩ => ⟨a, cap, h1, h2, h3⟩
theorem nums04 : ((pr 7 0 0).1 ≠ 0 ∨ (pr 7 0 0).2 ≠ 0) ∧ ((0 : Nat) < M ∧ (0 : Nat) < M) ∧ (7 : Nat) < M := by decide +kernel
theorem pair04 (w : World) :
    Calls Try.prog 27 #[.int .u64 7, .int .u64 0, .int .u64 0] w fun e w' => e = .returned (.tuple #[.int .u64 (pr 7 0 0).1, .int .u64 (pr 7 0 0).2]) ∧ Below w.heap.size w w' := pair_any 7 0 0 w nums04.2.1 nums04.2.2
theorem rpair04 (w : World) :
    Calls Try.prog 28 #[.int .u64 7, .int .u64 0, .int .u64 0] w fun e w' => e = .returned (.tuple #[.int .u64 (pr 7 0 0).1, .int .u64 (pr 7 0 0).2]) ∧ w = w' := rpair_any 7 0 0 w nums04.2.1 nums04.2.2
theorem all04 (ad : Option Addr) (w : World) (h : Ints w .u64 ad [2, 3]) :
    Calls Try.prog 20 #[.int .u64 7, .int .u64 1, .int .i64 5, .slice ad 2 2] w (RetInts w (clsL 7 1 5 [2, 3])) := all_any 7 1 5 ad 2 [2, 3] w h (by decide) (by decide) (by decide) (by decide) (by decide)
end Go.Proofs.Ytjppoiplcfifcaa
