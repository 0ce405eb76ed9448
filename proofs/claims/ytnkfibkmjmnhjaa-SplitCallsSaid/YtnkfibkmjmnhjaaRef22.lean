/-
  The contracts of the plain answers of layer 22.
-/
import Derived.Test.YtnkfibkmjmnhjaaSplit
import Derived.Test.YtnkfibkmjmnhjaaRef01
namespace Go.Proofs.Ytnkfibkmjmnhjaa
open Go.RowKit Bd Sp
theorem rpart22_any (l v : Int) (w : World) :
    Calls Try.prog 9 #[.int .i64 l, .int .i64 v] w fun e w' => e = .returned (.int .i64 (partP l v)) ∧ w = w' := by
  have h1 := (prod8 l v).1
  have h2 := (prod8 l v).2.1
  go_enter Try.func9, Try.ntmps9
  go_wp2_with fail
  refine (rtick_any _ _).mono ?_; rintro e w' ⟨rfl, rfl⟩
  go_wp2_with fail
  refine (rkeep_any _ 8 _).mono ?_; rintro e w' ⟨rfl, rfl⟩
  go_wp2_with fail
  go_ret
  exact ⟨rfl, rfl⟩
theorem rhop_any (p m : Int) (w : World) :
    Calls Try.prog 11 #[.int .i64 p, .int .i64 m] w fun e w' => e = .returned (.int .i64 (hopH p m)) ∧ w = w' := by
  have h1 := (kt p).1
  have h2 := (kt p).2
  have H := Lib.hid (show hopH p m = if kp m 65535 < kp p tMost / 2 then kp m 65535 else kp p tMost / 2 from rfl)
  go_enter Try.func11, Try.ntmps11
  go_wp2_with fail
  refine (rtick_any _ _).mono ?_; rintro e w' ⟨rfl, rfl⟩
  go_wp2_with fail
  refine (rkeep_any _ 65535 _).mono ?_; rintro e w' ⟨rfl, rfl⟩
  go_wp2_with fail
  all_goals
    go_ret
    exact ⟨ret_int (by rw [H.out]; (repeat' split) <;> omega), rfl⟩
theorem rcall_any (now dl v m : Int) (w : World) :
    Calls Try.prog 7 #[.int .i64 now, .int .i64 dl, .int .i64 v, .int .i64 m] w fun e w' => e = .returned (.tuple #[.int .i64 (callD now dl v m), .int .i64 (callW now dl v m), .bool (callOk now dl v m)]) ∧ w = w' := by
  cases hok : callOk now dl v m with
  | true =>
    have E1 := Lib.hid (show callD now dl v m = laterT now (partP (leftT dl now) v) from if_pos hok)
    have E2 := Lib.hid (show callW now dl v m = hopH (partP (leftT dl now) v) m from if_pos hok)
    have h : 1 ≤ hopH (partP (leftT dl now) v) m := by simpa [callOk] using hok
    clear hok
    go_enter Try.func7, Try.ntmps7
    go_wp2_with fail
    refine (rleft_any _ _ _).mono ?_; rintro e w' ⟨rfl, rfl⟩
    go_wp2_with fail
    refine (rpart22_any _ _ _).mono ?_; rintro e w' ⟨rfl, rfl⟩
    go_wp2_with fail
    refine (rhop_any _ _ _).mono ?_; rintro e w' ⟨rfl, rfl⟩
    go_wp2_with fail
    refine (rlater_any _ _ _).mono ?_; rintro e w' ⟨rfl, rfl⟩
    go_wp2_with fail
    go_ret3
    exact ⟨by rw [E1.out, E2.out]; rfl, rfl⟩
  | false =>
    have E1 := Lib.hid (call_no now dl v m hok).1
    have E2 := Lib.hid (call_no now dl v m hok).2
    have h : ¬ 1 ≤ hopH (partP (leftT dl now) v) m := by simpa [callOk] using hok
    clear hok
    go_enter Try.func7, Try.ntmps7
    go_wp2_with fail
    refine (rleft_any _ _ _).mono ?_; rintro e w' ⟨rfl, rfl⟩
    go_wp2_with fail
    refine (rpart22_any _ _ _).mono ?_; rintro e w' ⟨rfl, rfl⟩
    go_wp2_with fail
    refine (rhop_any _ _ _).mono ?_; rintro e w' ⟨rfl, rfl⟩
    go_wp2_with fail
    go_ret3
    exact ⟨by rw [E1.out, E2.out]; rfl, rfl⟩
theorem rchain_any (now dl : Int) (a : Option Addr) (cap : Nat) (ws : List Int) (w : World) (hz : Ints w .i64 a ws) (hl : ws.length ≤ 60) :
    Calls Try.prog 17 #[.int .i64 now, .int .i64 dl, .slice a ws.length cap] w (RetInts w (chainL now dl ws)) := by
  obtain ⟨i0, hi, hz0, hz1, hz2⟩ := info_parts info_int
  have hI := Lib.hid (And.intro hi (And.intro hz0 (And.intro hz1 hz2)))
  have HZ := Lib.hid hz
  clear hi hz0 hz1 hz2 hz
  go_enter Try.func17, Try.ntmps17
  go_wp2_with fail
  go_loopw [1, 7, 8] (fun d o i wr => ∃ (k : Nat) (dl' : Int) (pre : List Int), k ≤ ws.length ∧ i = .int .i64 k ∧ d = .int .i64 dl' ∧ pre.length ≤ k ∧ wr.ownsRow w.heap.size 3 1 o pre.length (pre.map (Value.int .i64)) ∧ pre ++ chainL now dl' (ws.drop k) = chainL now dl ws ∧ Below w.heap.size w wr) (fun _ _ i _ => ws.length - (intOf i).toNat)
  case atStart => exact ⟨0, dl, [], Nat.zero_le _, rfl, rfl, Nat.le_refl _, World.ownsRow_nil _ _ _ _, rfl, Below.refl _ _⟩
  case round =>
    obtain ⟨k, dl', pre, hk, rfl, rfl, hpl, hown, hpre, hb⟩ := hrel
    have HO := Lib.hid hown
    have HP := Lib.hid hpre
    have HB := Lib.hid hb
    clear hown hpre hb
    by_cases hlt : k < ws.length
    · obtain ⟨b, off, ha, hc⟩ := (HZ.out.below HB.out).get hlt
      subst ha
      have hst := Lib.hid (chainL_step now dl' ws k hlt)
      generalize ws[k] = v at *
      cases hok : callOk now dl' v 65535 with
      | true =>
        have hcall := rcall_any now dl' v 65535
        rw [hok] at hcall
        have hst2 := Lib.hid (show chainL now dl' (ws.drop k) = callD now dl' v 65535 :: chainL now (callD now dl' v 65535) (ws.drop (k + 1)) by rw [hst.out, hok]; rfl)
        have HC := Lib.hid hcall
        clear hcall hok
        go_wp2_with fail
        refine (HC.out _).mono ?_; rintro e w' ⟨rfl, rfl⟩
        generalize callD now dl' v 65535 = d at *
        go_wp2_with (at_builtin; refine wpList_append_own _ rfl _ _ 30 rfl w.heap.size 3 i0 (.int .i64 0) 1 8 Try.underlying30 hI.out.1 hI.out.2.1 hI.out.2.2.1 hI.out.2.2.2 rfl (by decide) _ _ _ rfl (HO.out.alloc _) ⟨wr.heap.size, 0, none⟩ 1 1 [.int .i64 d] rfl rfl (news_one (newc _ _ _)) (one_cell rfl) ?_ ?_ ?_ ?_)
        · unfold maxLen; omega
        · omega
        · have := HB.out.size; simp; omega
        intro v' w2 hown' hgr _
        have HB2 := Lib.hid (own_below HB.out HO.out _ hgr HB.out.size)
        have hown2 := Lib.hid hown'
        clear hown' hgr hc
        go_wp2_with fail
        go_roundw
        case rel => exact ⟨k + 1, d, pre ++ [d], by omega, by go_num, rfl, by simp; omega, by rw [map_snoc, List.length_append]; exact hown2.out, by rw [List.append_assoc, ← HP.out, hst2.out]; rfl, HB2.out⟩
        case measure => simp [intOf]; omega
      | false =>
        have hcall := rcall_any now dl' v 65535
        rw [hok] at hcall
        have hst2 := Lib.hid (show chainL now dl' (ws.drop k) = [] by rw [hst.out, hok]; rfl)
        have HC := Lib.hid hcall
        clear hcall hok
        go_wp2_with fail
        refine (HC.out _).mono ?_; rintro e w' ⟨rfl, rfl⟩
        go_wp2_with fail
        go_ret
        have e : pre = chainL now dl ws := by rw [← HP.out, hst2.out, List.append_nil]
        rw [← e]
        exact ret_ints HO.out HB.out
    · go_wp2_with fail
      go_ret
      have e : pre = chainL now dl ws := by rw [← HP.out, List.drop_of_length_le (by omega)]; simp [chainL]
      rw [← e]
      exact ret_ints HO.out HB.out
end Go.Proofs.Ytnkfibkmjmnhjaa
