/-
  The contracts of the functions of layer 2.
-/
import Derived.Test.YtlonpmcgejdkkaaDoorOwnR
import Derived.Test.YtlonpmcgejdkkaaDoorOctetPlain
namespace Go.Proofs.YtlonpmcgejdkkaaDoor
open Go.RowKit Oc
theorem isWidth_any (m : Int) (w : World) :
    Calls Tryd.prog 35 #[.int .i64 m] w fun e w' => e = .returned (.bool (decide (1 ≤ m) && decide (m ≤ 6))) ∧ w = w' := by
  go_enter Tryd.func35, Tryd.ntmps35
  go_wp2
  all_goals
    go_ret
    exact ⟨ret_bool (by simp <;> omega), rfl⟩
theorem isWidth_yes (m : Int) (h1 : 1 ≤ m) (h2 : m ≤ 6) (w : World) :
    Calls Tryd.prog 35 #[.int .i64 m] w fun e w' => e = .returned (.bool true) ∧ w = w' :=
  (isWidth_any m w).mono fun e w' ⟨he, hw⟩ => ⟨by rw [he]; simp [h1, h2], hw⟩
theorem isWidth_no (m : Int) (h : m < 1 ∨ 6 < m) (w : World) :
    Calls Tryd.prog 35 #[.int .i64 m] w fun e w' => e = .returned (.bool false) ∧ w = w' :=
  (isWidth_any m w).mono fun e w' ⟨he, hw⟩ => ⟨by rw [he]; simp; omega, hw⟩
theorem info_u8 : (Tryd.prog.info? 5).map (fun i => (i.zero, i.size, i.bytes)) = some (some (.int .u8 0), 1, 1) := by kernel_rfl
theorem byte_at (n m k : Nat) : (n : Int) / 2 ^ (8 * (m - 1 - k)) % 256 = ((UInt8.ofNat (n / 256 ^ (m - 1 - k))).toNat : Int) := by
  rw [show (2 : Int) ^ (8 * (m - 1 - k)) = ((256 ^ (m - 1 - k) : Nat) : Int) by rw [← pow_8]; simp]
  rw [← Int.natCast_ediv]
  simp
set_option maxRecDepth 100000 in
theorem put_yes (s : ByteArray) (n m : Nat) (h1 : 1 ≤ m) (h2 : m ≤ 6) (hn : n < 256 ^ m) (hs : s.size ≤ 70368744177664) (w : World) :
    Calls Tryd.prog 30 #[.string s, .int .i64 n, .int .i64 m] w fun e w' => e = .returned (.tuple #[.string ⟨(s.data.toList ++ be m n).toArray⟩, .int .i64 0]) ∧ Below w.heap.size w w' := by
  have hcv := fun W s => run_bytes_of_string (P := Tryd.prog) W 9 70 5 s Tryd.underlying9 Tryd.underlying70 Tryd.underlying5
  have hz : (n : Int) / 2 ^ (8 * (m : Int)).toNat = 0 := by
    rw [show (8 * (m : Int)).toNat = 8 * m by omega, show (2 : Int) ^ (8 * m) = ((256 ^ m : Nat) : Int) by rw [← pow_8]; simp]
    exact Int.ediv_eq_zero_of_lt (by omega) (by omega)
  obtain ⟨i0, hi, hz0, hz1, hz2⟩ := info_parts info_u8
  have hc1 : s.size ≤ grownCap w s.size 0 5 := grownCap_ge w s.size 0 _
  have hc2 : grownCap w s.size 0 5 ≤ maxLen := grownCap_le_maxLen w s.size 0 _ (by unfold maxLen; omega)
  have hst := Lib.hid (ownR_text w w.heap.size s (grownCap w s.size 0 5) 5 (Nat.le_refl _) hc1 hc2)
  have Hs := Lib.hid hs
  clear hn hs hc1 hc2
  have h0 : decide ((n : Int) < 0) = false := by simp
  have hI := Lib.hid (And.intro hi (And.intro hz0 (And.intro hz1 hz2)))
  clear hi hz0 hz1 hz2
  go_enter Tryd.func30, Tryd.ntmps30
  go_wp2_with fail
  refine (isWidth_yes _ (by omega) (by omega) _).mono ?_; rintro e w' ⟨rfl, rfl⟩
  go_wp2_with fail
  go_loopw [8, 27] (fun o i wr => ∃ k : Nat, k ≤ m ∧ i = .int .i64 k ∧ OwnR wr w.heap.size o (s.size + k) (u8s (s.data.toList ++ (be m n).take k)) ∧ Below w.heap.size w wr) (fun _ i _ => m - (intOf i).toNat)
  case atStart => exact ⟨0, Nat.zero_le _, rfl, by rw [show (s.data.toList ++ (be m n).take 0) = s.data.toList by simp]; exact hst.out, ((Below.refl _ _).alloc (Nat.le_refl _) _).drew⟩
  case round =>
    obtain ⟨k, hk, rfl, hown, hb⟩ := hrel
    clear hcv hst
    by_cases hlt : k < m
    · have hbk := Lib.hid (byte_at n m k)
      go_wp2_with (at_builtin; refine wpList_append_one _ rfl (.tmp 30) (.tmp 39) 70 rfl (hown.move (((Below.refl _ _).alloc (Nat.le_refl _) _))) rfl 5 i0 (.int .u8 0) 1 Tryd.underlying70 hI.out.1 hI.out.2.1 hI.out.2.2.1 hI.out.2.2.2 rfl ⟨wr.heap.size, 0, none⟩ 1 _ rfl ?_ (new1 _ _ _) ?_ ?_ ?_ ?_)
      · rfl
      · have := Hs.out; unfold maxLen; omega
      · have := Hs.out; omega
      · have := hb.size; simp; omega
      · intro v' w1 hown' hb'
        rw [hbk.out] at hown'
        have hsn := Lib.hid (be_snoc m n k hlt)
        clear hown hbk
        go_wp2_with fail
        go_roundw
        case rel => exact ⟨k + 1, by omega, by go_num, by rw [hsn.out, ← List.append_assoc, u8s_snoc]; exact hown', hb.trans (((Below.refl _ wr).alloc hb.size _).trans hb')⟩
        case measure => simp [intOf]; omega
    · have hrt := run_text_of _ hown 70 9 5 Tryd.underlying70 Tryd.underlying5 Tryd.underlying9
      go_wp2_with fail
      go_ret2
      exact ⟨by rw [List.take_of_length_le (by rw [be_length]; omega)]; rfl, hb⟩
theorem pow_big (m : Int) (n : Int) (h1 : 1 ≤ m) (h : (256 : Int) ^ m.toNat ≤ n) : n / 2 ^ (8 * m).toNat ≠ 0 := by
  rw [show (8 * m).toNat = 8 * m.toNat by omega, show (2 : Int) ^ (8 * m.toNat) = (256 : Int) ^ m.toNat by rw [Int.pow_mul]; rfl]
  have hp : (0 : Int) < 256 ^ m.toNat := Int.pow_pos (by decide)
  have := Int.ediv_le_ediv hp h
  rw [Int.ediv_self (by omega)] at this
  omega
set_option maxRecDepth 100000 in
theorem put_no (s : ByteArray) (n m : Int) (h : m < 1 ∨ 6 < m ∨ n < 0 ∨ (256 : Int) ^ m.toNat ≤ n) (w : World) :
    Calls Tryd.prog 30 #[.string s, .int .i64 n, .int .i64 m] w fun e w' => e = .returned (.tuple #[.string ⟨#[]⟩, .int .i64 1]) ∧ w = w' := by
  by_cases hm : m < 1 ∨ 6 < m
  · go_enter Tryd.func30, Tryd.ntmps30
    go_wp2_with fail
    refine (isWidth_no _ hm _).mono ?_; rintro e w' ⟨rfl, rfl⟩
    clear hm h
    go_wp2_with fail
    go_ret2
    exact ⟨rfl, rfl⟩
  · have h1 : 1 ≤ m := by omega
    have h2 : m ≤ 6 := by omega
    by_cases hn : n < 0
    · clear h hm
      go_enter Tryd.func30, Tryd.ntmps30
      go_wp2_with fail
      refine (isWidth_yes _ h1 h2 _).mono ?_; rintro e w' ⟨rfl, rfl⟩
      go_wp2_with fail
      go_ret2
      exact ⟨rfl, rfl⟩
    · have hz := pow_big m n h1 (by omega)
      have hz2 : (n / 2 ^ (8 * m).toNat != 0) = true := by rw [bne_iff_ne]; exact hz
      have h0 : 0 ≤ n := by omega
      clear h hm hn hz
      go_enter Tryd.func30, Tryd.ntmps30
      go_wp2_with fail
      refine (isWidth_yes _ h1 h2 _).mono ?_; rintro e w' ⟨rfl, rfl⟩
      go_wp2_with fail
      go_ret2
      exact ⟨rfl, rfl⟩
/-- What Put hands back. -/
def putS (s : ByteArray) (n m : Int) : ByteArray := if fits n m then ⟨(s.data.toList ++ be m.toNat n.toNat).toArray⟩ else ⟨#[]⟩
def putE (n m : Int) : Int := if fits n m then 0 else 1
theorem put_any (s : ByteArray) (n m : Int) (hs : s.size ≤ 70368744177664) (w : World) :
    Calls Tryd.prog 30 #[.string s, .int .i64 n, .int .i64 m] w fun e w' => e = .returned (.tuple #[.string (putS s n m), .int .i64 (putE n m)]) ∧ Below w.heap.size w w' := by
  by_cases hf : fits n m = true
  · have hf' := hf
    simp only [fits, Bool.and_eq_true, decide_eq_true_eq] at hf'
    obtain ⟨⟨⟨h1, h2⟩, h3⟩, h4⟩ := hf'
    obtain ⟨n', rfl⟩ := Int.eq_ofNat_of_zero_le h3
    obtain ⟨m', rfl⟩ := Int.eq_ofNat_of_zero_le (show 0 ≤ m by omega)
    refine (put_yes s n' m' (by omega) (by omega) ?_ hs w).mono fun e w' ⟨he, hb⟩ => ⟨?_, hb⟩
    · rw [Int.toNat_natCast] at h4
      have : ((256 ^ m' : Nat) : Int) = (256 : Int) ^ m' := by simp
      omega
    · rw [he, putS, putE, if_pos hf, if_pos hf]
      rfl
  · refine (put_no s n m ?_ w).mono fun e w' ⟨he, hb⟩ => ⟨?_, ?_⟩
    · simp only [fits, Bool.and_eq_true, decide_eq_true_eq] at hf
      omega
    · rw [he, putS, putE, if_neg hf, if_neg hf]
    · subst hb; exact Below.refl _ _
end Go.Proofs.YtlonpmcgejdkkaaDoor
