/-
  The contracts of the cursor of layer 2.
-/
import Derived.Test.YtlonpmcgejdkkaaDoorOctet
namespace Go.Proofs.YtlonpmcgejdkkaaDoor
open Go.RowKit Oc
/-- A cursor at block g has r left. -/
def Cur (w : World) (g : Nat) (r : ByteArray) : Prop := Bk w g 92 #[.string r] ∧ r.size ≤ maxLen
theorem Cur.cell {w : World} {g : Nat} {r : ByteArray} (h : Cur w g r) : w.cell? ⟨g, 0, none⟩ = some (.string r) := h.1.cell 0
theorem Cur.frozen {w : World} {g : Nat} {r : ByteArray} (h : Cur w g r) : w.frozen? ⟨g, 0, none⟩ = false := h.1.frozen 0
theorem Cur.below {w w' : World} {g : Nat} {r : ByteArray} (h : Cur w g r) (hb : Below w.heap.size w w') : Cur w' g r := ⟨h.1.below hb, h.2⟩
theorem Cur.set_ {w : World} {g : Nat} {r : ByteArray} (h : Cur w g r) (r' : ByteArray) (hr : r'.size ≤ maxLen) : Cur (w.setCell ⟨g, 0, none⟩ (.string r')) g r' := ⟨h.1.set_ 0 _, hr⟩
theorem Cur.other {w w' : World} {g g' : Nat} {r : ByteArray} (h : Cur w g r) (hg : w.grownBy w' (some g')) (hne : g ≠ g') : Cur w' g r := ⟨h.1.grown hg (by simpa using hne), h.2⟩
theorem size_ex (r : ByteArray) (a b : Nat) (h : b ≤ r.size) : (r.extract a b).size = b - a := by
  rw [ByteArray.size_extract]; omega
theorem read_any (s : ByteArray) (hs : s.size ≤ maxLen) (w : World) :
    Calls Tryd.prog 21 #[.string s] w fun e w' => e = .returned (.pointer (some ⟨w.heap.size, 0, none⟩)) ∧ Cur w' w.heap.size s ∧ Below w.heap.size w w' := by
  have Hs := Lib.hid hs
  clear hs
  go_enter Tryd.func21, Tryd.ntmps21
  go_wp2
  go_ret
  exact ⟨rfl, ⟨Bk.new _ _ _, Hs.out⟩, (Below.refl _ _).alloc (Nat.le_refl _) _⟩
theorem rest_any {g : Nat} {r : ByteArray} (w : World) (h : Cur w g r) :
    Calls Tryd.prog 37 #[.pointer (some ⟨g, 0, none⟩)] w fun e w' => e = .returned (.string r) ∧ w = w' := by
  have hc := h.cell
  clear h
  go_enter Tryd.func37, Tryd.ntmps37
  go_wp2
  go_ret
  exact ⟨rfl, rfl⟩
theorem left_c {g : Nat} {r : ByteArray} (w : World) (h : Cur w g r) :
    Calls Tryd.prog 23 #[.pointer (some ⟨g, 0, none⟩)] w fun e w' => e = .returned (.int .i64 r.size) ∧ w = w' := by
  have H := Lib.hid h
  clear h
  go_enter Tryd.func23, Tryd.ntmps23
  go_wp2_with fail
  refine (rest_any _ H.out).mono ?_; rintro e w' ⟨rfl, rfl⟩
  go_wp2_with fail
  go_ret
  exact ⟨rfl, rfl⟩
theorem rest_nil (w : World) :
    Calls Tryd.prog 37 #[.pointer none] w fun e w' => e = .returned (.string ⟨#[]⟩) ∧ w = w' := by
  go_enter Tryd.func37, Tryd.ntmps37
  go_wp2
  go_ret
  exact ⟨rfl, rfl⟩
theorem left_nil (w : World) :
    Calls Tryd.prog 23 #[.pointer none] w fun e w' => e = .returned (.int .i64 0) ∧ w = w' := by
  go_enter Tryd.func23, Tryd.ntmps23
  go_wp2_with fail
  refine (rest_nil _).mono ?_; rintro e w' ⟨rfl, rfl⟩
  go_wp2_with fail
  go_ret
  exact ⟨rfl, rfl⟩
theorem bytes_any {g : Nat} {r : ByteArray} (n : Int) (w : World) (h : Cur w g r) :
    Calls Tryd.prog 36 #[.pointer (some ⟨g, 0, none⟩), .int .i64 n] w fun e w' => e = .returned (.tuple #[.string (bytesS r n), .int .i64 (bytesE r n)]) ∧ Cur w' g (bytesR r n) ∧ w.grownBy w' (some g) := by
  have hs := h.2
  unfold maxLen at hs
  have H := Lib.hid h
  by_cases h1 : n < 0
  · have hin : inR r n = false := by simp [inR]; omega
    have E1 := Lib.hid (show bytesS r n = ⟨#[]⟩ by rw [bytesS, hin]; rfl)
    have E2 := Lib.hid (show bytesE r n = 1 by rw [bytesE, if_pos h1])
    have E3 := Lib.hid (show bytesR r n = r by rw [bytesR, hin]; rfl)
    clear h hin
    go_enter Tryd.func36, Tryd.ntmps36
    go_wp2_with fail
    go_ret2
    exact ⟨by rw [E1.out, E2.out]; rfl, by rw [E3.out]; exact H.out, only_below (Below.refl _ _) _⟩
  · by_cases h2 : (r.size : Int) < n
    · have hin : inR r n = false := by simp [inR]; omega
      have E1 := Lib.hid (show bytesS r n = ⟨#[]⟩ by rw [bytesS, hin]; rfl)
      have E2 := Lib.hid (show bytesE r n = 3 by rw [bytesE, if_neg h1, if_pos h2])
      have E3 := Lib.hid (show bytesR r n = r by rw [bytesR, hin]; rfl)
      clear h hin
      go_enter Tryd.func36, Tryd.ntmps36
      go_wp2_with fail
      refine (left_c _ H.out).mono ?_; rintro e w' ⟨rfl, rfl⟩
      go_wp2_with fail
      go_ret2
      exact ⟨by rw [E1.out, E2.out]; rfl, by rw [E3.out]; exact H.out, only_below (Below.refl _ _) _⟩
    · obtain ⟨k, rfl⟩ := Int.eq_ofNat_of_zero_le (show 0 ≤ n by omega)
      have hin : inR r k = true := by simp [inR]; omega
      have E1 := Lib.hid (show bytesS r k = r.extract 0 k by rw [bytesS, hin]; rfl)
      have E2 := Lib.hid (show bytesE r k = 0 by rw [bytesE, if_neg h1, if_neg h2])
      have E3 := Lib.hid (show bytesR r k = r.extract k r.size by rw [bytesR, hin]; rfl)
      have hk : k ≤ r.size := by omega
      by_cases h0 : k = 0
      · subst h0
        clear h hin h1
        go_enter Tryd.func36, Tryd.ntmps36
        go_wp2_with fail
        refine (left_c _ H.out).mono ?_; rintro e w' ⟨rfl, rfl⟩
        go_wp2_with fail
        go_ret2
        exact ⟨by rw [E1.out, E2.out, extract_none]; rfl, by rw [E3.out, extract_all]; exact H.out, only_below (Below.refl _ _) _⟩
      · have hc := h.cell
        have hf := h.frozen
        have hk0 : ((k : Int) == 0) = false := by simp; omega
        have hk1 : decide ((k : Int) < 0) = false := by simp
        clear h hin h1 h0
        go_enter Tryd.func36, Tryd.ntmps36
        go_wp2_with fail
        refine (left_c _ H.out).mono ?_; rintro e w' ⟨rfl, rfl⟩
        go_wp2_with fail
        go_ret2
        exact ⟨by rw [E1.out, E2.out]; rfl, by rw [E3.out]; exact H.out.set_ _ (by rw [size_ex _ _ _ (Nat.le_refl _)]; unfold maxLen; omega), only_set _ _ _ _⟩
theorem or_step (q : Nat) (b : UInt8) (hq : q < 281474976710656) : bits BinOp.or IntKind.i64 (wrap64 ((q : Int) * 256)) (wrap64 (b.toNat : Int)) = ((256 * q + b.toNat : Nat) : Int) := by
  have hb := b.toNat_lt
  rw [IntWalk.wrap64_in _ ⟨by omega, by omega⟩, IntWalk.wrap64_in _ ⟨by omega, by omega⟩]
  rw [bits_join IntKind.i64 63 (by decide) (fun n h0 h1 => by rw [IntKind.wrap_i64]; omega) 8 _ _ (by omega) (by omega) (by omega) (by omega) (by omega) (Int.lt_of_lt_of_le (b := 256) (by omega) (by decide))]
  omega
theorem bytes_nil (n : Int) (h : 0 < n) (w : World) :
    Calls Tryd.prog 36 #[.pointer none, .int .i64 n] w fun e w' => e = .returned (.tuple #[.string ⟨#[]⟩, .int .i64 3]) ∧ w = w' := by
  go_enter Tryd.func36, Tryd.ntmps36
  go_wp2_with fail
  refine (left_nil _).mono ?_; rintro e w' ⟨rfl, rfl⟩
  go_wp2_with fail
  go_ret2
  exact ⟨rfl, rfl⟩
theorem take_nil (n : Int) (h1 : 1 ≤ n) (h2 : n ≤ 6) (w : World) :
    Calls Tryd.prog 22 #[.pointer none, .int .i64 n] w fun e w' => e = .returned (.tuple #[.int .i64 0, .int .i64 3]) ∧ w = w' := by
  go_enter Tryd.func22, Tryd.ntmps22
  go_wp2_with fail
  refine (isWidth_yes _ h1 h2 _).mono ?_; rintro e w' ⟨rfl, rfl⟩
  go_wp2_with fail
  refine (bytes_nil n (by omega) _).mono ?_; rintro e w' ⟨rfl, rfl⟩
  go_wp2_with fail
  go_ret2
  exact ⟨rfl, rfl⟩
theorem take_any {g : Nat} {r : ByteArray} (n : Int) (w : World) (h : Cur w g r) :
    Calls Tryd.prog 22 #[.pointer (some ⟨g, 0, none⟩), .int .i64 n] w fun e w' => e = .returned (.tuple #[.int .i64 (takeN r n), .int .i64 (takeE r n)]) ∧ Cur w' g (takeR r n) ∧ w.grownBy w' (some g) := by
  have H := Lib.hid h
  by_cases h1 : n < 1 ∨ 6 < n
  · have hin : inT r n = false := by simp [inT]; omega
    have E1 := Lib.hid (show takeN r n = 0 by rw [takeN, hin]; rfl)
    have E2 := Lib.hid (show takeE r n = 1 by rw [takeE, if_pos h1])
    have E3 := Lib.hid (show takeR r n = r by rw [takeR, hin]; rfl)
    clear h hin
    go_enter Tryd.func22, Tryd.ntmps22
    go_wp2_with fail
    refine (isWidth_no _ h1 _).mono ?_; rintro e w' ⟨rfl, rfl⟩
    clear h1
    go_wp2_with fail
    go_ret2
    exact ⟨by rw [E1.out, E2.out]; rfl, by rw [E3.out]; exact H.out, only_below (Below.refl _ _) _⟩
  · have h2 : 1 ≤ n := by omega
    have h3 : n ≤ 6 := by omega
    obtain ⟨m, rfl⟩ := Int.eq_ofNat_of_zero_le (show 0 ≤ n by omega)
    by_cases h4 : (r.size : Int) < m
    · have hin : inT r m = false := by simp [inT]; omega
      have E1 := Lib.hid (show takeN r m = 0 by rw [takeN, hin]; rfl)
      have E2 := Lib.hid (show takeE r m = 3 by rw [takeE, if_neg h1, if_pos h4])
      have E3 := Lib.hid (show takeR r m = r by rw [takeR, hin]; rfl)
      have F1 := Lib.hid (show bytesE r m = 3 by rw [bytesE, if_neg (by omega), if_pos h4])
      have F2 := Lib.hid (show bytesR r m = r by rw [bytesR, show inR r m = false by simp [inR]; omega]; rfl)
      clear h hin h1
      go_enter Tryd.func22, Tryd.ntmps22
      go_wp2_with fail
      refine (isWidth_yes _ h2 h3 _).mono ?_; rintro e w' ⟨rfl, rfl⟩
      go_wp2_with fail
      refine (bytes_any m _ H.out).mono ?_; rintro e w' ⟨rfl, hcur, hon⟩
      rw [F1.out]
      rw [F2.out] at hcur
      go_wp2_with fail
      go_ret2
      exact ⟨by rw [E1.out, E2.out]; rfl, by rw [E3.out]; exact hcur, hon⟩
    · have hin : inT r m = true := by simp [inT]; omega
      have E1 := Lib.hid (show takeN r m = num (r.extract 0 m).data.toList by rw [takeN, hin]; rfl)
      have E2 := Lib.hid (show takeE r m = 0 by rw [takeE, if_neg h1, if_neg h4])
      have E3 := Lib.hid (show takeR r m = r.extract m r.size by rw [takeR, hin]; rfl)
      have F1 := Lib.hid (show bytesE r m = 0 by rw [bytesE, if_neg (by omega), if_neg h4])
      have F3 := Lib.hid (show bytesS r m = r.extract 0 m by rw [bytesS, show inR r m = true by simp [inR]; omega]; rfl)
      have F2 := Lib.hid (show bytesR r m = r.extract m r.size by rw [bytesR, show inR r m = true by simp [inR]; omega]; rfl)
      have hsz : (r.extract 0 m).size = m := by rw [size_ex _ _ _ (by omega)]; omega
      have hs6 : m ≤ 6 := by omega
      have hm1 : 1 ≤ m := by omega
      clear h hin h1
      go_enter Tryd.func22, Tryd.ntmps22
      go_wp2_with fail
      refine (isWidth_yes _ h2 h3 _).mono ?_; rintro e w' ⟨rfl, rfl⟩
      go_wp2_with fail
      refine (bytes_any m _ H.out).mono ?_; rintro e w' ⟨rfl, hcur, hon⟩
      rw [F1.out, F3.out]
      rw [F2.out] at hcur
      generalize r.extract 0 m = d at *
      have Hsz := Lib.hid hsz
      have hsd : m ≤ d.size := by omega
      have hsd2 : d.data.toList.length = d.size := by simp
      have Hsd2 := Lib.hid hsd2
      have Hcur := Lib.hid hcur
      have Hon := Lib.hid hon
      clear hsz hsd2 hcur hon
      go_wp2_with fail
      go_loop [8, 23] (fun x i => ∃ k : Nat, k ≤ m ∧ i = .int .i64 k ∧ x = .int .i64 (num (d.data.toList.take k))) (fun _ i => m - (intOf i).toNat)
      case atStart => exact ⟨0, Nat.zero_le _, rfl, rfl⟩
      case round =>
        obtain ⟨k, hk, rfl, rfl⟩ := hrel
        have hb := num_take_lt d.data.toList k (by omega)
        by_cases hlt : k < m
        · have hs := Lib.hid (num_take d.data.toList k (by rw [Hsd2.out]; omega))
          generalize num (d.data.toList.take k) = q at *
          have hkd : k < d.size := by omega
          have hor := Lib.hid (or_step q d[k] hb)
          clear hb
          go_wp2_with fail
          go_round
          case rel => exact ⟨k + 1, by omega, by go_num, by rw [hor.out, hs.out]; simp; rfl⟩
          case measure => simp [intOf]; omega
        · have hkm := Lib.hid (show d.data.toList.take k = d.data.toList from List.take_of_length_le (by rw [Hsd2.out, Hsz.out]; omega))
          clear hb
          go_wp2_with fail
          go_ret2
          exact ⟨by rw [E1.out, E2.out]; simp only [hkm.out]; rfl, by rw [E3.out]; exact Hcur.out, Hon.out⟩
end Go.Proofs.YtlonpmcgejdkkaaDoor
