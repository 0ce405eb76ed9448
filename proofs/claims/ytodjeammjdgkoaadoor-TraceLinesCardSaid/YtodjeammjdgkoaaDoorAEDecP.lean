/-
  Texts' numbers: by the library's contracts.
-/
import Derived.Test.YtodjeammjdgkoaaDoorAEDec
namespace Go.Proofs.YtodjeammjdgkoaaDoor
open Go.RowKit
theorem bytes_below (w : World) (e : TypeId) (t : ByteArray) : Below w.heap.size w (Lib.bytesWorld w e t) :=
  ⟨rfl, rfl, rfl, by rw [Lib.bytesWorld_size]; omega, fun j hj => Lib.bytesWorld_at_old w e t j hj⟩
theorem lst_beq (l : List UInt8) (s : ByteArray) : (l == s.toList) = decide (l = s.data.toList) := by
  rw [Bool.eq_iff_iff, beq_iff_eq, decide_eq_true_eq, ByteArray.toList_eq]
theorem dparse_ok (s : ByteArray) (hmax : s.size ≤ 281474976710656) (v : Int) (h : Lib.atoiAll s.data.toList = .ok v) (w : World) (hT : Lib.TabIs Tryd.prog w "internal/strconv.uint64pow10" .u64 Lib.pow10Tab) (hB : 2 < w.heap.size)
    (x y : Int) (hx : Lib.itoa v = s.data.toList → x = v ∧ y = 0) (hy : ¬ Lib.itoa v = s.data.toList → x = 0 ∧ y = 2) :
    Calls Tryd.prog 48 #[.string s] w fun e w' => e = .returned (.tuple #[.int .i64 x, .int .i64 y]) ∧ Below w.heap.size w w' := by
  obtain ⟨b0, b1⟩ := Lib.atoiAll_bounds h
  have hA : ∀ w1 : World, (w1 = w ∨ ∃ t, w1 = Lib.bytesWorld w 5 t) → Below w.heap.size w w1 := fun w1 hw => by
    rcases hw with rfl | ⟨t, rfl⟩
    · exact Below.refl _ _
    · exact bytes_below w _ t
  have hC : ∀ w1 : World, Below w.heap.size w w1 → Calls Tryd.prog 26 #[.int .i64 v] w1 fun e w' => e = .returned (.string ⟨(Lib.itoa v).toArray⟩) ∧ Below w.heap.size w w' := fun w1 hb =>
    (dtext v b0 b1 w1 (tab_below (by kernel_rfl) hT hb hB)).mono fun e w' ⟨he, hb'⟩ => ⟨he, hb.trans (hb'.mono hb.size)⟩
  have hX := Lib.hid hx
  have hY := Lib.hid hy
  clear hx hy
  go_enter Tryd.func48, Tryd.ntmps48
  go_wp2_with (first
    | (go_at_call 54; refine (Tryd.strconv_Atoi_ok s (by omega) v h _).mono ?_; rintro e w1 ⟨rfl, hw⟩; have hw1 := hA _ hw; clear hw)
    | (go_at_call 26; refine (hC _ hw1).mono ?_; rintro e w2 ⟨rfl, hw2⟩))
  · rename_i hne
    rw [lst_beq] at hne
    have hn : ¬ Lib.itoa v = s.data.toList := by simpa using hne
    obtain ⟨rfl, rfl⟩ := hY.out hn
    go_ret2
    exact ⟨rfl, hw2⟩
  · rename_i hne
    rw [lst_beq] at hne
    have hn : Lib.itoa v = s.data.toList := by simpa using hne
    obtain ⟨rfl, rfl⟩ := hX.out hn
    go_ret2
    exact ⟨rfl, hw2⟩
/-- A text that is no number's. -/
theorem dparse_no (s : ByteArray) (w : World) (n : Int)
    (hA : Calls Tryd.prog 54 #[.string s] w fun e w' => ∃ N t, e = .returned (.tuple #[.int .i64 n, .iface t (.pointer (some ⟨N, 0, none⟩))]) ∧ Below w.heap.size w w') :
    Calls Tryd.prog 48 #[.string s] w fun e w' => e = .returned (.tuple #[.int .i64 0, .int .i64 2]) ∧ Below w.heap.size w w' := by
  go_enter Tryd.func48, Tryd.ntmps48
  go_wp2_with (first
    | (go_at_call 54; refine hA.mono ?_; rintro e w1 ⟨N, t, rfl, hw1⟩)
    | fail)
  go_ret2
  exact ⟨rfl, hw1⟩
end Go.Proofs.YtodjeammjdgkoaaDoor
