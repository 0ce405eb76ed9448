/-
  The contracts of the functions of layer 21.
-/
import Derived.Test.YtbfimnlffjkokaaBound
import Derived.Test.YtbfimnlffjkokaaSm
import Derived.Test.YtbfimnlffjkokaaTabPlain
namespace Go.Proofs.Ytbfimnlffjkokaa
open Go.RowKit Bd Tb
/-- Block g is a table. -/
def Tbl (w : World) (g : Nat) (made : Bool) (ttl : Int) (ns : Nat → Nt) : Prop :=
  ∃ cs, Bk w g 50 cs ∧ cs.size = 42 ∧ cs[0]? = some (.bool made) ∧ cs[1]? = some (.int .i64 ttl) ∧ ∀ i j, i < 8 → j < 5 → cs[2 + i * 5 + j]? = some (nv i (ns i) j)
theorem put5 {α : Type} (cs : Array α) (m : Nat) (v0 v1 v2 v3 v4 : α) (hm : m + 5 ≤ cs.size) (i : Nat) :
    (((((cs.setIfInBounds m v0).setIfInBounds (m + 1) v1).setIfInBounds (m + 2) v2).setIfInBounds (m + 3) v3).setIfInBounds (m + 4) v4)[i]? =
      if i < m then cs[i]? else if i = m then some v0 else if i = m + 1 then some v1 else if i = m + 2 then some v2 else if i = m + 3 then some v3 else if i = m + 4 then some v4 else cs[i]? := by
  simp only [Array.getElem?_setIfInBounds, Array.size_setIfInBounds]
  repeat' split
  all_goals first | rfl | omega | skip
section
variable {w w' : World} {g : Nat} {made : Bool} {ttl : Int} {ns : Nat → Nt}
theorem Tbl.c0 (h : Tbl w g made ttl ns) : w.cell? ⟨g, 0, none⟩ = some (.bool made) := by
  obtain ⟨cs, hb, _, h0, _⟩ := h; exact (hb.cell 0).trans h0
theorem Tbl.c1 (h : Tbl w g made ttl ns) : w.cell? ⟨g, 1, none⟩ = some (.int .i64 ttl) := by
  obtain ⟨cs, hb, _, _, h1, _⟩ := h; exact (hb.cell 1).trans h1
theorem Tbl.cn (h : Tbl w g made ttl ns) (i j : Nat) (hi : i < 8) (hj : j < 5) : w.cell? ⟨g, 2 + i * 5 + j, none⟩ = some (nv i (ns i) j) := by
  obtain ⟨cs, hb, _, _, _, h2⟩ := h; exact (hb.cell _).trans (h2 i j hi hj)
theorem Tbl.cz (h : Tbl w g made ttl ns) (i : Nat) (hi : i < 8) : w.cell? ⟨g, 2 + i * 5, none⟩ = some (nv i (ns i) 0) := h.cn i 0 hi (by decide)
theorem Tbl.fz (h : Tbl w g made ttl ns) (o : Nat) : w.frozen? ⟨g, o, none⟩ = false := by
  obtain ⟨cs, hb, _⟩ := h; exact hb.frozen o
theorem Tbl.lt (h : Tbl w g made ttl ns) : g < w.heap.size := by
  obtain ⟨cs, hb, _⟩ := h; exact hb.lt
theorem Tbl.below (h : Tbl w g made ttl ns) (k : Below w.heap.size w w') : Tbl w' g made ttl ns := by
  obtain ⟨cs, hb, hr⟩ := h; exact ⟨cs, hb.below k, hr⟩
theorem Tbl.ac (h : Tbl w g made ttl ns) (i : Nat) (hi : i < 8) : ∀ o, (w.alloc o).cell? ⟨g, 2 + i * 5, none⟩ = some (nv i (ns i) 0) ∧ (w.alloc o).cell? ⟨g, 2 + i * 5 + 1, none⟩ = some (nv i (ns i) 1) ∧ (w.alloc o).cell? ⟨g, 2 + i * 5 + 2, none⟩ = some (nv i (ns i) 2) ∧ (w.alloc o).cell? ⟨g, 2 + i * 5 + 3, none⟩ = some (nv i (ns i) 3) ∧ (w.alloc o).cell? ⟨g, 2 + i * 5 + 4, none⟩ = some (nv i (ns i) 4) := fun o =>
  have h' := h.below ((Below.refl _ w).alloc (Nat.le_refl _) o)
  ⟨h'.cz i hi, h'.cn i 1 hi (by decide), h'.cn i 2 hi (by decide), h'.cn i 3 hi (by decide), h'.cn i 4 hi (by decide)⟩
theorem Tbl.drew (h : Tbl w g made ttl ns) : Tbl w.drew g made ttl ns := h
theorem Tbl.grown (h : Tbl w g made ttl ns) {r : Option Nat} (k : w.grownBy w' r) (hr : some g ≠ r) : Tbl w' g made ttl ns := by
  obtain ⟨cs, hb, hq⟩ := h; exact ⟨cs, hb.grown k hr, hq⟩
theorem Tbl.put (h : Tbl w g made ttl ns) (k : Nat) (hk : k < 8) (t e a : Int) :
    Tbl (((((w.setCell ⟨g, 2 + k * 5, none⟩ (.bool true)).setCell ⟨g, 2 + k * 5 + 1, none⟩ (.int .i64 k)).setCell ⟨g, 2 + k * 5 + 2, none⟩ (.int .i64 t)).setCell ⟨g, 2 + k * 5 + 3, none⟩ (.int .i64 e)).setCell ⟨g, 2 + k * 5 + 4, none⟩ (.int .i64 a))
      g made ttl (upd ns k (some (t, e, a))) := by
  obtain ⟨cs, hb, hs, h0, h1, h2⟩ := h
  refine ⟨_, ((((hb.set_ _ _).set_ _ _).set_ _ _).set_ _ _).set_ _ _, by simpa using hs, ?_, ?_, fun i j hi hj => ?_⟩
  · rw [put5 _ _ _ _ _ _ _ (by omega), if_pos (by omega)]; exact h0
  · rw [put5 _ _ _ _ _ _ _ (by omega), if_pos (by omega)]; exact h1
  · rw [put5 _ _ _ _ _ _ _ (by omega)]
    by_cases hik : i = k
    · subst hik
      rw [upd_same]
      obtain rfl | rfl | rfl | rfl | rfl : j = 0 ∨ j = 1 ∨ j = 2 ∨ j = 3 ∨ j = 4 := by omega
      all_goals (simp [nv] <;> omega)
    · rw [upd_other _ _ _ hik]
      rw [← h2 i j hi hj]
      repeat' split
      all_goals first | rfl | omega
end
theorem passes_any (l t : Int) (w : World) :
    Calls Try.prog 23 #[.int .i64 l, .int .i64 t] w fun e w' => e = .returned (.bool (decide (0 ≤ l) && decide (l < t))) ∧ w = w' := by
  by_cases h : 0 ≤ l
  · have E := Lib.hid (show decide (l < t) = (decide (0 ≤ l) && decide (l < t)) by simp [h])
    go_enter Try.func23, Try.ntmps23
    go_wp2
    go_ret
    exact ⟨ret_bool E.out, rfl⟩
  · have E := Lib.hid (show false = (decide (0 ≤ l) && decide (l < t)) by simp [h])
    have h' : decide (0 ≤ l) = false := by simpa using h
    go_enter Try.func23, Try.ntmps23
    go_wp2
    go_ret
    exact ⟨rfl, rfl⟩
theorem tnone_nil (w : World) : Calls Try.prog 19 #[.pointer none] w fun e w' => e = .returned (.bool true) ∧ w = w' := by
  go_enter Try.func19, Try.ntmps19
  go_wp2
  go_ret
  exact ⟨rfl, rfl⟩
theorem tnone_any {g : Nat} {made : Bool} (w : World) (h : w.cell? ⟨g, 0, none⟩ = some (.bool made)) :
    Calls Try.prog 19 #[.pointer (some ⟨g, 0, none⟩)] w fun e w' => e = .returned (.bool (!made)) ∧ w = w' := by
  go_enter Try.func19, Try.ntmps19
  go_wp2
  go_ret
  exact ⟨rfl, rfl⟩

set_option maxHeartbeats 1000000 in
theorem tlearn_new {g : Nat} {ttl : Int} {ns : Nat → Nt} (k : Nat) (hk : k < 8) (th ep now : Int) (w : World) (h : Tbl w g true ttl ns) (hn : ns k = none) :
    Calls Try.prog 9 #[.pointer (some ⟨g, 0, none⟩), .int .i64 k, .int .i64 th, .int .i64 ep, .int .i64 now] w fun e w' => e = .returned (.bool true) ∧ Tbl w' g true ttl (upd ns k (some (th, ep, kp now tMost))) ∧ w.grownBy w' (some g) := by
  have H := Lib.hid h
  have hc0 := h.c0
  clear h
  have hk0 := dlt_f (a := (k : Int)) (b := 0) (by omega)
  have hk8 := dle_f (a := 8) (b := (k : Int)) (by omega)
  go_enter Try.func9, Try.ntmps9
  go_wp2_with fail
  refine (tnone_any _ hc0).mono ?_; rintro e w' ⟨rfl, rfl⟩
  go_wp2_with fail
  refine (keep_any _ tMost _).mono ?_; rintro e w1 ⟨rfl, b1⟩
  have H1 := Lib.hid (H.out.below b1)
  have c0 := H1.out.ac k hk
  rw [hn] at c0
  simp only [nv] at c0
  have B1 := Lib.hid b1
  clear b1 hc0
  go_wp2_with fail
  generalize hW : (World.alloc (World.alloc w1 _) _) = W
  have A := Lib.hid (show Tbl W g true ttl ns by rw [← hW]; exact (H1.out.below ((Below.refl _ w1).alloc (Nat.le_refl _) _)).below ((Below.refl _ _).alloc (Nat.le_refl _) _))
  have T := Lib.hid (show Bk W w1.heap.size 47 #[.bool true, .int .i64 k, .int .i64 th, .int .i64 ep, .int .i64 (kp now tMost)] by rw [← hW]; exact Bk.below (Bk.new w1 _ _) ((Below.refl _ _).alloc (Nat.le_refl _) _))
  have B2 := Lib.hid (show Below w.heap.size w W by rw [← hW]; exact (B1.out.alloc B1.out.size _).alloc (by have := B1.out.size; simp; omega) _)
  clear hW H1 c0 B1
  have c0 := A.out.cz k hk
  have c1 := A.out.cn k 1 hk (by decide)
  have c2 := A.out.cn k 2 hk (by decide)
  have c3 := A.out.cn k 3 hk (by decide)
  have c4 := A.out.cn k 4 hk (by decide)
  have f0 := A.out.fz (2 + k * 5)
  have f1 := A.out.fz (2 + k * 5 + 1)
  have f2 := A.out.fz (2 + k * 5 + 2)
  have f3 := A.out.fz (2 + k * 5 + 3)
  have f4 := A.out.fz (2 + k * 5 + 4)
  have t0 := T.out.cell 0
  have t1 := T.out.cell 1
  have t2 := T.out.cell 2
  have t3 := T.out.cell 3
  have t4 := T.out.cell 4
  go_region
  all_goals
    go_wp2_with fail
    go_ret
    exact ⟨rfl, (A.out.put k hk _ _ _).drew, only_drew (only_set' (only_set' (only_set' (only_set' (only_set' (only_below B2.out _) _ _) _ _) _ _) _ _) _ _)⟩
set_option maxHeartbeats 1000000 in
theorem tlearn_old {g : Nat} {ttl : Int} {ns : Nat → Nt} (k : Nat) (hk : k < 8) (th ep now t0 e0 a0 : Int) (he : ep < e0) (w : World) (h : Tbl w g true ttl ns) (hn : ns k = some (t0, e0, a0)) :
    Calls Try.prog 9 #[.pointer (some ⟨g, 0, none⟩), .int .i64 k, .int .i64 th, .int .i64 ep, .int .i64 now] w fun e w' => e = .returned (.bool false) ∧ Below w.heap.size w w' := by
  have H := Lib.hid h
  have hc0 := h.c0
  clear h
  have hk0 := dlt_f (a := (k : Int)) (b := 0) (by omega)
  have hk8 := dle_f (a := 8) (b := (k : Int)) (by omega)
  go_enter Try.func9, Try.ntmps9
  go_wp2_with fail
  refine (tnone_any _ hc0).mono ?_; rintro e w' ⟨rfl, rfl⟩
  go_wp2_with fail
  refine (keep_any _ tMost _).mono ?_; rintro e w1 ⟨rfl, b1⟩
  have H1 := Lib.hid (H.out.below b1)
  have c0 := H1.out.ac k hk
  rw [hn] at c0
  simp only [nv] at c0
  have B1 := Lib.hid b1
  clear b1 hc0
  go_wp2_with fail
  go_ret
  exact ⟨rfl, (B1.out.alloc B1.out.size _).alloc (by have := B1.out.size; simp; omega) _⟩
set_option maxHeartbeats 1000000 in
theorem tlearn_same {g : Nat} {ttl : Int} {ns : Nat → Nt} (k : Nat) (hk : k < 8) (th ep now t0 a0 : Int) (w : World) (h : Tbl w g true ttl ns) (hn : ns k = some (t0, ep, a0)) :
    Calls Try.prog 9 #[.pointer (some ⟨g, 0, none⟩), .int .i64 k, .int .i64 th, .int .i64 ep, .int .i64 now] w fun e w' => e = .returned (.bool true) ∧ Tbl w' g true ttl (upd ns k (some (t0, ep, kp now tMost))) ∧ w.grownBy w' (some g) := by
  have H := Lib.hid h
  have hc0 := h.c0
  clear h
  have hk0 := dlt_f (a := (k : Int)) (b := 0) (by omega)
  have hk8 := dle_f (a := 8) (b := (k : Int)) (by omega)
  go_enter Try.func9, Try.ntmps9
  go_wp2_with fail
  refine (tnone_any _ hc0).mono ?_; rintro e w' ⟨rfl, rfl⟩
  go_wp2_with fail
  refine (keep_any _ tMost _).mono ?_; rintro e w1 ⟨rfl, b1⟩
  have H1 := Lib.hid (H.out.below b1)
  have c0 := H1.out.ac k hk
  rw [hn] at c0
  simp only [nv] at c0
  have B1 := Lib.hid b1
  clear b1 hc0
  go_wp2_with fail
  generalize hW : (World.alloc (World.alloc w1 _) _) = W
  have A := Lib.hid (show Tbl W g true ttl ns by rw [← hW]; exact (H1.out.below ((Below.refl _ w1).alloc (Nat.le_refl _) _)).below ((Below.refl _ _).alloc (Nat.le_refl _) _))
  have T := Lib.hid (show Bk W w1.heap.size 47 #[.bool true, .int .i64 k, .int .i64 t0, .int .i64 ep, .int .i64 (kp now tMost)] by rw [← hW]; exact Bk.below (Bk.new w1 _ _) ((Below.refl _ _).alloc (Nat.le_refl _) _))
  have B2 := Lib.hid (show Below w.heap.size w W by rw [← hW]; exact (B1.out.alloc B1.out.size _).alloc (by have := B1.out.size; simp; omega) _)
  clear hW H1 c0 B1
  have c0 := A.out.cz k hk
  have c1 := A.out.cn k 1 hk (by decide)
  have c2 := A.out.cn k 2 hk (by decide)
  have c3 := A.out.cn k 3 hk (by decide)
  have c4 := A.out.cn k 4 hk (by decide)
  have f0 := A.out.fz (2 + k * 5)
  have f1 := A.out.fz (2 + k * 5 + 1)
  have f2 := A.out.fz (2 + k * 5 + 2)
  have f3 := A.out.fz (2 + k * 5 + 3)
  have f4 := A.out.fz (2 + k * 5 + 4)
  have t0 := T.out.cell 0
  have t1 := T.out.cell 1
  have t2 := T.out.cell 2
  have t3 := T.out.cell 3
  have t4 := T.out.cell 4
  go_region
  all_goals
    go_wp2_with fail
    go_ret
    exact ⟨rfl, (A.out.put k hk _ _ _).drew, only_drew (only_set' (only_set' (only_set' (only_set' (only_set' (only_below B2.out _) _ _) _ _) _ _) _ _) _ _)⟩
set_option maxHeartbeats 1000000 in
theorem tlearn_up {g : Nat} {ttl : Int} {ns : Nat → Nt} (k : Nat) (hk : k < 8) (th ep now t0 e0 a0 : Int) (he : e0 < ep) (w : World) (h : Tbl w g true ttl ns) (hn : ns k = some (t0, e0, a0)) :
    Calls Try.prog 9 #[.pointer (some ⟨g, 0, none⟩), .int .i64 k, .int .i64 th, .int .i64 ep, .int .i64 now] w fun e w' => e = .returned (.bool true) ∧ Tbl w' g true ttl (upd ns k (some (th, ep, kp now tMost))) ∧ w.grownBy w' (some g) := by
  have hne := deq_f (a := e0) (b := ep) (by omega)
  have H := Lib.hid h
  have hc0 := h.c0
  clear h
  have hk0 := dlt_f (a := (k : Int)) (b := 0) (by omega)
  have hk8 := dle_f (a := 8) (b := (k : Int)) (by omega)
  go_enter Try.func9, Try.ntmps9
  go_wp2_with fail
  refine (tnone_any _ hc0).mono ?_; rintro e w' ⟨rfl, rfl⟩
  go_wp2_with fail
  refine (keep_any _ tMost _).mono ?_; rintro e w1 ⟨rfl, b1⟩
  have H1 := Lib.hid (H.out.below b1)
  have c0 := H1.out.ac k hk
  rw [hn] at c0
  simp only [nv] at c0
  have B1 := Lib.hid b1
  clear b1 hc0
  go_wp2_with fail
  generalize hW : (World.alloc (World.alloc w1 _) _) = W
  have A := Lib.hid (show Tbl W g true ttl ns by rw [← hW]; exact (H1.out.below ((Below.refl _ w1).alloc (Nat.le_refl _) _)).below ((Below.refl _ _).alloc (Nat.le_refl _) _))
  have T := Lib.hid (show Bk W w1.heap.size 47 #[.bool true, .int .i64 k, .int .i64 th, .int .i64 ep, .int .i64 (kp now tMost)] by rw [← hW]; exact Bk.below (Bk.new w1 _ _) ((Below.refl _ _).alloc (Nat.le_refl _) _))
  have B2 := Lib.hid (show Below w.heap.size w W by rw [← hW]; exact (B1.out.alloc B1.out.size _).alloc (by have := B1.out.size; simp; omega) _)
  clear hW H1 c0 B1
  have c0 := A.out.cz k hk
  have c1 := A.out.cn k 1 hk (by decide)
  have c2 := A.out.cn k 2 hk (by decide)
  have c3 := A.out.cn k 3 hk (by decide)
  have c4 := A.out.cn k 4 hk (by decide)
  have f0 := A.out.fz (2 + k * 5)
  have f1 := A.out.fz (2 + k * 5 + 1)
  have f2 := A.out.fz (2 + k * 5 + 2)
  have f3 := A.out.fz (2 + k * 5 + 3)
  have f4 := A.out.fz (2 + k * 5 + 4)
  have t0 := T.out.cell 0
  have t1 := T.out.cell 1
  have t2 := T.out.cell 2
  have t3 := T.out.cell 3
  have t4 := T.out.cell 4
  go_region
  all_goals
    go_wp2_with fail
    go_ret
    exact ⟨rfl, (A.out.put k hk _ _ _).drew, only_drew (only_set' (only_set' (only_set' (only_set' (only_set' (only_below B2.out _) _ _) _ _) _ _) _ _) _ _)⟩
end Go.Proofs.Ytbfimnlffjkokaa
