/-
  Layer 33: what the calls of tables, of what was told, and of a call's share answer.
-/
import Derived.RowKit3
import Derived.Test.YtahahflpackiiaaMem
import Derived.Test.YtahahflpackiiaaSm
import Derived.Deep.RegionHeld3
import Derived.IntWalk
import Derived.Test.YtahahflpackiiaaBks
import Derived.Test.YtahahflpackiiaaY1
namespace Go.Proofs.Ytahahflpackiiaa
namespace Bd
/-- A number, kept from 0 to a most. -/
def kp (n m : Int) : Int := if n < 0 ∨ m < 0 then 0 else if m < n then m else n
def tMost : Int := 1099511627776
theorem kp_lo (n m : Int) : 0 ≤ kp n m := by unfold kp; split <;> (try split) <;> omega
theorem kp_hi (n m : Int) (h : 0 ≤ m) : kp n m ≤ m := by unfold kp; split <;> (try split) <;> omega
theorem kp_id (n m : Int) (h : 0 ≤ n) (h2 : n ≤ m) : kp n m = n := by unfold kp; split <;> (try split) <;> omega
theorem kp_neg (n m : Int) (h : n ≤ 0) : kp n m = 0 := by unfold kp; split <;> (try split) <;> omega
theorem kp_mono (a b m : Int) (h : a ≤ b) : kp a m ≤ kp b m := by unfold kp; repeat' split <;> omega
theorem kt (n : Int) : 0 ≤ kp n tMost ∧ kp n tMost ≤ 1099511627776 := ⟨kp_lo _ _, kp_hi _ _ (by decide)⟩
def laterT (a b : Int) : Int := kp (kp a tMost + kp b tMost) tMost
def leftT (a b : Int) : Int := kp (kp a tMost - kp b tMost) tMost
theorem leftT_b (a b : Int) : 0 ≤ leftT a b ∧ leftT a b ≤ 1099511627776 := kt _
end Bd
end Go.Proofs.Ytahahflpackiiaa
namespace Go.Proofs.Ytahahflpackiiaa
open Go.RowKit Bd
theorem clamp1_any (n m : Int) (a : Addr) (w : World) (hc : w.cell? a = some (.int .i64 m)) :
    Calls Try.prog 44 #[.int .i64 n, .pointer (some a)] w fun e w' => e = .returned (.int .i64 (kp n m)) ∧ w = w' := by
  go_enter Try.func44, Try.ntmps44
  go_wp2
  all_goals
    go_ret
    exact ⟨ret_int (by unfold kp; (repeat' split at *) <;> omega), rfl⟩

theorem clamp_any (m : Int) (w : World) :
    Calls Try.prog 41 #[.int .i64 m] w fun e w' => e = .returned (.func (.func 44) #[] #[.pointer (some ⟨w.heap.size, 0, none⟩)]) ∧ w.alloc (.cells #[.int .i64 m] 3) = w' := by
  have hmf := mf_any
  go_enter Try.func41, Try.ntmps41
  go_wp2
  go_ret
  exact ⟨rfl, rfl⟩

theorem keep_any (n m : Int) (w : World) :
    Calls Try.prog 28 #[.int .i64 n, .int .i64 m] w fun e w' => e = .returned (.int .i64 (kp n m)) ∧ Below w.heap.size w w' := by
  have hmf := mf_any
  go_enter Try.func28, Try.ntmps28
  go_wp2_with (first | (go_at_call 44; refine (clamp1_any _ m _ _ (by go_simp)).mono ?_; rintro e w' ⟨rfl, rfl⟩) | go_in)
  go_ret
  exact ⟨rfl, (Below.refl _ _).alloc (Nat.le_refl _) _⟩

theorem doLater_any (a b : Int) (h1 : -1099511627776 ≤ a + b) (h2 : a + b ≤ 4611686014132420609) (w : World) :
    Calls Try.prog 43 #[.int .i64 a, .int .i64 b] w fun e w' => e = .returned (.int .i64 (a + b)) ∧ w = w' := by
  go_enter Try.func43, Try.ntmps43
  go_wp2
  go_ret
  exact ⟨rfl, rfl⟩
theorem doLeft_any (a b : Int) (h1 : -1099511627776 ≤ a - b) (h2 : a - b ≤ 4611686014132420609) (w : World) :
    Calls Try.prog 40 #[.int .i64 a, .int .i64 b] w fun e w' => e = .returned (.int .i64 (a - b)) ∧ w = w' := by
  go_enter Try.func40, Try.ntmps40
  go_wp2
  go_ret
  exact ⟨rfl, rfl⟩
theorem pairLater_any (a b : Int) (w : World) :
    Calls Try.prog 39 #[.int .i64 1099511627776, .int .i64 a, .int .i64 b, .func (.func 43) #[] #[]] w fun e w' => e = .returned (.int .i64 (laterT a b)) ∧ Below w.heap.size w w' := by
  have h1 := (kt a).1
  have h2 := (kt a).2
  have h3 := (kt b).1
  have h4 := (kt b).2
  go_enter Try.func39, Try.ntmps39
  go_wp2_with (first | (go_at_call 41; refine (clamp_any _ _).mono ?_; rintro e w' ⟨rfl, rfl⟩) | (go_at_call 44; refine (clamp1_any _ tMost _ _ (by go_simp; rfl)).mono ?_; rintro e w' ⟨rfl, rfl⟩) | (go_at_call 43; refine (doLater_any _ _ (by omega) (by omega) _).mono ?_; rintro e w' ⟨rfl, rfl⟩))
  go_ret
  exact ⟨rfl, (Below.refl _ _).alloc (Nat.le_refl _) _⟩
theorem later_any (a b : Int) (w : World) :
    Calls Try.prog 33 #[.int .i64 a, .int .i64 b] w fun e w' => e = .returned (.int .i64 (laterT a b)) ∧ Below w.heap.size w w' := by
  go_enter Try.func33, Try.ntmps33
  go_wp2_with (go_at_call 39; refine (pairLater_any _ _ _).mono ?_; rintro e w' ⟨rfl, hb⟩)
  go_ret
  exact ⟨rfl, hb⟩
theorem pairLeft_any (a b : Int) (w : World) :
    Calls Try.prog 39 #[.int .i64 1099511627776, .int .i64 a, .int .i64 b, .func (.func 40) #[] #[]] w fun e w' => e = .returned (.int .i64 (leftT a b)) ∧ Below w.heap.size w w' := by
  have h1 := (kt a).1
  have h2 := (kt a).2
  have h3 := (kt b).1
  have h4 := (kt b).2
  go_enter Try.func39, Try.ntmps39
  go_wp2_with (first | (go_at_call 41; refine (clamp_any _ _).mono ?_; rintro e w' ⟨rfl, rfl⟩) | (go_at_call 44; refine (clamp1_any _ tMost _ _ (by go_simp; rfl)).mono ?_; rintro e w' ⟨rfl, rfl⟩) | (go_at_call 40; refine (doLeft_any _ _ (by omega) (by omega) _).mono ?_; rintro e w' ⟨rfl, rfl⟩))
  go_ret
  exact ⟨rfl, (Below.refl _ _).alloc (Nat.le_refl _) _⟩
theorem left_any (a b : Int) (w : World) :
    Calls Try.prog 26 #[.int .i64 a, .int .i64 b] w fun e w' => e = .returned (.int .i64 (leftT a b)) ∧ Below w.heap.size w w' := by
  go_enter Try.func26, Try.ntmps26
  go_wp2_with (go_at_call 39; refine (pairLeft_any _ _ _).mono ?_; rintro e w' ⟨rfl, hb⟩)
  go_ret
  exact ⟨rfl, hb⟩



end Go.Proofs.Ytahahflpackiiaa
namespace Go.Proofs.Ytahahflpackiiaa
namespace Tb
open Bd
/-- What is known of one: threshold, epoch, tick. -/
abbrev Nt := Option (Int × Int × Int)
/-- The cells of a note. -/
def nv (i : Nat) : Nt → Nat → Value
  | none, 0 => .bool false
  | none, _ => .int .i64 0
  | some _, 0 => .bool true
  | some _, 1 => .int .i64 i
  | some (t, _, _), 2 => .int .i64 t
  | some (_, e, _), 3 => .int .i64 e
  | some (_, _, a), _ => .int .i64 a
def upd (ns : Nat → Nt) (k : Nat) (x : Nt) : Nat → Nt := fun i => if i = k then x else ns i
theorem upd_same (ns : Nat → Nt) (k : Nat) (x : Nt) : upd ns k x k = x := if_pos rfl
theorem upd_other (ns : Nat → Nt) (k : Nat) (x : Nt) {i : Nat} (h : i ≠ k) : upd ns k x i = ns i := if_neg h
def lrn (n : Nt) (th ep now : Int) : Nt :=
  match n with
  | none => some (th, ep, kp now tMost)
  | some (t0, e0, a0) => if ep < e0 then some (t0, e0, a0) else if e0 = ep then some (t0, ep, kp now tMost) else some (th, ep, kp now tMost)
def lok (n : Nt) (ep : Int) : Bool :=
  match n with
  | none => true
  | some (_, e0, _) => decide (e0 ≤ ep)
def kv (i : Nat) : Nt → Bool → Array Value
  | some (t, e, a), true => #[.int .i64 i, .int .i64 t, .int .i64 e, .int .i64 a]
  | _, _ => #[.int .i64 0, .int .i64 0, .int .i64 0, .int .i64 0]
end Tb
end Go.Proofs.Ytahahflpackiiaa
namespace Go.Proofs.Ytahahflpackiiaa
open Go.RowKit Bd Tb
/-- Block g is a table. -/
def Tbl (w : World) (g : Nat) (made : Bool) (ttl : Int) (ns : Nat → Nt) : Prop :=
  ∃ cs, Bk w g 73 cs ∧ cs.size = 42 ∧ cs[0]? = some (.bool made) ∧ cs[1]? = some (.int .i64 ttl) ∧ ∀ i j, i < 8 → j < 5 → cs[2 + i * 5 + j]? = some (nv i (ns i) j)
theorem put5 {α : Type} (cs : Array α) (m : Nat) (v0 v1 v2 v3 v4 : α) (hm : m + 5 ≤ cs.size) (i : Nat) :
    (((((cs.setIfInBounds m v0).setIfInBounds (m + 1) v1).setIfInBounds (m + 2) v2).setIfInBounds (m + 3) v3).setIfInBounds (m + 4) v4)[i]? =
      if i < m then cs[i]? else if i = m then some v0 else if i = m + 1 then some v1 else if i = m + 2 then some v2 else if i = m + 3 then some v3 else if i = m + 4 then some v4 else cs[i]? := by
  simp only [Array.getElem?_setIfInBounds, Array.size_setIfInBounds]
  repeat' split
  all_goals first | rfl | omega | skip
section
variable {w w' : World} {g : Nat} {made : Bool} {ttl : Int} {ns : Nat → Nt}
theorem Tbl.c0 (h : Tbl w g made ttl ns) : w.cell? ⟨g, 0, none⟩ = some (.bool made) := by
  obtain ⟨cs, hb, _, h0, _⟩ := h; exact (hb.cell 0).trans h0
theorem Tbl.c1 (h : Tbl w g made ttl ns) : w.cell? ⟨g, 1, none⟩ = some (.int .i64 ttl) := by
  obtain ⟨cs, hb, _, _, h1, _⟩ := h; exact (hb.cell 1).trans h1
theorem Tbl.cn (h : Tbl w g made ttl ns) (i j : Nat) (hi : i < 8) (hj : j < 5) : w.cell? ⟨g, 2 + i * 5 + j, none⟩ = some (nv i (ns i) j) := by
  obtain ⟨cs, hb, _, _, _, h2⟩ := h; exact (hb.cell _).trans (h2 i j hi hj)
theorem Tbl.cz (h : Tbl w g made ttl ns) (i : Nat) (hi : i < 8) : w.cell? ⟨g, 2 + i * 5, none⟩ = some (nv i (ns i) 0) := h.cn i 0 hi (by decide)
theorem Tbl.fz (h : Tbl w g made ttl ns) (o : Nat) : w.frozen? ⟨g, o, none⟩ = false := by
  obtain ⟨cs, hb, _⟩ := h; exact hb.frozen o
theorem Tbl.below (h : Tbl w g made ttl ns) (k : Below w.heap.size w w') : Tbl w' g made ttl ns := by
  obtain ⟨cs, hb, hr⟩ := h; exact ⟨cs, hb.below k, hr⟩
theorem Tbl.ac (h : Tbl w g made ttl ns) (i : Nat) (hi : i < 8) : ∀ o, (w.alloc o).cell? ⟨g, 2 + i * 5, none⟩ = some (nv i (ns i) 0) ∧ (w.alloc o).cell? ⟨g, 2 + i * 5 + 1, none⟩ = some (nv i (ns i) 1) ∧ (w.alloc o).cell? ⟨g, 2 + i * 5 + 2, none⟩ = some (nv i (ns i) 2) ∧ (w.alloc o).cell? ⟨g, 2 + i * 5 + 3, none⟩ = some (nv i (ns i) 3) ∧ (w.alloc o).cell? ⟨g, 2 + i * 5 + 4, none⟩ = some (nv i (ns i) 4) := fun o =>
  have h' := h.below ((Below.refl _ w).alloc (Nat.le_refl _) o)
  ⟨h'.cz i hi, h'.cn i 1 hi (by decide), h'.cn i 2 hi (by decide), h'.cn i 3 hi (by decide), h'.cn i 4 hi (by decide)⟩
theorem Tbl.drew (h : Tbl w g made ttl ns) : Tbl w.drew g made ttl ns := h
theorem Tbl.put (h : Tbl w g made ttl ns) (k : Nat) (hk : k < 8) (t e a : Int) :
    Tbl (((((w.setCell ⟨g, 2 + k * 5, none⟩ (.bool true)).setCell ⟨g, 2 + k * 5 + 1, none⟩ (.int .i64 k)).setCell ⟨g, 2 + k * 5 + 2, none⟩ (.int .i64 t)).setCell ⟨g, 2 + k * 5 + 3, none⟩ (.int .i64 e)).setCell ⟨g, 2 + k * 5 + 4, none⟩ (.int .i64 a))
      g made ttl (upd ns k (some (t, e, a))) := by
  obtain ⟨cs, hb, hs, h0, h1, h2⟩ := h
  refine ⟨_, ((((hb.set_ _ _).set_ _ _).set_ _ _).set_ _ _).set_ _ _, by simpa using hs, ?_, ?_, fun i j hi hj => ?_⟩
  · rw [put5 _ _ _ _ _ _ _ (by omega), if_pos (by omega)]; exact h0
  · rw [put5 _ _ _ _ _ _ _ (by omega), if_pos (by omega)]; exact h1
  · rw [put5 _ _ _ _ _ _ _ (by omega)]
    by_cases hik : i = k
    · subst hik
      rw [upd_same]
      obtain rfl | rfl | rfl | rfl | rfl : j = 0 ∨ j = 1 ∨ j = 2 ∨ j = 3 ∨ j = 4 := by omega
      all_goals (simp [nv] <;> omega)
    · rw [upd_other _ _ _ hik]
      rw [← h2 i j hi hj]
      repeat' split
      all_goals first | rfl | omega
end
theorem passes_any (l t : Int) (w : World) :
    Calls Try.prog 27 #[.int .i64 l, .int .i64 t] w fun e w' => e = .returned (.bool (decide (0 ≤ l) && decide (l < t))) ∧ w = w' := by
  by_cases h : 0 ≤ l
  · have E := Lib.hid (show decide (l < t) = (decide (0 ≤ l) && decide (l < t)) by simp [h])
    go_enter Try.func27, Try.ntmps27
    go_wp2
    go_ret
    exact ⟨ret_bool E.out, rfl⟩
  · have E := Lib.hid (show false = (decide (0 ≤ l) && decide (l < t)) by simp [h])
    have h' : decide (0 ≤ l) = false := by simpa using h
    go_enter Try.func27, Try.ntmps27
    go_wp2
    go_ret
    exact ⟨rfl, rfl⟩
theorem tnone_any {g : Nat} {made : Bool} (w : World) (h : w.cell? ⟨g, 0, none⟩ = some (.bool made)) :
    Calls Try.prog 25 #[.pointer (some ⟨g, 0, none⟩)] w fun e w' => e = .returned (.bool (!made)) ∧ w = w' := by
  go_enter Try.func25, Try.ntmps25
  go_wp2
  go_ret
  exact ⟨rfl, rfl⟩

set_option maxHeartbeats 1000000 in
theorem tlearn_new {g : Nat} {ttl : Int} {ns : Nat → Nt} (k : Nat) (hk : k < 8) (th ep now : Int) (w : World) (h : Tbl w g true ttl ns) (hn : ns k = none) :
    Calls Try.prog 16 #[.pointer (some ⟨g, 0, none⟩), .int .i64 k, .int .i64 th, .int .i64 ep, .int .i64 now] w fun e w' => e = .returned (.bool true) ∧ Tbl w' g true ttl (upd ns k (some (th, ep, kp now tMost))) ∧ w.grownBy w' (some g) := by
  have H := Lib.hid h
  have hc0 := h.c0
  clear h
  have hk0 := dlt_f (a := (k : Int)) (b := 0) (by omega)
  have hk8 := dle_f (a := 8) (b := (k : Int)) (by omega)
  go_enter Try.func16, Try.ntmps16
  go_wp2_with fail
  refine (tnone_any _ hc0).mono ?_; rintro e w' ⟨rfl, rfl⟩
  go_wp2_with fail
  refine (keep_any _ tMost _).mono ?_; rintro e w1 ⟨rfl, b1⟩
  have H1 := Lib.hid (H.out.below b1)
  have c0 := H1.out.ac k hk
  rw [hn] at c0
  simp only [nv] at c0
  have B1 := Lib.hid b1
  clear b1 hc0
  go_wp2_with fail
  generalize hW : (World.alloc (World.alloc w1 _) _) = W
  have A := Lib.hid (show Tbl W g true ttl ns by rw [← hW]; exact (H1.out.below ((Below.refl _ w1).alloc (Nat.le_refl _) _)).below ((Below.refl _ _).alloc (Nat.le_refl _) _))
  have T := Lib.hid (show Bk W w1.heap.size 70 #[.bool true, .int .i64 k, .int .i64 th, .int .i64 ep, .int .i64 (kp now tMost)] by rw [← hW]; exact Bk.below (Bk.new w1 _ _) ((Below.refl _ _).alloc (Nat.le_refl _) _))
  have B2 := Lib.hid (show Below w.heap.size w W by rw [← hW]; exact (B1.out.alloc B1.out.size _).alloc (by have := B1.out.size; simp; omega) _)
  clear hW H1 c0 B1
  have c0 := A.out.cz k hk
  have c1 := A.out.cn k 1 hk (by decide)
  have c2 := A.out.cn k 2 hk (by decide)
  have c3 := A.out.cn k 3 hk (by decide)
  have c4 := A.out.cn k 4 hk (by decide)
  have f0 := A.out.fz (2 + k * 5)
  have f1 := A.out.fz (2 + k * 5 + 1)
  have f2 := A.out.fz (2 + k * 5 + 2)
  have f3 := A.out.fz (2 + k * 5 + 3)
  have f4 := A.out.fz (2 + k * 5 + 4)
  have t0 := T.out.cell 0
  have t1 := T.out.cell 1
  have t2 := T.out.cell 2
  have t3 := T.out.cell 3
  have t4 := T.out.cell 4
  go_region
  all_goals
    go_wp2_with fail
    go_ret
    exact ⟨rfl, (A.out.put k hk _ _ _).drew, only_drew (only_set' (only_set' (only_set' (only_set' (only_set' (only_below B2.out _) _ _) _ _) _ _) _ _) _ _)⟩
set_option maxHeartbeats 1000000 in
theorem tlearn_old {g : Nat} {ttl : Int} {ns : Nat → Nt} (k : Nat) (hk : k < 8) (th ep now t0 e0 a0 : Int) (he : ep < e0) (w : World) (h : Tbl w g true ttl ns) (hn : ns k = some (t0, e0, a0)) :
    Calls Try.prog 16 #[.pointer (some ⟨g, 0, none⟩), .int .i64 k, .int .i64 th, .int .i64 ep, .int .i64 now] w fun e w' => e = .returned (.bool false) ∧ Below w.heap.size w w' := by
  have H := Lib.hid h
  have hc0 := h.c0
  clear h
  have hk0 := dlt_f (a := (k : Int)) (b := 0) (by omega)
  have hk8 := dle_f (a := 8) (b := (k : Int)) (by omega)
  go_enter Try.func16, Try.ntmps16
  go_wp2_with fail
  refine (tnone_any _ hc0).mono ?_; rintro e w' ⟨rfl, rfl⟩
  go_wp2_with fail
  refine (keep_any _ tMost _).mono ?_; rintro e w1 ⟨rfl, b1⟩
  have H1 := Lib.hid (H.out.below b1)
  have c0 := H1.out.ac k hk
  rw [hn] at c0
  simp only [nv] at c0
  have B1 := Lib.hid b1
  clear b1 hc0
  go_wp2_with fail
  go_ret
  exact ⟨rfl, (B1.out.alloc B1.out.size _).alloc (by have := B1.out.size; simp; omega) _⟩
set_option maxHeartbeats 1000000 in
theorem tlearn_same {g : Nat} {ttl : Int} {ns : Nat → Nt} (k : Nat) (hk : k < 8) (th ep now t0 a0 : Int) (w : World) (h : Tbl w g true ttl ns) (hn : ns k = some (t0, ep, a0)) :
    Calls Try.prog 16 #[.pointer (some ⟨g, 0, none⟩), .int .i64 k, .int .i64 th, .int .i64 ep, .int .i64 now] w fun e w' => e = .returned (.bool true) ∧ Tbl w' g true ttl (upd ns k (some (t0, ep, kp now tMost))) ∧ w.grownBy w' (some g) := by
  have H := Lib.hid h
  have hc0 := h.c0
  clear h
  have hk0 := dlt_f (a := (k : Int)) (b := 0) (by omega)
  have hk8 := dle_f (a := 8) (b := (k : Int)) (by omega)
  go_enter Try.func16, Try.ntmps16
  go_wp2_with fail
  refine (tnone_any _ hc0).mono ?_; rintro e w' ⟨rfl, rfl⟩
  go_wp2_with fail
  refine (keep_any _ tMost _).mono ?_; rintro e w1 ⟨rfl, b1⟩
  have H1 := Lib.hid (H.out.below b1)
  have c0 := H1.out.ac k hk
  rw [hn] at c0
  simp only [nv] at c0
  have B1 := Lib.hid b1
  clear b1 hc0
  go_wp2_with fail
  generalize hW : (World.alloc (World.alloc w1 _) _) = W
  have A := Lib.hid (show Tbl W g true ttl ns by rw [← hW]; exact (H1.out.below ((Below.refl _ w1).alloc (Nat.le_refl _) _)).below ((Below.refl _ _).alloc (Nat.le_refl _) _))
  have T := Lib.hid (show Bk W w1.heap.size 70 #[.bool true, .int .i64 k, .int .i64 t0, .int .i64 ep, .int .i64 (kp now tMost)] by rw [← hW]; exact Bk.below (Bk.new w1 _ _) ((Below.refl _ _).alloc (Nat.le_refl _) _))
  have B2 := Lib.hid (show Below w.heap.size w W by rw [← hW]; exact (B1.out.alloc B1.out.size _).alloc (by have := B1.out.size; simp; omega) _)
  clear hW H1 c0 B1
  have c0 := A.out.cz k hk
  have c1 := A.out.cn k 1 hk (by decide)
  have c2 := A.out.cn k 2 hk (by decide)
  have c3 := A.out.cn k 3 hk (by decide)
  have c4 := A.out.cn k 4 hk (by decide)
  have f0 := A.out.fz (2 + k * 5)
  have f1 := A.out.fz (2 + k * 5 + 1)
  have f2 := A.out.fz (2 + k * 5 + 2)
  have f3 := A.out.fz (2 + k * 5 + 3)
  have f4 := A.out.fz (2 + k * 5 + 4)
  have t0 := T.out.cell 0
  have t1 := T.out.cell 1
  have t2 := T.out.cell 2
  have t3 := T.out.cell 3
  have t4 := T.out.cell 4
  go_region
  all_goals
    go_wp2_with fail
    go_ret
    exact ⟨rfl, (A.out.put k hk _ _ _).drew, only_drew (only_set' (only_set' (only_set' (only_set' (only_set' (only_below B2.out _) _ _) _ _) _ _) _ _) _ _)⟩
set_option maxHeartbeats 1000000 in
theorem tlearn_up {g : Nat} {ttl : Int} {ns : Nat → Nt} (k : Nat) (hk : k < 8) (th ep now t0 e0 a0 : Int) (he : e0 < ep) (w : World) (h : Tbl w g true ttl ns) (hn : ns k = some (t0, e0, a0)) :
    Calls Try.prog 16 #[.pointer (some ⟨g, 0, none⟩), .int .i64 k, .int .i64 th, .int .i64 ep, .int .i64 now] w fun e w' => e = .returned (.bool true) ∧ Tbl w' g true ttl (upd ns k (some (th, ep, kp now tMost))) ∧ w.grownBy w' (some g) := by
  have hne := deq_f (a := e0) (b := ep) (by omega)
  have H := Lib.hid h
  have hc0 := h.c0
  clear h
  have hk0 := dlt_f (a := (k : Int)) (b := 0) (by omega)
  have hk8 := dle_f (a := 8) (b := (k : Int)) (by omega)
  go_enter Try.func16, Try.ntmps16
  go_wp2_with fail
  refine (tnone_any _ hc0).mono ?_; rintro e w' ⟨rfl, rfl⟩
  go_wp2_with fail
  refine (keep_any _ tMost _).mono ?_; rintro e w1 ⟨rfl, b1⟩
  have H1 := Lib.hid (H.out.below b1)
  have c0 := H1.out.ac k hk
  rw [hn] at c0
  simp only [nv] at c0
  have B1 := Lib.hid b1
  clear b1 hc0
  go_wp2_with fail
  generalize hW : (World.alloc (World.alloc w1 _) _) = W
  have A := Lib.hid (show Tbl W g true ttl ns by rw [← hW]; exact (H1.out.below ((Below.refl _ w1).alloc (Nat.le_refl _) _)).below ((Below.refl _ _).alloc (Nat.le_refl _) _))
  have T := Lib.hid (show Bk W w1.heap.size 70 #[.bool true, .int .i64 k, .int .i64 th, .int .i64 ep, .int .i64 (kp now tMost)] by rw [← hW]; exact Bk.below (Bk.new w1 _ _) ((Below.refl _ _).alloc (Nat.le_refl _) _))
  have B2 := Lib.hid (show Below w.heap.size w W by rw [← hW]; exact (B1.out.alloc B1.out.size _).alloc (by have := B1.out.size; simp; omega) _)
  clear hW H1 c0 B1
  have c0 := A.out.cz k hk
  have c1 := A.out.cn k 1 hk (by decide)
  have c2 := A.out.cn k 2 hk (by decide)
  have c3 := A.out.cn k 3 hk (by decide)
  have c4 := A.out.cn k 4 hk (by decide)
  have f0 := A.out.fz (2 + k * 5)
  have f1 := A.out.fz (2 + k * 5 + 1)
  have f2 := A.out.fz (2 + k * 5 + 2)
  have f3 := A.out.fz (2 + k * 5 + 3)
  have f4 := A.out.fz (2 + k * 5 + 4)
  have t0 := T.out.cell 0
  have t1 := T.out.cell 1
  have t2 := T.out.cell 2
  have t3 := T.out.cell 3
  have t4 := T.out.cell 4
  go_region
  all_goals
    go_wp2_with fail
    go_ret
    exact ⟨rfl, (A.out.put k hk _ _ _).drew, only_drew (only_set' (only_set' (only_set' (only_set' (only_set' (only_below B2.out _) _ _) _ _) _ _) _ _) _ _)⟩
end Go.Proofs.Ytahahflpackiiaa
namespace Go.Proofs.Ytahahflpackiiaa
section
variable {P : Program} {ops : Array Oper} {Q : Exit → Act → World → Prop} {md : Region.Mode} {S : World → Prop}
/-- The operation is a call that hands back v and leaves each world as it was that meets S. -/
def Hands (P : Program) (ops : Array Oper) (S : World → Prop) (o : Oper) (v : Value) (a : Act) : Prop :=
  Region.wanted o (yielded ops a.tmps) = true ∧ ∀ w, S w → ∀ (b : Act) (K : Act → World → Prop) (Q : Exit → Act → World → Prop), K (b.put o.dst v) w → Oper.upon P o b K Q ((execOp a.eval o).run P w)
theorem Hands.comes {i : Nat} {o : Oper} {v : Value} {a : Act} (hi : ops[i]? = some o) (hy : Hands P ops S o v a) {K : Act → World → Prop} {w : World} (hS : S w) (h : K (a.put o.dst v) w) : wpOp P ops Q i K a w := by
  obtain ⟨hw, hf⟩ := hy
  have g : o.wp P a w K Q := hf w hS a K Q h
  unfold wpOp
  rw [hi]
  show if _ then _ else _
  rw [if_pos hw]
  exact Or.inl g
/-- Another operation, apart from it, goes on as it would have gone behind it. -/
theorem Hands.past {j : Nat} {oi oj : Oper} {v : Value} (hj : ops[j]? = some oj) (hap : oi.apart ops oj = true) (hsi : ∀ cs b, oi.op ≠ .select cs b) (hsj : ∀ cs b, oj.op ≠ .select cs b)
    (hQ : ∀ c a w, Q (.panic c) (a.put oi.dst v) w → Q (.panic c) a w) {K : Act → World → Prop} {a : Act} {w : World} (hy : Hands P ops S oi v a) (h : wpOp P ops Q j K (a.put oi.dst v) w) :
    wpOp P ops Q j (fun a' w' => Hands P ops S oi v a' ∧ K (a'.put oi.dst v) w') a w := by
  obtain ⟨n1, n2, n3⟩ := Oper.apart_spec hap
  have same : ∀ b c : Act, execOp c.eval oi = execOp b.eval oi → Region.wanted oi (yielded ops c.tmps) = Region.wanted oi (yielded ops b.tmps) → Hands P ops S oi v b → Hands P ops S oi v c := fun b c e1 e2 hb => by
    unfold Hands at *; rw [e1, e2]; exact hb
  have put : ∀ (b : Act) (u : Value), Hands P ops S oi v b → Hands P ops S oi v (b.put oj.dst u) := fun b u => same b _ (execOp_put oi hsi b oj.dst u n3) (wanted_put oi b oj.dst u n3)
  have comm : ∀ (b : Act) (u : Value) (W : World), K ((b.put oi.dst v).put oj.dst u) W → K ((b.put oj.dst u).put oi.dst v) W := fun b u W hk => by rw [← Act.put_comm b v u n2]; exact hk
  unfold wpOp at h ⊢
  rw [hj] at h ⊢
  have ew := wanted_put oj a oi.dst v n1
  have ee := execOp_put oj hsj a oi.dst v n1
  dsimp only at h ⊢
  rw [ew] at h
  by_cases hw : Region.wanted oj (yielded ops a.tmps) = true
  · rw [if_pos hw] at h ⊢
    rcases h with h | ⟨h1, h2⟩
    · left
      unfold Oper.wp at h ⊢
      rw [ee] at h
      revert h
      cases (execOp a.eval oj).run P w with
      | halt x w' =>
        cases x <;> simp only [Oper.upon] <;> first | exact fun h => h | exact fun h => hQ _ _ _ h
      | ok n w' =>
        cases n with
        | value u => simp only [Oper.upon]; exact fun h => ⟨put a u hy, comm a u w' h⟩
        | skip => simp only [Oper.upon]; exact fun h => ⟨put a _ hy, comm a _ w' h⟩
        | defer d =>
          simp only [Oper.upon]
          intro h
          refine ⟨put _ _ (same a _ rfl rfl hy), ?_⟩
          rw [← Act.put_comm _ v undef n2, ← Act.put_defers]
          exact h
        | enter f args =>
          simp only [Oper.upon]
          intro h
          refine Calls.mono h fun e W he => ?_
          cases e with
          | returned u => exact ⟨put a u hy, comm a u W he⟩
          | panicked c => exact hQ _ _ _ he
          | outgrown => exact he
        | row r args => simp only [Oper.upon]; exact fun h => Rows.mono h fun u W he => ⟨put a u hy, comm a u W he⟩
        | _ => simp only [Oper.upon]; exact fun h => h
    · right
      refine ⟨?_, h2⟩
      unfold Oper.asks at h1 ⊢
      rw [ee] at h1
      exact h1
  · rw [if_neg hw] at h ⊢
    exact ⟨put a _ hy, comm a _ w h⟩
theorem Hands.first {i : Nat} {oi : Oper} {v : Value} (hi : ops[i]? = some oi) (hsel : ∀ (j : Nat) (o : Oper) cs b, ops[j]? = some o → o.op ≠ .select cs b)
    (hQ : ∀ c a w, Q (.panic c) (a.put oi.dst v) w → Q (.panic c) a w) (fuel : Nat) :
    ∀ (listed : Array Bool) (a : Act) (w : World),
      (∀ j oj, ops[j]? = some oj → j ≠ i → listed.getD j true = false → (∀ e ∈ oj.after, Region.binds md e = true → e.on ≠ i) → oi.apart ops oj = true) →
      i ∈ Region.ready md ops listed → Hands P ops S oi v a → S w →
      wpAnyH P md ops Q S fuel (listed.setIfInBounds i true) (a.put oi.dst v) w → wpAnyH P md ops Q S (fuel + 1) listed a w := by
  have nosel := fun cs b => hsel i oi cs b hi
  induction fuel with
  | zero =>
    intro listed a w _ hr hy hS H
    refine ⟨fun h => absurd hr (by rw [h]; simp), fun j hj => ?_⟩
    rcases Decidable.em (j = i) with rfl | hne
    · exact hy.comes hi hS ⟨hS, H⟩
    · exact absurd (ready_mono hj hne) (by rw [H.1]; simp)
  | succ n ih =>
    intro listed a w hfree hr hy hS H
    refine ⟨fun h => absurd hr (by rw [h]; simp), fun j hj => ?_⟩
    rcases Decidable.em (j = i) with rfl | hne
    · exact hy.comes hi hS ⟨hS, H⟩
    · have hq := H.2 j (ready_mono hj hne)
      obtain ⟨un, oj, hoj, hall⟩ := mem_ready.1 hj
      have off : ∀ e ∈ oj.after, Region.binds md e = true → e.on ≠ i := fun e he hb heq => by
        have t1 := hall e he hb
        have t0 := (mem_ready.1 hr).1
        rw [heq] at t1
        rcases Nat.lt_or_ge i listed.size with hlt | hge
        · simp [hlt] at t0 t1; rw [t0] at t1; cases t1
        · simp [Array.getElem?_eq_none hge] at t1
      have go := Hands.past hoj (hfree j oj hoj hne un off) nosel (fun cs b => hsel j oj cs b hoj) hQ hy hq
      refine wpOp_mono (fun a' w' h3 => ⟨h3.2.1, ih (listed.setIfInBounds j true) a' w' ?_ (ready_mono hr (Ne.symm hne)) h3.1 h3.2.1 ?_⟩) go
      · intro k ok hk hki hun hno
        refine hfree k ok hk hki ?_ hno
        rcases Decidable.em (j = k) with rfl | hjk
        · exact un
        · rwa [getD_set_ne true hjk] at hun
      · rw [Array.setIfInBounds_comm _ _ hne]
        exact h3.2.2
end
end Go.Proofs.Ytahahflpackiiaa
namespace Go.Proofs.Ytahahflpackiiaa
section
variable {P : Program} {ops : Array Oper} {Q : Exit → Act → World → Prop} {md : Region.Mode} {S : World → Prop}
/-- The operation hands back v in every world that meets S, and the world behind it meets S; or it is not wanted. -/
def Gives (P : Program) (ops : Array Oper) (S : World → Prop) (o : Oper) (v : Value) (a : Act) : Prop :=
  (Region.wanted o (yielded ops a.tmps) = true ∧ ∀ w, S w → ∀ (b : Act) (K : Act → World → Prop) (Q : Exit → Act → World → Prop), (∀ w', S w' → K (b.put o.dst v) w') → Oper.upon P o b K Q ((execOp a.eval o).run P w)) ∨
  (Region.wanted o (yielded ops a.tmps) = false ∧ v = undef)
theorem gives_pure {o : Oper} {v : Value} {a : Act} (hw : Region.wanted o (yielded ops a.tmps) = true) (h : ∀ w, S w → (execOp a.eval o).run P w = .ok (.value v) w) : Gives P ops S o v a :=
  Or.inl ⟨hw, fun w hS b K Q hK => by rw [h w hS]; exact hK w hS⟩
theorem gives_call {o : Oper} {v : Value} {a : Act} (hw : Region.wanted o (yielded ops a.tmps) = true) (h : ∀ w, S w → ∀ (b : Act) (K : Act → World → Prop) (Q : Exit → Act → World → Prop), (∀ w', S w' → K (b.put o.dst v) w') → Oper.upon P o b K Q ((execOp a.eval o).run P w)) : Gives P ops S o v a :=
  Or.inl ⟨hw, h⟩
theorem gives_not {o : Oper} {a : Act} (hw : Region.wanted o (yielded ops a.tmps) = false) : Gives P ops S o undef a := Or.inr ⟨hw, rfl⟩
/-- Whatever has not come up yet waits for it, or is apart from it. -/
def Fr (md : Region.Mode) (ops : Array Oper) (listed : Array Bool) (i : Nat) (oi : Oper) : Prop :=
  ∀ j oj, ops[j]? = some oj → j ≠ i → listed.getD j true = false → (∀ e ∈ oj.after, Region.binds md e = true → e.on ≠ i) → oi.apart ops oj = true
def wpD (P : Program) (md : Region.Mode) (ops : Array Oper) (Q : Exit → Act → World → Prop) (S : World → Prop) : Nat → Array Bool → Act → Prop
  | 0, listed, a => Region.ready md ops listed = [] ∧ ∀ w, S w → Q .normal a w
  | n + 1, listed, a => (Region.ready md ops listed = [] ∧ ∀ w, S w → Q .normal a w) ∨
      ∃ i o v, ops[i]? = some o ∧ i ∈ Region.ready md ops listed ∧ Fr md ops listed i o ∧ Gives P ops S o v a ∧ wpD P md ops Q S n (listed.setIfInBounds i true) (a.put o.dst v)
theorem Gives.same {o : Oper} {v : Value} {a b : Act} (e1 : execOp b.eval o = execOp a.eval o) (e2 : Region.wanted o (yielded ops b.tmps) = Region.wanted o (yielded ops a.tmps)) (h : Gives P ops S o v a) : Gives P ops S o v b := by
  unfold Gives at *; rw [e1, e2]; exact h
theorem wpD_swap (hsel : ∀ (j : Nat) (o : Oper) cs b, ops[j]? = some o → o.op ≠ .select cs b) : ∀ (n : Nat) (listed : Array Bool) (a : Act), wpD P md ops Q S n listed a → ∀ j ∈ Region.ready md ops listed,
    ∃ oj u m, n = m + 1 ∧ ops[j]? = some oj ∧ Gives P ops S oj u a ∧ wpD P md ops Q S m (listed.setIfInBounds j true) (a.put oj.dst u)
  | 0, _, _, h, j, hj => by rw [h.1] at hj; cases hj
  | n + 1, listed, a, h, j, hj => by
    rcases h with h | ⟨i, oi, v, hi, hr, hfree, hy, hD⟩
    · rw [h.1] at hj; cases hj
    · rcases Decidable.em (j = i) with rfl | hne
      · exact ⟨oi, v, n, rfl, hi, hy, hD⟩
      · obtain ⟨oj, u, m, rfl, hoj, hu, hD2⟩ := wpD_swap hsel n _ _ hD j (ready_mono hj hne)
        obtain ⟨un, oj', hoj', hall⟩ := mem_ready.1 hj
        rw [hoj] at hoj'
        injection hoj' with hoj'
        subst hoj'
        have off : ∀ e ∈ oj.after, Region.binds md e = true → e.on ≠ i := fun e he hb heq => by
          have t1 := hall e he hb
          have t0 := (mem_ready.1 hr).1
          rw [heq] at t1
          rcases Nat.lt_or_ge i listed.size with hlt | hge
          · simp [hlt] at t0 t1; rw [t0] at t1; cases t1
          · simp [Array.getElem?_eq_none hge] at t1
        have hap := hfree j oj hoj hne un off
        obtain ⟨n1, n2, n3⟩ := Oper.apart_spec hap
        have nsi := fun cs b => hsel i oi cs b hi
        have nsj := fun cs b => hsel j oj cs b hoj
        refine ⟨oj, u, m + 1, rfl, hoj, hu.same (execOp_put oj nsj a oi.dst v n1).symm (wanted_put oj a oi.dst v n1).symm, Or.inr ⟨i, oi, v, hi, ready_mono hr (Ne.symm hne), ?_, hy.same (execOp_put oi nsi a oj.dst u n3) (wanted_put oi a oj.dst u n3), ?_⟩⟩
        · intro k ok hk hki hun hno
          refine hfree k ok hk hki ?_ hno
          rcases Decidable.em (j = k) with rfl | hjk
          · exact un
          · rwa [getD_set_ne true hjk] at hun
        · rw [Array.setIfInBounds_comm _ _ hne, Act.put_comm a u v (fun d hd => fun hd2 => n2 d hd2 hd)]
          exact hD2
theorem wpD_go (hs : Region.noSelect ops = true) : ∀ (n : Nat) (listed : Array Bool) (a : Act) (w : World), S w → wpD P md ops Q S n listed a → wpAnyH P md ops Q S n listed a w
  | 0, _, _, w, hS, h => ⟨h.1, h.2 w hS⟩
  | n + 1, listed, a, w, hS, h => by
    refine ⟨fun h0 => ?_, fun j hj => ?_⟩
    · rcases h with h | ⟨i, _, _, _, hr, _⟩
      · exact h.2 w hS
      · rw [h0] at hr; cases hr
    · obtain ⟨oj, u, m, hm, hoj, hu, hD⟩ := wpD_swap (Region.noSelect_spec hs) (n + 1) listed a h j hj
      obtain rfl : m = n := by omega
      unfold wpOp
      rw [hoj]
      dsimp only
      rcases hu with ⟨hw, hf⟩ | ⟨hw, rfl⟩
      · rw [if_pos hw]
        exact Or.inl (hf w hS a _ _ (fun w' hS' => ⟨hS', wpD_go hs m _ _ w' hS' hD⟩))
      · rw [if_neg (by rw [hw]; simp)]
        exact ⟨hS, wpD_go hs m _ _ w hS hD⟩
theorem wpD_step {i : Nat} {o : Oper} {v : Value} {n : Nat} {listed : Array Bool} {a : Act} (hi : ops[i]? = some o) (hf : Region.free md ops listed i = true) (hr : (Region.ready md ops listed).contains i = true)
    (hy : Gives P ops S o v a) (h : wpD P md ops Q S n (listed.setIfInBounds i true) (a.put o.dst v)) : wpD P md ops Q S (n + 1) listed a :=
  Or.inr ⟨i, o, v, hi, by simpa using hr, fun j oj => Region.free_spec hi hf j oj, hy, h⟩
theorem wpD_done {listed : Array Bool} {a : Act} (hr : Region.ready md ops listed = []) (h : ∀ w, S w → Q .normal a w) : ∀ n, wpD P md ops Q S n listed a
  | 0 => ⟨hr, h⟩
  | _ + 1 => Or.inl ⟨hr, h⟩
end
end Go.Proofs.Ytahahflpackiiaa
namespace Go.Proofs.Ytahahflpackiiaa
open Go.RowKit Bd Tb
/-- The zero entry. -/
def k0 : Array Value := #[.int .i64 0, .int .i64 0, .int .i64 0, .int .i64 0]
theorem tget_far {g : Nat} (to now : Int) (w : World) (h : w.cell? ⟨g, 0, none⟩ = some (.bool true)) (hto : to < 0 ∨ 8 ≤ to) :
    Calls Try.prog 13 #[.pointer (some ⟨g, 0, none⟩), .int .i64 to, .int .i64 now] w fun e w' => e = .returned (.tuple #[.agg #[.int .i64 0, .int .i64 0, .int .i64 0, .int .i64 0], .bool false]) ∧ Below w.heap.size w w' := by
  have h' : ∀ o, (w.alloc o).cell? ⟨g, 0, none⟩ = some (.bool true) := fun o => (((Below.refl _ w).alloc (Nat.le_refl _) o).cell (p := ⟨g, 0, none⟩) (cell_lt h)).trans h
  have hd : (decide (to < 0) = true) ∨ (decide (to < 0) = false ∧ decide (8 ≤ to) = true) := by
    rcases (by omega : to < 0 ∨ 0 ≤ to) with h | h
    · exact Or.inl (dlt_t h)
    · exact Or.inr ⟨dlt_f h, dle_t (by omega)⟩
  clear hto
  rcases hd with h1 | ⟨h1, h2⟩
  all_goals
    go_enter Try.func13, Try.ntmps13
    go_wp2_with fail
    refine (tnone_any _ (h' _)).mono ?_; rintro e w' ⟨rfl, rfl⟩
    go_wp2_with fail
    exact bodyPost_ret (v := .tuple #[.agg #[.int .i64 0, .int .i64 0, .int .i64 0, .int .i64 0], .bool false]) (by simp [results, Try.results13, go_sem]) rfl ⟨rfl, by repeat' (first | exact Below.refl _ _ | refine Below.drew ?_ | refine Below.alloc ?_ (by simp <;> omega) _ | refine Below.setCell ?_ (by simp) _)⟩
/-- What is known in the middle of Get. -/
structure G21 (w0 : World) (g : Nat) (made : Bool) (ttl : Int) (ns : Nat → Nt) (cs : Array Value) (W : World) : Prop where
  bl : Below w0.heap.size w0 W
  r : Bk W w0.heap.size 51 #[.int .i64 0, .int .i64 0, .int .i64 0, .int .i64 0]
  n : Bk W (w0.heap.size + 1) 70 cs
  t : Tbl W g made ttl ns
theorem G21.below {w0 : World} {g : Nat} {made : Bool} {ttl : Int} {ns : Nat → Nt} {cs : Array Value} {W W' : World} (h : G21 w0 g made ttl ns cs W) (k : Below W.heap.size W W') : G21 w0 g made ttl ns cs W' :=
  ⟨h.bl.trans (k.mono h.bl.size), h.r.below k, h.n.below k, h.t.below k⟩
theorem G21.drew {w0 : World} {g : Nat} {made : Bool} {ttl : Int} {ns : Nat → Nt} {cs : Array Value} {W : World} (h : G21 w0 g made ttl ns cs W) : G21 w0 g made ttl ns cs W.drew := h.below (Below.refl _ _).drew
theorem G21.s {w0 : World} {g : Nat} {made : Bool} {ttl : Int} {ns : Nat → Nt} {v0 v1 v2 v3 v4 : Value} {W : World} (h : G21 w0 g made ttl ns #[v0, v1, v2, v3, v4] W) :
    (W.cell? ⟨w0.heap.size + 1, 0, none⟩ = some v0 ∧ W.cell? ⟨w0.heap.size + 1, 1, none⟩ = some v1 ∧ W.cell? ⟨w0.heap.size + 1, 2, none⟩ = some v2 ∧ W.cell? ⟨w0.heap.size + 1, 3, none⟩ = some v3 ∧ W.cell? ⟨w0.heap.size + 1, 4, none⟩ = some v4 ∧ W.cell? ⟨g, 1, none⟩ = some (.int .i64 ttl)) ∧ G21 w0 g made ttl ns #[v0, v1, v2, v3, v4] W :=
  ⟨⟨h.n.cell 0, h.n.cell 1, h.n.cell 2, h.n.cell 3, h.n.cell 4, h.t.c1⟩, h⟩
set_option maxHeartbeats 1000000 in
theorem tget_none {g : Nat} {ttl : Int} {ns : Nat → Nt} (k : Nat) (hk : k < 8) (now : Int) (w : World) (h : Tbl w g true ttl ns) (hn : ns k = none) :
    Calls Try.prog 13 #[.pointer (some ⟨g, 0, none⟩), .int .i64 k, .int .i64 now] w fun e w' => e = .returned (.tuple #[.agg #[.int .i64 0, .int .i64 0, .int .i64 0, .int .i64 0], .bool false]) ∧ Below w.heap.size w w' := by
  have H := Lib.hid h
  have hc0 := (h.below ((Below.refl _ w).alloc (Nat.le_refl _) (.cells #[.int .i64 0, .int .i64 0, .int .i64 0, .int .i64 0] 51))).c0
  have c0 := h.ac k hk
  rw [hn] at c0
  simp only [nv] at c0
  clear h
  have hk0 := dlt_f (a := (k : Int)) (b := 0) (by omega)
  have hk8 := dle_f (a := 8) (b := (k : Int)) (by omega)
  go_enter Try.func13, Try.ntmps13
  go_wp2_with fail
  refine (tnone_any _ hc0).mono ?_; rintro e w' ⟨rfl, rfl⟩
  clear hc0
  go_wp2_with fail
  generalize hW : (World.alloc (World.alloc w _) _) = W
  have A := Lib.hid (show G21 w g true ttl ns #[.bool false, .int .i64 0, .int .i64 0, .int .i64 0, .int .i64 0] W by
    rw [← hW]
    exact ⟨((Below.refl _ w).alloc (Nat.le_refl _) _).alloc (by simp) _, Bk.below (Bk.new w _ _) ((Below.refl _ _).alloc (Nat.le_refl _) _), by simpa using Bk.new (w.alloc (.cells #[.int .i64 0, .int .i64 0, .int .i64 0, .int .i64 0] 51)) 70 #[.bool false, .int .i64 0, .int .i64 0, .int .i64 0, .int .i64 0], (H.out.below ((Below.refl _ _).alloc (Nat.le_refl _) _)).below ((Below.refl _ _).alloc (Nat.le_refl _) _)⟩)
  clear hW c0 H hk0 hk8
  refine wp_region_held_drew (S := (fun W => (W.cell? ⟨w.heap.size + 1, 0, none⟩ = some (.bool false) ∧ W.cell? ⟨w.heap.size + 1, 1, none⟩ = some (.int .i64 0) ∧ W.cell? ⟨w.heap.size + 1, 2, none⟩ = some (.int .i64 0) ∧ W.cell? ⟨w.heap.size + 1, 3, none⟩ = some (.int .i64 0) ∧ W.cell? ⟨w.heap.size + 1, 4, none⟩ = some (.int .i64 0) ∧ W.cell? ⟨g, 1, none⟩ = some (.int .i64 ttl)) ∧ G21 w g true ttl ns #[.bool false, .int .i64 0, .int .i64 0, .int .i64 0, .int .i64 0] W)) (by kernel_rfl) ?_ (fun hHeld => ?_)
  · (try dsimp only); first | exact (G21.below hHeld.2 (by assumption)).s | exact A.out.drew.s
  refine wpD_go (by kernel_rfl) _ _ _ _ (by assumption) ?_
  refine wpD_step (i := 0) (o := { dst := some 26, op := Op.load 70 (Operand.tmp 8), type := 70, pos := "table.go:58", after := #[], guard := none }) (v := ?_) rfl (by kernel_rfl) (by kernel_rfl) (gives_pure (by rfl) ?_) ?_
  rotate_left
  · intro w0 hSw; (try dsimp only at hSw); go_simp; (try with_reducible rfl)
  try simp only [Act.put, List.setIfInBounds_toArray, List.set_cons_zero, List.set_cons_succ]
  refine wpD_step (i := 1) (o := { dst := some 27, op := Op.build 70 #[], type := 70, pos := "table.go:58", after := #[], guard := none }) (v := ?_) rfl (by kernel_rfl) (by kernel_rfl) (gives_pure (by rfl) ?_) ?_
  rotate_left
  · intro w0 hSw; (try dsimp only at hSw); go_simp; (try with_reducible rfl)
  try simp only [Act.put, List.setIfInBounds_toArray, List.set_cons_zero, List.set_cons_succ]
  refine wpD_step (i := 2) (o := { dst := some 28, op := Op.binOp BinOp.eql 70 (Operand.tmp 26) (Operand.tmp 27) 70, type := 4, pos := "table.go:58", after := #[{ on := 0, ground := Ground.data }, { on := 1, ground := Ground.data }], guard := none }) (v := ?_) rfl (by kernel_rfl) (by kernel_rfl) (gives_pure (by rfl) ?_) ?_
  rotate_left
  · intro w0 hSw; (try dsimp only at hSw); go_simp; (try with_reducible rfl)
  try simp only [Act.put, List.setIfInBounds_toArray, List.set_cons_zero, List.set_cons_succ]
  refine wpD_step (i := 3) (o := { dst := some 29, op := Op.move (Operand.tmp 28), type := 4, pos := "table.go:58", after := #[{ on := 2, ground := Ground.data }], guard := none }) (v := ?_) rfl (by kernel_rfl) (by kernel_rfl) (gives_pure (by rfl) ?_) ?_
  rotate_left
  · intro w0 hSw; (try dsimp only at hSw); go_simp; (try with_reducible rfl)
  try simp only [Act.put, List.setIfInBounds_toArray, List.set_cons_zero, List.set_cons_succ]
  refine wpD_step (i := 4) (o := { dst := some 30, op := Op.move (Operand.tmp 2), type := 3, pos := "table.go:58", after := #[{ on := 3, ground := Ground.guard }], guard := some (3, false) }) (v := undef) rfl (by kernel_rfl) (by kernel_rfl) (gives_not (by rfl)) ?_
  try simp only [Act.put, List.setIfInBounds_toArray, List.set_cons_zero, List.set_cons_succ]
  refine wpD_step (i := 5) (o := { dst := some 31, op := Op.fieldAddr 70 (Operand.tmp 8) 1, type := 0, pos := "table.go:58", after := #[{ on := 3, ground := Ground.guard }], guard := some (3, false) }) (v := undef) rfl (by kernel_rfl) (by kernel_rfl) (gives_not (by rfl)) ?_
  try simp only [Act.put, List.setIfInBounds_toArray, List.set_cons_zero, List.set_cons_succ]
  refine wpD_step (i := 6) (o := { dst := some 32, op := Op.fieldAddr 51 (Operand.tmp 31) 3, type := 0, pos := "table.go:58", after := #[{ on := 5, ground := Ground.data }, { on := 3, ground := Ground.guard }], guard := some (3, false) }) (v := undef) rfl (by kernel_rfl) (by kernel_rfl) (gives_not (by rfl)) ?_
  try simp only [Act.put, List.setIfInBounds_toArray, List.set_cons_zero, List.set_cons_succ]
  refine wpD_step (i := 7) (o := { dst := some 33, op := Op.load 3 (Operand.tmp 32), type := 3, pos := "table.go:58", after := #[{ on := 6, ground := Ground.data }, { on := 3, ground := Ground.guard }], guard := some (3, false) }) (v := undef) rfl (by kernel_rfl) (by kernel_rfl) (gives_not (by rfl)) ?_
  try simp only [Act.put, List.setIfInBounds_toArray, List.set_cons_zero, List.set_cons_succ]
  refine wpD_step (i := 8) (o := { dst := some 34, op := Op.call { callee := Callee.value (Operand.func 26), args := #[Operand.tmp 30, Operand.tmp 33], argTypes := #[3, 3] }, type := 3, pos := "table.go:58", after := #[{ on := 4, ground := Ground.data }, { on := 7, ground := Ground.data }, { on := 3, ground := Ground.chain }, { on := 3, ground := Ground.guard }], guard := some (3, false) }) (v := undef) rfl (by kernel_rfl) (by kernel_rfl) (gives_not (by rfl)) ?_
  try simp only [Act.put, List.setIfInBounds_toArray, List.set_cons_zero, List.set_cons_succ]
  refine wpD_step (i := 9) (o := { dst := some 35, op := Op.move (Operand.tmp 0), type := 27, pos := "table.go:58", after := #[{ on := 3, ground := Ground.guard }], guard := some (3, false) }) (v := undef) rfl (by kernel_rfl) (by kernel_rfl) (gives_not (by rfl)) ?_
  try simp only [Act.put, List.setIfInBounds_toArray, List.set_cons_zero, List.set_cons_succ]
  refine wpD_step (i := 10) (o := { dst := some 36, op := Op.nilCheck (Operand.tmp 35), type := 0, pos := "table.go:58", after := #[{ on := 9, ground := Ground.data }, { on := 3, ground := Ground.guard }], guard := some (3, false) }) (v := undef) rfl (by kernel_rfl) (by kernel_rfl) (gives_not (by rfl)) ?_
  try simp only [Act.put, List.setIfInBounds_toArray, List.set_cons_zero, List.set_cons_succ]
  refine wpD_step (i := 11) (o := { dst := some 37, op := Op.fieldAddr 73 (Operand.tmp 36) 1, type := 0, pos := "table.go:58", after := #[{ on := 10, ground := Ground.data }, { on := 3, ground := Ground.guard }], guard := some (3, false) }) (v := undef) rfl (by kernel_rfl) (by kernel_rfl) (gives_not (by rfl)) ?_
  try simp only [Act.put, List.setIfInBounds_toArray, List.set_cons_zero, List.set_cons_succ]
  refine wpD_step (i := 12) (o := { dst := some 38, op := Op.load 3 (Operand.tmp 37), type := 3, pos := "table.go:58", after := #[{ on := 11, ground := Ground.data }, { on := 3, ground := Ground.guard }], guard := some (3, false) }) (v := undef) rfl (by kernel_rfl) (by kernel_rfl) (gives_not (by rfl)) ?_
  try simp only [Act.put, List.setIfInBounds_toArray, List.set_cons_zero, List.set_cons_succ]
  refine wpD_step (i := 13) (o := { dst := some 39, op := Op.binOp BinOp.gtr 3 (Operand.tmp 34) (Operand.tmp 38) 3, type := 4, pos := "table.go:58", after := #[{ on := 8, ground := Ground.data }, { on := 12, ground := Ground.data }, { on := 3, ground := Ground.guard }], guard := some (3, false) }) (v := undef) rfl (by kernel_rfl) (by kernel_rfl) (gives_not (by rfl)) ?_
  try simp only [Act.put, List.setIfInBounds_toArray, List.set_cons_zero, List.set_cons_succ]
  refine wpD_step (i := 14) (o := { dst := some 40, op := Op.pick (Operand.tmp 29) (Operand.const (Value.bool true)) (Operand.tmp 39), type := 4, pos := "table.go:58", after := #[{ on := 3, ground := Ground.data }, { on := 13, ground := Ground.data }], guard := none }) (v := ?_) rfl (by kernel_rfl) (by kernel_rfl) (gives_pure (by rfl) ?_) ?_
  rotate_left
  · intro w0 hSw; (try dsimp only at hSw); go_simp; (try with_reducible rfl)
  try simp only [Act.put, List.setIfInBounds_toArray, List.set_cons_zero, List.set_cons_succ]
  refine wpD_done (by kernel_rfl) (fun wz hHeld => ?_) _
  have r0 := hHeld.2.r.cell 0
  have r1 := hHeld.2.r.cell 1
  have r2 := hHeld.2.r.cell 2
  have r3 := hHeld.2.r.cell 3
  have q0 := hHeld.2.r.frozen 0
  have q1 := hHeld.2.r.frozen 1
  have q2 := hHeld.2.r.frozen 2
  have q3 := hHeld.2.r.frozen 3
  go_wp2_with fail
  generalize hW2 : World.setCell (World.setCell (World.setCell (World.setCell _ _ _) _ _) _ _) _ _ = W2
  have R2 := Lib.hid (show Bk W2 w.heap.size 51 #[.int .i64 0, .int .i64 0, .int .i64 0, .int .i64 0] by rw [← hW2]; exact (((hHeld.2.r.set_ 0 _).set_ 1 _).set_ 2 _).set_ 3 _)
  have B2 := Lib.hid (show Below w.heap.size w W2 by rw [← hW2]; exact (((hHeld.2.bl.setCell (by simp) _).setCell (by simp) _).setCell (by simp) _).setCell (by simp) _)
  clear hW2 r0 r1 r2 r3 q0 q1 q2 q3
  have r0 := R2.out.cell 0
  have r1 := R2.out.cell 1
  have r2 := R2.out.cell 2
  have r3 := R2.out.cell 3
  exact bodyPost_ret (v := .tuple #[.agg #[.int .i64 0, .int .i64 0, .int .i64 0, .int .i64 0], .bool false]) (by simp [results, Try.results13, go_sem, r0, r1, r2, r3]) rfl ⟨rfl, by first | exact B2.out.drew | exact B2.out⟩
set_option maxHeartbeats 1000000 in
theorem tget_some {g : Nat} {ttl : Int} {ns : Nat → Nt} (k : Nat) (hk : k < 8) (now t e a : Int) (w : World) (h : Tbl w g true ttl ns) (hn : ns k = some (t, e, a)) :
    Calls Try.prog 13 #[.pointer (some ⟨g, 0, none⟩), .int .i64 k, .int .i64 now] w fun e' w' => e' = .returned (.tuple #[.agg (kv k (some (t, e, a)) (decide (leftT now a ≤ ttl))), .bool (decide (leftT now a ≤ ttl))]) ∧ Below w.heap.size w w' := by
  have H := Lib.hid h
  have hc0 := (h.below ((Below.refl _ w).alloc (Nat.le_refl _) (.cells #[.int .i64 0, .int .i64 0, .int .i64 0, .int .i64 0] 51))).c0
  have c0 := h.ac k hk
  rw [hn] at c0
  simp only [nv] at c0
  clear h
  have hk0 := dlt_f (a := (k : Int)) (b := 0) (by omega)
  have hk8 := dle_f (a := 8) (b := (k : Int)) (by omega)
  go_enter Try.func13, Try.ntmps13
  go_wp2_with fail
  refine (tnone_any _ hc0).mono ?_; rintro e w' ⟨rfl, rfl⟩
  clear hc0
  go_wp2_with fail
  generalize hW : (World.alloc (World.alloc w _) _) = W
  have A := Lib.hid (show G21 w g true ttl ns #[.bool true, .int .i64 k, .int .i64 t, .int .i64 e, .int .i64 a] W by
    rw [← hW]
    exact ⟨((Below.refl _ w).alloc (Nat.le_refl _) _).alloc (by simp) _, Bk.below (Bk.new w _ _) ((Below.refl _ _).alloc (Nat.le_refl _) _), by simpa using Bk.new (w.alloc (.cells #[.int .i64 0, .int .i64 0, .int .i64 0, .int .i64 0] 51)) 70 #[.bool true, .int .i64 k, .int .i64 t, .int .i64 e, .int .i64 a], (H.out.below ((Below.refl _ _).alloc (Nat.le_refl _) _)).below ((Below.refl _ _).alloc (Nat.le_refl _) _)⟩)
  clear hW c0 H hk0 hk8
  have E := Lib.hid (left_any now a)
  obtain ⟨lf, hlf⟩ : ∃ x, leftT now a = x := ⟨_, rfl⟩
  rw [hlf] at E
  have HLF := Lib.hid hlf
  clear hlf
  rcases (by omega : lf ≤ ttl ∨ ttl < lf) with hl | hl
  · have E2 := Lib.hid (show decide (lf ≤ ttl) = true from dle_t hl)
    refine wp_region_held_drew (S := (fun W => (W.cell? ⟨w.heap.size + 1, 0, none⟩ = some (.bool true) ∧ W.cell? ⟨w.heap.size + 1, 1, none⟩ = some (.int .i64 k) ∧ W.cell? ⟨w.heap.size + 1, 2, none⟩ = some (.int .i64 t) ∧ W.cell? ⟨w.heap.size + 1, 3, none⟩ = some (.int .i64 e) ∧ W.cell? ⟨w.heap.size + 1, 4, none⟩ = some (.int .i64 a) ∧ W.cell? ⟨g, 1, none⟩ = some (.int .i64 ttl)) ∧ G21 w g true ttl ns #[.bool true, .int .i64 k, .int .i64 t, .int .i64 e, .int .i64 a] W)) (by kernel_rfl) ?_ (fun hHeld => ?_)
    · (try dsimp only); first | exact (G21.below hHeld.2 (by assumption)).s | exact A.out.drew.s
    refine wpD_go (by kernel_rfl) _ _ _ _ (by assumption) ?_
    refine wpD_step (i := 0) (o := { dst := some 26, op := Op.load 70 (Operand.tmp 8), type := 70, pos := "table.go:58", after := #[], guard := none }) (v := ?_) rfl (by kernel_rfl) (by kernel_rfl) (gives_pure (by rfl) ?_) ?_
    rotate_left
    · intro w0 hSw; (try dsimp only at hSw); go_simp; (try with_reducible rfl)
    try simp only [Act.put, List.setIfInBounds_toArray, List.set_cons_zero, List.set_cons_succ]
    refine wpD_step (i := 1) (o := { dst := some 27, op := Op.build 70 #[], type := 70, pos := "table.go:58", after := #[], guard := none }) (v := ?_) rfl (by kernel_rfl) (by kernel_rfl) (gives_pure (by rfl) ?_) ?_
    rotate_left
    · intro w0 hSw; (try dsimp only at hSw); go_simp; (try with_reducible rfl)
    try simp only [Act.put, List.setIfInBounds_toArray, List.set_cons_zero, List.set_cons_succ]
    refine wpD_step (i := 2) (o := { dst := some 28, op := Op.binOp BinOp.eql 70 (Operand.tmp 26) (Operand.tmp 27) 70, type := 4, pos := "table.go:58", after := #[{ on := 0, ground := Ground.data }, { on := 1, ground := Ground.data }], guard := none }) (v := ?_) rfl (by kernel_rfl) (by kernel_rfl) (gives_pure (by rfl) ?_) ?_
    rotate_left
    · intro w0 hSw; (try dsimp only at hSw); go_simp; (try with_reducible rfl)
    try simp only [Act.put, List.setIfInBounds_toArray, List.set_cons_zero, List.set_cons_succ]
    refine wpD_step (i := 3) (o := { dst := some 29, op := Op.move (Operand.tmp 28), type := 4, pos := "table.go:58", after := #[{ on := 2, ground := Ground.data }], guard := none }) (v := ?_) rfl (by kernel_rfl) (by kernel_rfl) (gives_pure (by rfl) ?_) ?_
    rotate_left
    · intro w0 hSw; (try dsimp only at hSw); go_simp; (try with_reducible rfl)
    try simp only [Act.put, List.setIfInBounds_toArray, List.set_cons_zero, List.set_cons_succ]
    refine wpD_step (i := 4) (o := { dst := some 30, op := Op.move (Operand.tmp 2), type := 3, pos := "table.go:58", after := #[{ on := 3, ground := Ground.guard }], guard := some (3, false) }) (v := ?_) rfl (by kernel_rfl) (by kernel_rfl) (gives_pure (by rfl) ?_) ?_
    rotate_left
    · intro w0 hSw; (try dsimp only at hSw); go_simp; (try with_reducible rfl)
    try simp only [Act.put, List.setIfInBounds_toArray, List.set_cons_zero, List.set_cons_succ]
    refine wpD_step (i := 5) (o := { dst := some 31, op := Op.fieldAddr 70 (Operand.tmp 8) 1, type := 0, pos := "table.go:58", after := #[{ on := 3, ground := Ground.guard }], guard := some (3, false) }) (v := ?_) rfl (by kernel_rfl) (by kernel_rfl) (gives_pure (by rfl) ?_) ?_
    rotate_left
    · intro w0 hSw; (try dsimp only at hSw); go_simp; (try with_reducible rfl)
    try simp only [Act.put, List.setIfInBounds_toArray, List.set_cons_zero, List.set_cons_succ]
    refine wpD_step (i := 6) (o := { dst := some 32, op := Op.fieldAddr 51 (Operand.tmp 31) 3, type := 0, pos := "table.go:58", after := #[{ on := 5, ground := Ground.data }, { on := 3, ground := Ground.guard }], guard := some (3, false) }) (v := ?_) rfl (by kernel_rfl) (by kernel_rfl) (gives_pure (by rfl) ?_) ?_
    rotate_left
    · intro w0 hSw; (try dsimp only at hSw); go_simp; (try with_reducible rfl)
    try simp only [Act.put, List.setIfInBounds_toArray, List.set_cons_zero, List.set_cons_succ]
    refine wpD_step (i := 7) (o := { dst := some 33, op := Op.load 3 (Operand.tmp 32), type := 3, pos := "table.go:58", after := #[{ on := 6, ground := Ground.data }, { on := 3, ground := Ground.guard }], guard := some (3, false) }) (v := ?_) rfl (by kernel_rfl) (by kernel_rfl) (gives_pure (by rfl) ?_) ?_
    rotate_left
    · intro w0 hSw; (try dsimp only at hSw); go_simp; (try with_reducible rfl)
    try simp only [Act.put, List.setIfInBounds_toArray, List.set_cons_zero, List.set_cons_succ]
    refine wpD_step (i := 9) (o := { dst := some 35, op := Op.move (Operand.tmp 0), type := 27, pos := "table.go:58", after := #[{ on := 3, ground := Ground.guard }], guard := some (3, false) }) (v := ?_) rfl (by kernel_rfl) (by kernel_rfl) (gives_pure (by rfl) ?_) ?_
    rotate_left
    · intro w0 hSw; (try dsimp only at hSw); go_simp; (try with_reducible rfl)
    try simp only [Act.put, List.setIfInBounds_toArray, List.set_cons_zero, List.set_cons_succ]
    refine wpD_step (i := 10) (o := { dst := some 36, op := Op.nilCheck (Operand.tmp 35), type := 0, pos := "table.go:58", after := #[{ on := 9, ground := Ground.data }, { on := 3, ground := Ground.guard }], guard := some (3, false) }) (v := ?_) rfl (by kernel_rfl) (by kernel_rfl) (gives_pure (by rfl) ?_) ?_
    rotate_left
    · intro w0 hSw; (try dsimp only at hSw); go_simp; (try with_reducible rfl)
    try simp only [Act.put, List.setIfInBounds_toArray, List.set_cons_zero, List.set_cons_succ]
    refine wpD_step (i := 11) (o := { dst := some 37, op := Op.fieldAddr 73 (Operand.tmp 36) 1, type := 0, pos := "table.go:58", after := #[{ on := 10, ground := Ground.data }, { on := 3, ground := Ground.guard }], guard := some (3, false) }) (v := ?_) rfl (by kernel_rfl) (by kernel_rfl) (gives_pure (by rfl) ?_) ?_
    rotate_left
    · intro w0 hSw; (try dsimp only at hSw); go_simp; (try with_reducible rfl)
    try simp only [Act.put, List.setIfInBounds_toArray, List.set_cons_zero, List.set_cons_succ]
    refine wpD_step (i := 12) (o := { dst := some 38, op := Op.load 3 (Operand.tmp 37), type := 3, pos := "table.go:58", after := #[{ on := 11, ground := Ground.data }, { on := 3, ground := Ground.guard }], guard := some (3, false) }) (v := ?_) rfl (by kernel_rfl) (by kernel_rfl) (gives_pure (by rfl) ?_) ?_
    rotate_left
    · intro w0 hSw; (try dsimp only at hSw); go_simp; (try with_reducible rfl)
    try simp only [Act.put, List.setIfInBounds_toArray, List.set_cons_zero, List.set_cons_succ]
    refine wpD_step (i := 8) (o := { dst := some 34, op := Op.call { callee := Callee.value (Operand.func 26), args := #[Operand.tmp 30, Operand.tmp 33], argTypes := #[3, 3] }, type := 3, pos := "table.go:58", after := #[{ on := 4, ground := Ground.data }, { on := 7, ground := Ground.data }, { on := 3, ground := Ground.chain }, { on := 3, ground := Ground.guard }], guard := some (3, false) }) (v := ?_) rfl (by kernel_rfl) (by kernel_rfl) (gives_call (by rfl) ?_) ?_
    rotate_left
    · intro w0 hHeld b0 K0 Q0 hK0; have hSw := hHeld; (try dsimp only at hSw); go_simp; refine (E.out _).mono ?_; rintro e' w5 ⟨rfl, b5⟩; exact hK0 _ (by (try dsimp only); first | exact (G21.below hHeld.2 (by assumption)).s | exact A.out.drew.s)
    try simp only [Act.put, List.setIfInBounds_toArray, List.set_cons_zero, List.set_cons_succ]
    refine wpD_step (i := 13) (o := { dst := some 39, op := Op.binOp BinOp.gtr 3 (Operand.tmp 34) (Operand.tmp 38) 3, type := 4, pos := "table.go:58", after := #[{ on := 8, ground := Ground.data }, { on := 12, ground := Ground.data }, { on := 3, ground := Ground.guard }], guard := some (3, false) }) (v := ?_) rfl (by kernel_rfl) (by kernel_rfl) (gives_pure (by rfl) ?_) ?_
    rotate_left
    · intro w0 hSw; (try dsimp only at hSw); go_simp; (try with_reducible rfl)
    try simp only [Act.put, List.setIfInBounds_toArray, List.set_cons_zero, List.set_cons_succ]
    refine wpD_step (i := 14) (o := { dst := some 40, op := Op.pick (Operand.tmp 29) (Operand.const (Value.bool true)) (Operand.tmp 39), type := 4, pos := "table.go:58", after := #[{ on := 3, ground := Ground.data }, { on := 13, ground := Ground.data }], guard := none }) (v := ?_) rfl (by kernel_rfl) (by kernel_rfl) (gives_pure (by rfl) ?_) ?_
    rotate_left
    · intro w0 hSw; (try dsimp only at hSw); go_simp; (try with_reducible rfl)
    try simp only [Act.put, List.setIfInBounds_toArray, List.set_cons_zero, List.set_cons_succ]
    refine wpD_done (by kernel_rfl) (fun wz hHeld => ?_) _
    have r0 := hHeld.2.r.cell 0
    have r1 := hHeld.2.r.cell 1
    have r2 := hHeld.2.r.cell 2
    have r3 := hHeld.2.r.cell 3
    have q0 := hHeld.2.r.frozen 0
    have q1 := hHeld.2.r.frozen 1
    have q2 := hHeld.2.r.frozen 2
    have q3 := hHeld.2.r.frozen 3
    have n1 := hHeld.2.n.cell 1
    have n2 := hHeld.2.n.cell 2
    have n3 := hHeld.2.n.cell 3
    have n4 := hHeld.2.n.cell 4
    go_wp2_with fail
    generalize hW2 : World.setCell (World.setCell (World.setCell (World.setCell _ _ _) _ _) _ _) _ _ = W2
    have R2 := Lib.hid (show Bk W2 w.heap.size 51 #[.int .i64 k, .int .i64 t, .int .i64 e, .int .i64 a] by rw [← hW2]; exact (((hHeld.2.r.set_ 0 _).set_ 1 _).set_ 2 _).set_ 3 _)
    have B2 := Lib.hid (show Below w.heap.size w W2 by rw [← hW2]; exact (((hHeld.2.bl.setCell (by simp) _).setCell (by simp) _).setCell (by simp) _).setCell (by simp) _)
    clear hW2 r0 r1 r2 r3 q0 q1 q2 q3
    have r0 := R2.out.cell 0
    have r1 := R2.out.cell 1
    have r2 := R2.out.cell 2
    have r3 := R2.out.cell 3
    exact bodyPost_ret (v := .tuple #[.agg #[.int .i64 k, .int .i64 t, .int .i64 e, .int .i64 a], .bool true]) (by simp [results, Try.results13, go_sem, r0, r1, r2, r3]) rfl ⟨by rw [HLF.out, E2.out]; rfl, by first | exact B2.out.drew | exact B2.out⟩
  · have E2 := Lib.hid (show decide (lf ≤ ttl) = false from dle_f hl)
    refine wp_region_held_drew (S := (fun W => (W.cell? ⟨w.heap.size + 1, 0, none⟩ = some (.bool true) ∧ W.cell? ⟨w.heap.size + 1, 1, none⟩ = some (.int .i64 k) ∧ W.cell? ⟨w.heap.size + 1, 2, none⟩ = some (.int .i64 t) ∧ W.cell? ⟨w.heap.size + 1, 3, none⟩ = some (.int .i64 e) ∧ W.cell? ⟨w.heap.size + 1, 4, none⟩ = some (.int .i64 a) ∧ W.cell? ⟨g, 1, none⟩ = some (.int .i64 ttl)) ∧ G21 w g true ttl ns #[.bool true, .int .i64 k, .int .i64 t, .int .i64 e, .int .i64 a] W)) (by kernel_rfl) ?_ (fun hHeld => ?_)
    · (try dsimp only); first | exact (G21.below hHeld.2 (by assumption)).s | exact A.out.drew.s
    refine wpD_go (by kernel_rfl) _ _ _ _ (by assumption) ?_
    refine wpD_step (i := 0) (o := { dst := some 26, op := Op.load 70 (Operand.tmp 8), type := 70, pos := "table.go:58", after := #[], guard := none }) (v := ?_) rfl (by kernel_rfl) (by kernel_rfl) (gives_pure (by rfl) ?_) ?_
    rotate_left
    · intro w0 hSw; (try dsimp only at hSw); go_simp; (try with_reducible rfl)
    try simp only [Act.put, List.setIfInBounds_toArray, List.set_cons_zero, List.set_cons_succ]
    refine wpD_step (i := 1) (o := { dst := some 27, op := Op.build 70 #[], type := 70, pos := "table.go:58", after := #[], guard := none }) (v := ?_) rfl (by kernel_rfl) (by kernel_rfl) (gives_pure (by rfl) ?_) ?_
    rotate_left
    · intro w0 hSw; (try dsimp only at hSw); go_simp; (try with_reducible rfl)
    try simp only [Act.put, List.setIfInBounds_toArray, List.set_cons_zero, List.set_cons_succ]
    refine wpD_step (i := 2) (o := { dst := some 28, op := Op.binOp BinOp.eql 70 (Operand.tmp 26) (Operand.tmp 27) 70, type := 4, pos := "table.go:58", after := #[{ on := 0, ground := Ground.data }, { on := 1, ground := Ground.data }], guard := none }) (v := ?_) rfl (by kernel_rfl) (by kernel_rfl) (gives_pure (by rfl) ?_) ?_
    rotate_left
    · intro w0 hSw; (try dsimp only at hSw); go_simp; (try with_reducible rfl)
    try simp only [Act.put, List.setIfInBounds_toArray, List.set_cons_zero, List.set_cons_succ]
    refine wpD_step (i := 3) (o := { dst := some 29, op := Op.move (Operand.tmp 28), type := 4, pos := "table.go:58", after := #[{ on := 2, ground := Ground.data }], guard := none }) (v := ?_) rfl (by kernel_rfl) (by kernel_rfl) (gives_pure (by rfl) ?_) ?_
    rotate_left
    · intro w0 hSw; (try dsimp only at hSw); go_simp; (try with_reducible rfl)
    try simp only [Act.put, List.setIfInBounds_toArray, List.set_cons_zero, List.set_cons_succ]
    refine wpD_step (i := 4) (o := { dst := some 30, op := Op.move (Operand.tmp 2), type := 3, pos := "table.go:58", after := #[{ on := 3, ground := Ground.guard }], guard := some (3, false) }) (v := ?_) rfl (by kernel_rfl) (by kernel_rfl) (gives_pure (by rfl) ?_) ?_
    rotate_left
    · intro w0 hSw; (try dsimp only at hSw); go_simp; (try with_reducible rfl)
    try simp only [Act.put, List.setIfInBounds_toArray, List.set_cons_zero, List.set_cons_succ]
    refine wpD_step (i := 5) (o := { dst := some 31, op := Op.fieldAddr 70 (Operand.tmp 8) 1, type := 0, pos := "table.go:58", after := #[{ on := 3, ground := Ground.guard }], guard := some (3, false) }) (v := ?_) rfl (by kernel_rfl) (by kernel_rfl) (gives_pure (by rfl) ?_) ?_
    rotate_left
    · intro w0 hSw; (try dsimp only at hSw); go_simp; (try with_reducible rfl)
    try simp only [Act.put, List.setIfInBounds_toArray, List.set_cons_zero, List.set_cons_succ]
    refine wpD_step (i := 6) (o := { dst := some 32, op := Op.fieldAddr 51 (Operand.tmp 31) 3, type := 0, pos := "table.go:58", after := #[{ on := 5, ground := Ground.data }, { on := 3, ground := Ground.guard }], guard := some (3, false) }) (v := ?_) rfl (by kernel_rfl) (by kernel_rfl) (gives_pure (by rfl) ?_) ?_
    rotate_left
    · intro w0 hSw; (try dsimp only at hSw); go_simp; (try with_reducible rfl)
    try simp only [Act.put, List.setIfInBounds_toArray, List.set_cons_zero, List.set_cons_succ]
    refine wpD_step (i := 7) (o := { dst := some 33, op := Op.load 3 (Operand.tmp 32), type := 3, pos := "table.go:58", after := #[{ on := 6, ground := Ground.data }, { on := 3, ground := Ground.guard }], guard := some (3, false) }) (v := ?_) rfl (by kernel_rfl) (by kernel_rfl) (gives_pure (by rfl) ?_) ?_
    rotate_left
    · intro w0 hSw; (try dsimp only at hSw); go_simp; (try with_reducible rfl)
    try simp only [Act.put, List.setIfInBounds_toArray, List.set_cons_zero, List.set_cons_succ]
    refine wpD_step (i := 9) (o := { dst := some 35, op := Op.move (Operand.tmp 0), type := 27, pos := "table.go:58", after := #[{ on := 3, ground := Ground.guard }], guard := some (3, false) }) (v := ?_) rfl (by kernel_rfl) (by kernel_rfl) (gives_pure (by rfl) ?_) ?_
    rotate_left
    · intro w0 hSw; (try dsimp only at hSw); go_simp; (try with_reducible rfl)
    try simp only [Act.put, List.setIfInBounds_toArray, List.set_cons_zero, List.set_cons_succ]
    refine wpD_step (i := 10) (o := { dst := some 36, op := Op.nilCheck (Operand.tmp 35), type := 0, pos := "table.go:58", after := #[{ on := 9, ground := Ground.data }, { on := 3, ground := Ground.guard }], guard := some (3, false) }) (v := ?_) rfl (by kernel_rfl) (by kernel_rfl) (gives_pure (by rfl) ?_) ?_
    rotate_left
    · intro w0 hSw; (try dsimp only at hSw); go_simp; (try with_reducible rfl)
    try simp only [Act.put, List.setIfInBounds_toArray, List.set_cons_zero, List.set_cons_succ]
    refine wpD_step (i := 11) (o := { dst := some 37, op := Op.fieldAddr 73 (Operand.tmp 36) 1, type := 0, pos := "table.go:58", after := #[{ on := 10, ground := Ground.data }, { on := 3, ground := Ground.guard }], guard := some (3, false) }) (v := ?_) rfl (by kernel_rfl) (by kernel_rfl) (gives_pure (by rfl) ?_) ?_
    rotate_left
    · intro w0 hSw; (try dsimp only at hSw); go_simp; (try with_reducible rfl)
    try simp only [Act.put, List.setIfInBounds_toArray, List.set_cons_zero, List.set_cons_succ]
    refine wpD_step (i := 12) (o := { dst := some 38, op := Op.load 3 (Operand.tmp 37), type := 3, pos := "table.go:58", after := #[{ on := 11, ground := Ground.data }, { on := 3, ground := Ground.guard }], guard := some (3, false) }) (v := ?_) rfl (by kernel_rfl) (by kernel_rfl) (gives_pure (by rfl) ?_) ?_
    rotate_left
    · intro w0 hSw; (try dsimp only at hSw); go_simp; (try with_reducible rfl)
    try simp only [Act.put, List.setIfInBounds_toArray, List.set_cons_zero, List.set_cons_succ]
    refine wpD_step (i := 8) (o := { dst := some 34, op := Op.call { callee := Callee.value (Operand.func 26), args := #[Operand.tmp 30, Operand.tmp 33], argTypes := #[3, 3] }, type := 3, pos := "table.go:58", after := #[{ on := 4, ground := Ground.data }, { on := 7, ground := Ground.data }, { on := 3, ground := Ground.chain }, { on := 3, ground := Ground.guard }], guard := some (3, false) }) (v := ?_) rfl (by kernel_rfl) (by kernel_rfl) (gives_call (by rfl) ?_) ?_
    rotate_left
    · intro w0 hHeld b0 K0 Q0 hK0; have hSw := hHeld; (try dsimp only at hSw); go_simp; refine (E.out _).mono ?_; rintro e' w5 ⟨rfl, b5⟩; exact hK0 _ (by (try dsimp only); first | exact (G21.below hHeld.2 (by assumption)).s | exact A.out.drew.s)
    try simp only [Act.put, List.setIfInBounds_toArray, List.set_cons_zero, List.set_cons_succ]
    refine wpD_step (i := 13) (o := { dst := some 39, op := Op.binOp BinOp.gtr 3 (Operand.tmp 34) (Operand.tmp 38) 3, type := 4, pos := "table.go:58", after := #[{ on := 8, ground := Ground.data }, { on := 12, ground := Ground.data }, { on := 3, ground := Ground.guard }], guard := some (3, false) }) (v := ?_) rfl (by kernel_rfl) (by kernel_rfl) (gives_pure (by rfl) ?_) ?_
    rotate_left
    · intro w0 hSw; (try dsimp only at hSw); go_simp; (try with_reducible rfl)
    try simp only [Act.put, List.setIfInBounds_toArray, List.set_cons_zero, List.set_cons_succ]
    refine wpD_step (i := 14) (o := { dst := some 40, op := Op.pick (Operand.tmp 29) (Operand.const (Value.bool true)) (Operand.tmp 39), type := 4, pos := "table.go:58", after := #[{ on := 3, ground := Ground.data }, { on := 13, ground := Ground.data }], guard := none }) (v := ?_) rfl (by kernel_rfl) (by kernel_rfl) (gives_pure (by rfl) ?_) ?_
    rotate_left
    · intro w0 hSw; (try dsimp only at hSw); go_simp; (try with_reducible rfl)
    try simp only [Act.put, List.setIfInBounds_toArray, List.set_cons_zero, List.set_cons_succ]
    refine wpD_done (by kernel_rfl) (fun wz hHeld => ?_) _
    have r0 := hHeld.2.r.cell 0
    have r1 := hHeld.2.r.cell 1
    have r2 := hHeld.2.r.cell 2
    have r3 := hHeld.2.r.cell 3
    have q0 := hHeld.2.r.frozen 0
    have q1 := hHeld.2.r.frozen 1
    have q2 := hHeld.2.r.frozen 2
    have q3 := hHeld.2.r.frozen 3
    go_wp2_with fail
    generalize hW2 : World.setCell (World.setCell (World.setCell (World.setCell _ _ _) _ _) _ _) _ _ = W2
    have R2 := Lib.hid (show Bk W2 w.heap.size 51 #[.int .i64 0, .int .i64 0, .int .i64 0, .int .i64 0] by rw [← hW2]; exact (((hHeld.2.r.set_ 0 _).set_ 1 _).set_ 2 _).set_ 3 _)
    have B2 := Lib.hid (show Below w.heap.size w W2 by rw [← hW2]; exact (((hHeld.2.bl.setCell (by simp) _).setCell (by simp) _).setCell (by simp) _).setCell (by simp) _)
    clear hW2 r0 r1 r2 r3 q0 q1 q2 q3
    have r0 := R2.out.cell 0
    have r1 := R2.out.cell 1
    have r2 := R2.out.cell 2
    have r3 := R2.out.cell 3
    exact bodyPost_ret (v := .tuple #[.agg #[.int .i64 0, .int .i64 0, .int .i64 0, .int .i64 0], .bool false]) (by simp [results, Try.results13, go_sem, r0, r1, r2, r3]) rfl ⟨by rw [HLF.out, E2.out]; rfl, by first | exact B2.out.drew | exact B2.out⟩
end Go.Proofs.Ytahahflpackiiaa
namespace Go.Proofs.Ytahahflpackiiaa
open Go.RowKit Bd Tb
abbrev Kq := Int × Int × Int × Int
def gv : Option Kq → Array Value
  | some (a, b, c, d) => #[.int .i64 a, .int .i64 b, .int .i64 c, .int .i64 d]
  | none => #[.int .i64 0, .int .i64 0, .int .i64 0, .int .i64 0]
theorem gv_none : gv none = #[.int .i64 0, .int .i64 0, .int .i64 0, .int .i64 0] := rfl
theorem gv_some (a b c d : Int) : gv (some (a, b, c, d)) = #[.int .i64 a, .int .i64 b, .int .i64 c, .int .i64 d] := rfl
/-- What Get answers of a table. -/
def gq (ns : Nat → Nt) (ttl to now : Int) : Option Kq :=
  if 0 ≤ to ∧ to < 8 then
    match ns to.toNat with
    | some (t, e, a) => if leftT now a ≤ ttl then some (to, t, e, a) else none
    | none => none
  else none
/-- The pointer p is asked as q tells, in each world behind w. -/
def Asks (w : World) (p : Value) (q : Int → Int → Option Kq) : Prop :=
  ∀ (to now : Int) (W : World), Below w.heap.size w W → Calls Try.prog 13 #[p, .int .i64 to, .int .i64 now] W fun e w' => e = .returned (.tuple #[.agg (gv (q to now)), .bool (q to now).isSome]) ∧ Below W.heap.size W w'
theorem Asks.below {w w' : World} {p : Value} {q : Int → Int → Option Kq} (h : Asks w p q) (k : Below w.heap.size w w') : Asks w' p q := fun to now W hb => h to now W (k.trans (hb.mono k.size))
theorem asks_tbl {w : World} {g : Nat} {ttl : Int} {ns : Nat → Nt} (h : Tbl w g true ttl ns) : Asks w (.pointer (some ⟨g, 0, none⟩)) (gq ns ttl) := by
  intro to now W hb
  have H := h.below hb
  by_cases hto : 0 ≤ to ∧ to < 8
  · obtain ⟨k, rfl⟩ : ∃ k : Nat, to = k := ⟨to.toNat, by omega⟩
    have hk : k < 8 := by omega
    unfold gq
    rw [if_pos hto, Int.toNat_natCast]
    rcases hn : ns k with _ | ⟨t, e, a⟩
    · exact tget_none k hk now W H hn
    · by_cases hl : leftT now a ≤ ttl
      · have := tget_some k hk now t e a W H hn
        rw [decide_eq_true hl] at this
        simp only [hl, if_true]
        exact this
      · have := tget_some k hk now t e a W H hn
        rw [decide_eq_false hl] at this
        simp only [hl, if_false]
        exact this
  · unfold gq
    rw [if_neg hto]
    exact tget_far to now W H.c0 (by omega)
/-- Does it cut? -/
def cutB (q : Option Kq) (l : Int) : Bool :=
  match q with
  | none => false
  | some (_, t, _, _) => !(decide (0 ≤ l) && decide (l < t))
theorem tcuts_any {p : Value} {q : Int → Int → Option Kq} (to l now : Int) (w : World) (h : Asks w p q) :
    Calls Try.prog 14 #[p, .int .i64 to, .int .i64 l, .int .i64 now] w fun e w' => e = .returned (.bool (cutB (q to now) l)) ∧ Below w.heap.size w w' := by
  have G := h to now w (Below.refl _ _)
  clear h
  rcases hq : q to now with _ | ⟨a, t, e, at'⟩
  · rw [hq] at G
    rw [gv_none] at G
    have E := Lib.hid (show false = cutB none l from rfl)
    clear hq
    change Calls _ _ _ _ fun e w' => e = .returned (.tuple #[_, .bool false]) ∧ _ at G
    have G := Lib.hid G
    go_enter Try.func14, Try.ntmps14
    go_wp2_with fail
    refine G.out.mono ?_; rintro e w1 ⟨rfl, b1⟩
    go_wp2_with fail
    go_ret
    exact ⟨ret_bool E.out, b1.alloc b1.size _⟩
  · rw [hq] at G
    rw [gv_some] at G
    have E := Lib.hid (show (!decide (0 ≤ l) || !decide (l < t)) = cutB (some (a, t, e, at')) l by simp only [cutB]; rw [Bool.not_and])
    clear hq
    change Calls _ _ _ _ fun e w' => e = .returned (.tuple #[_, .bool true]) ∧ _ at G
    have G := Lib.hid G
    go_enter Try.func14, Try.ntmps14
    go_wp2_with fail
    refine G.out.mono ?_; rintro e' w1 ⟨rfl, b1⟩
    go_wp2_with fail
    refine (passes_any l t _).mono ?_; rintro e' w' ⟨rfl, rfl⟩
    go_wp2_with fail
    go_ret
    exact ⟨ret_bool E.out, b1.alloc b1.size _⟩
/-- What a table knows behind something that was told. -/
def lrnN (ns : Nat → Nt) (to th ep now : Int) : Nat → Nt := if 0 ≤ to ∧ to < 8 then upd ns to.toNat (lrn (ns to.toNat) th ep now) else ns
def lrnB (ns : Nat → Nt) (to ep : Int) : Bool := if 0 ≤ to ∧ to < 8 then lok (ns to.toNat) ep else false
theorem upd_id (ns : Nat → Nt) (k : Nat) : upd ns k (ns k) = ns := by
  funext i; unfold upd; split
  · subst_vars; rfl
  · rfl
theorem tlearn_far {g : Nat} {ttl : Int} {ns : Nat → Nt} (to th ep now : Int) (hto : to < 0 ∨ 8 ≤ to) (w : World) (h : Tbl w g true ttl ns) :
    Calls Try.prog 16 #[.pointer (some ⟨g, 0, none⟩), .int .i64 to, .int .i64 th, .int .i64 ep, .int .i64 now] w fun e w' => e = .returned (.bool false) ∧ w = w' := by
  have hd : (decide (to < 0) = true) ∨ (decide (to < 0) = false ∧ decide (8 ≤ to) = true) := by
    rcases (by omega : to < 0 ∨ 0 ≤ to) with h | h
    · exact Or.inl (dlt_t h)
    · exact Or.inr ⟨dlt_f h, dle_t (by omega)⟩
  clear hto
  rcases hd with h1 | ⟨h1, h2⟩
  all_goals
    go_enter Try.func16, Try.ntmps16
    go_wp2_with fail
    refine (tnone_any _ h.c0).mono ?_; rintro e w' ⟨rfl, rfl⟩
    go_wp2_with fail
    go_ret
    exact ⟨rfl, rfl⟩
theorem tlearn_any {g : Nat} {ttl : Int} {ns : Nat → Nt} (to th ep now : Int) (w : World) (h : Tbl w g true ttl ns) :
    Calls Try.prog 16 #[.pointer (some ⟨g, 0, none⟩), .int .i64 to, .int .i64 th, .int .i64 ep, .int .i64 now] w fun e w' => e = .returned (.bool (lrnB ns to ep)) ∧ Tbl w' g true ttl (lrnN ns to th ep now) ∧ w.grownBy w' (some g) := by
  by_cases hto : 0 ≤ to ∧ to < 8
  · obtain ⟨k, rfl⟩ : ∃ k : Nat, to = k := ⟨to.toNat, by omega⟩
    have hk : k < 8 := by omega
    unfold lrnB lrnN
    rw [if_pos hto, if_pos hto, Int.toNat_natCast]
    rcases hn : ns k with _ | ⟨t0, e0, a0⟩
    · exact tlearn_new k hk th ep now w h hn
    · rcases (by omega : ep < e0 ∨ e0 = ep ∨ e0 < ep) with he | he | he
      · refine (tlearn_old k hk th ep now t0 e0 a0 he w h hn).mono ?_
        rintro e w' ⟨rfl, hb⟩
        refine ⟨ret_bool (by simp [lok]; omega), ?_, only_below hb _⟩
        rw [show lrn (some (t0, e0, a0)) th ep now = ns k by rw [hn]; simp only [lrn]; rw [if_pos he], upd_id]
        exact h.below hb
      · subst he
        refine (tlearn_same k hk th e0 now t0 a0 w h hn).mono ?_
        rintro e w' ⟨rfl, ht, ho⟩
        refine ⟨ret_bool (by simp [lok]), ?_, ho⟩
        rw [show lrn (some (t0, e0, a0)) th e0 now = some (t0, e0, kp now tMost) by unfold lrn; dsimp only; rw [if_neg (by omega), if_pos rfl]]
        exact ht
      · refine (tlearn_up k hk th ep now t0 e0 a0 he w h hn).mono ?_
        rintro e w' ⟨rfl, ht, ho⟩
        refine ⟨ret_bool (by simp [lok]; omega), ?_, ho⟩
        rw [show lrn (some (t0, e0, a0)) th ep now = some (th, ep, kp now tMost) by simp only [lrn]; rw [if_neg (by omega), if_neg (by omega)]]
        exact ht
  · unfold lrnB lrnN
    rw [if_neg hto, if_neg hto]
    refine (tlearn_far to th ep now (by omega) w h).mono ?_
    rintro e w' ⟨rfl, rfl⟩
    exact ⟨rfl, h, only_refl _ _⟩
end Go.Proofs.Ytahahflpackiiaa
namespace Go.Proofs.Ytahahflpackiiaa
open Go.RowKit Bd
end Go.Proofs.Ytahahflpackiiaa
namespace Go.Proofs.Ytahahflpackiiaa
namespace Sp
open Bd
def partP (l w : Int) : Int := kp l tMost * kp w 8 / 8
def hopH (p m : Int) : Int := if kp m 65535 < kp p tMost / 2 then kp m 65535 else kp p tMost / 2
def callOk (now dl w m : Int) : Bool := decide (1 ≤ hopH (partP (leftT dl now) w) m)
def callD (now dl w m : Int) : Int := if callOk now dl w m then laterT now (partP (leftT dl now) w) else 0
def callW (now dl w m : Int) : Int := if callOk now dl w m then hopH (partP (leftT dl now) w) m else 0
theorem k8 (w : Int) : 0 ≤ kp w 8 ∧ kp w 8 ≤ 8 := ⟨kp_lo _ _, kp_hi _ _ (by decide)⟩
theorem kb (w : Int) : 0 ≤ kp w 65535 ∧ kp w 65535 ≤ 65535 := ⟨kp_lo _ _, kp_hi _ _ (by decide)⟩
theorem prod8 (l w : Int) : 0 ≤ kp l tMost * kp w 8 ∧ kp l tMost * kp w 8 ≤ 8796093022208 ∧ kp l tMost * kp w 8 ≤ kp l tMost * 8 := by
  have h1 := kt l; have h2 := k8 w
  have h3 := Int.mul_le_mul_of_nonneg_left h2.2 h1.1
  exact ⟨Int.mul_nonneg h1.1 h2.1, by omega, h3⟩
theorem partP_b (l w : Int) : 0 ≤ partP l w ∧ partP l w ≤ kp l tMost := by
  have := prod8 l w; unfold partP; omega
theorem hopH_b (p m : Int) : 0 ≤ hopH p m ∧ hopH p m ≤ kp p tMost / 2 ∧ hopH p m ≤ kp m 65535 := by
  have := kb m; have := kt p; unfold hopH; split <;> omega
theorem leftT_pos (dl now : Int) (h : 0 < leftT dl now) : leftT dl now = kp dl tMost - kp now tMost := by
  have h1 := kt dl; have h2 := kt now
  unfold leftT at h ⊢
  have h0 : 0 < kp dl tMost - kp now tMost := by
    rcases Int.lt_or_le 0 (kp dl tMost - kp now tMost) with h3 | h3
    · exact h3
    · rw [kp_neg _ _ h3] at h; omega
  exact kp_id _ _ (by omega) (by unfold tMost at *; omega)
theorem call_in (now dl w m : Int) (h : callOk now dl w m = true) :
    callD now dl w m ≤ kp dl tMost ∧ kp now tMost < callD now dl w m ∧ 1 ≤ callW now dl w m ∧ callW now dl w m < callD now dl w m - kp now tMost ∧ callW now dl w m ≤ kp m 65535 := by
  have hD : callD now dl w m = laterT now (partP (leftT dl now) w) := if_pos h
  have hW : callW now dl w m = hopH (partP (leftT dl now) w) m := if_pos h
  simp only [callOk, decide_eq_true_eq] at h
  have h1 := partP_b (leftT dl now) w
  have h2 := hopH_b (partP (leftT dl now) w) m
  have h3 := kt dl; have h4 := kt now
  have h5 := leftT_b dl now
  have e1 : kp (leftT dl now) tMost = leftT dl now := kp_id _ _ h5.1 h5.2
  have e2 : kp (partP (leftT dl now) w) tMost = partP (leftT dl now) w := kp_id _ _ h1.1 (by unfold tMost; omega)
  rw [e1] at h1
  rw [e2] at h2
  have e3 := leftT_pos dl now (by omega)
  have e4 : laterT now (partP (leftT dl now) w) = kp now tMost + partP (leftT dl now) w := by
    unfold laterT
    rw [e2]
    exact kp_id _ _ (by omega) (by unfold tMost at *; omega)
  rw [hD, hW, e4]
  omega
theorem call_no (now dl w m : Int) (h : callOk now dl w m = false) : callD now dl w m = 0 ∧ callW now dl w m = 0 := by
  unfold callD callW; rw [h]; exact ⟨rfl, rfl⟩
end Sp
end Go.Proofs.Ytahahflpackiiaa
namespace Go.Proofs.Ytahahflpackiiaa
open Go.RowKit Bd Sp
theorem split_part_any (l v : Int) (w : World) :
    Calls Try.prog 31 #[.int .i64 l, .int .i64 v] w fun e w' => e = .returned (.int .i64 (partP l v)) ∧ Below w.heap.size w w' := by
  have h1 := (prod8 l v).1
  have h2 := (prod8 l v).2.1
  go_enter Try.func31, Try.ntmps31
  go_wp2_with fail
  refine (keep_any _ tMost _).mono ?_; rintro e w1 ⟨rfl, b1⟩
  go_wp2_with fail
  refine (keep_any _ 8 _).mono ?_; rintro e w2 ⟨rfl, b2⟩
  go_wp2_with fail
  go_ret
  exact ⟨rfl, (below3 b1 b2)⟩
theorem hop_any (p m : Int) (w : World) :
    Calls Try.prog 32 #[.int .i64 p, .int .i64 m] w fun e w' => e = .returned (.int .i64 (hopH p m)) ∧ Below w.heap.size w w' := by
  have h1 := (kt p).1
  have h2 := (kt p).2
  have H := Lib.hid (show hopH p m = if kp m 65535 < kp p tMost / 2 then kp m 65535 else kp p tMost / 2 from rfl)
  go_enter Try.func32, Try.ntmps32
  go_wp2_with fail
  refine (keep_any _ tMost _).mono ?_; rintro e w1 ⟨rfl, b1⟩
  go_wp2_with fail
  refine (keep_any _ 65535 _).mono ?_; rintro e w2 ⟨rfl, b2⟩
  go_wp2_with fail
  all_goals
    go_ret
    exact ⟨ret_int (by rw [H.out]; (repeat' split at *) <;> omega), (below3 b1 b2)⟩
theorem call_any (now dl v m : Int) (w : World) :
    Calls Try.prog 19 #[.int .i64 now, .int .i64 dl, .int .i64 v, .int .i64 m] w fun e w' => e = .returned (.tuple #[.int .i64 (callD now dl v m), .int .i64 (callW now dl v m), .bool (callOk now dl v m)]) ∧ Below w.heap.size w w' := by
  cases hok : callOk now dl v m with
  | true =>
    have E1 := Lib.hid (show callD now dl v m = laterT now (partP (leftT dl now) v) from if_pos hok)
    have E2 := Lib.hid (show callW now dl v m = hopH (partP (leftT dl now) v) m from if_pos hok)
    have h : 1 ≤ hopH (partP (leftT dl now) v) m := by simpa [callOk] using hok
    clear hok
    go_enter Try.func19, Try.ntmps19
    go_wp2_with fail
    refine (left_any _ _ _).mono ?_; rintro e w1 ⟨rfl, b1⟩
    go_wp2_with fail
    refine (split_part_any _ _ _).mono ?_; rintro e w2 ⟨rfl, b2⟩
    go_wp2_with fail
    refine (hop_any _ _ _).mono ?_; rintro e w3 ⟨rfl, b3⟩
    go_wp2_with fail
    refine (later_any _ _ _).mono ?_; rintro e w4 ⟨rfl, b4⟩
    go_wp2_with fail
    go_ret3
    exact ⟨by rw [E1.out, E2.out]; rfl, (below3 (below3 (below3 b1 b2) b3) b4)⟩
  | false =>
    have E1 := Lib.hid (call_no now dl v m hok).1
    have E2 := Lib.hid (call_no now dl v m hok).2
    have h : ¬ 1 ≤ hopH (partP (leftT dl now) v) m := by simpa [callOk] using hok
    clear hok
    go_enter Try.func19, Try.ntmps19
    go_wp2_with fail
    refine (left_any _ _ _).mono ?_; rintro e w1 ⟨rfl, b1⟩
    go_wp2_with fail
    refine (split_part_any _ _ _).mono ?_; rintro e w2 ⟨rfl, b2⟩
    go_wp2_with fail
    refine (hop_any _ _ _).mono ?_; rintro e w3 ⟨rfl, b3⟩
    go_wp2_with fail
    go_ret3
    exact ⟨by rw [E1.out, E2.out]; rfl, (below3 (below3 b1 b2) b3)⟩
end Go.Proofs.Ytahahflpackiiaa
namespace Go.Proofs.Ytahahflpackiiaa
open Go.RowKit Bd
theorem rkeep_any (n m : Int) (w : World) :
    Calls Try.prog 42 #[.int .i64 n, .int .i64 m] w fun e w' => e = .returned (.int .i64 (kp n m)) ∧ w = w' := by
  go_enter Try.func42, Try.ntmps42
  go_wp2
  all_goals
    go_ret
    exact ⟨ret_int (by unfold kp; (repeat' split at *) <;> omega), rfl⟩
theorem rtick_any (n : Int) (w : World) :
    Calls Try.prog 29 #[.int .i64 n] w fun e w' => e = .returned (.int .i64 (kp n tMost)) ∧ w = w' := by
  go_enter Try.func29, Try.ntmps29
  go_wp2_with (go_at_call 42; refine (rkeep_any _ tMost _).mono ?_; rintro e w' ⟨rfl, rfl⟩)
  go_ret
  exact ⟨rfl, rfl⟩
theorem rlater_any (a b : Int) (w : World) :
    Calls Try.prog 37 #[.int .i64 a, .int .i64 b] w fun e w' => e = .returned (.int .i64 (laterT a b)) ∧ w = w' := by
  have h1 := (kt a).1
  have h2 := (kt a).2
  have h3 := (kt b).1
  have h4 := (kt b).2
  go_enter Try.func37, Try.ntmps37
  go_wp2_with (go_at_call 29; refine (rtick_any _ _).mono ?_; rintro e w' ⟨rfl, rfl⟩)
  go_ret
  exact ⟨rfl, rfl⟩
theorem rleft_any (a b : Int) (w : World) :
    Calls Try.prog 35 #[.int .i64 a, .int .i64 b] w fun e w' => e = .returned (.int .i64 (leftT a b)) ∧ w = w' := by
  have h1 := (kt a).1
  have h2 := (kt a).2
  have h3 := (kt b).1
  have h4 := (kt b).2
  go_enter Try.func35, Try.ntmps35
  go_wp2_with (go_at_call 29; refine (rtick_any _ _).mono ?_; rintro e w' ⟨rfl, rfl⟩)
  go_ret
  exact ⟨rfl, rfl⟩
end Go.Proofs.Ytahahflpackiiaa
namespace Go.Proofs.Ytahahflpackiiaa
open Go.RowKit Bd Sp
theorem rpart22_any (l v : Int) (w : World) :
    Calls Try.prog 34 #[.int .i64 l, .int .i64 v] w fun e w' => e = .returned (.int .i64 (partP l v)) ∧ w = w' := by
  have h1 := (prod8 l v).1
  have h2 := (prod8 l v).2.1
  go_enter Try.func34, Try.ntmps34
  go_wp2_with fail
  refine (rtick_any _ _).mono ?_; rintro e w' ⟨rfl, rfl⟩
  go_wp2_with fail
  refine (rkeep_any _ 8 _).mono ?_; rintro e w' ⟨rfl, rfl⟩
  go_wp2_with fail
  go_ret
  exact ⟨rfl, rfl⟩
theorem rhop_any (p m : Int) (w : World) :
    Calls Try.prog 36 #[.int .i64 p, .int .i64 m] w fun e w' => e = .returned (.int .i64 (hopH p m)) ∧ w = w' := by
  have h1 := (kt p).1
  have h2 := (kt p).2
  have H := Lib.hid (show hopH p m = if kp m 65535 < kp p tMost / 2 then kp m 65535 else kp p tMost / 2 from rfl)
  go_enter Try.func36, Try.ntmps36
  go_wp2_with fail
  refine (rtick_any _ _).mono ?_; rintro e w' ⟨rfl, rfl⟩
  go_wp2_with fail
  refine (rkeep_any _ 65535 _).mono ?_; rintro e w' ⟨rfl, rfl⟩
  go_wp2_with fail
  all_goals
    go_ret
    exact ⟨ret_int (by rw [H.out]; (repeat' split) <;> omega), rfl⟩
theorem rcall_any (now dl v m : Int) (w : World) :
    Calls Try.prog 23 #[.int .i64 now, .int .i64 dl, .int .i64 v, .int .i64 m] w fun e w' => e = .returned (.tuple #[.int .i64 (callD now dl v m), .int .i64 (callW now dl v m), .bool (callOk now dl v m)]) ∧ w = w' := by
  cases hok : callOk now dl v m with
  | true =>
    have E1 := Lib.hid (show callD now dl v m = laterT now (partP (leftT dl now) v) from if_pos hok)
    have E2 := Lib.hid (show callW now dl v m = hopH (partP (leftT dl now) v) m from if_pos hok)
    have h : 1 ≤ hopH (partP (leftT dl now) v) m := by simpa [callOk] using hok
    clear hok
    go_enter Try.func23, Try.ntmps23
    go_wp2_with fail
    refine (rleft_any _ _ _).mono ?_; rintro e w' ⟨rfl, rfl⟩
    go_wp2_with fail
    refine (rpart22_any _ _ _).mono ?_; rintro e w' ⟨rfl, rfl⟩
    go_wp2_with fail
    refine (rhop_any _ _ _).mono ?_; rintro e w' ⟨rfl, rfl⟩
    go_wp2_with fail
    refine (rlater_any _ _ _).mono ?_; rintro e w' ⟨rfl, rfl⟩
    go_wp2_with fail
    go_ret3
    exact ⟨by rw [E1.out, E2.out]; rfl, rfl⟩
  | false =>
    have E1 := Lib.hid (call_no now dl v m hok).1
    have E2 := Lib.hid (call_no now dl v m hok).2
    have h : ¬ 1 ≤ hopH (partP (leftT dl now) v) m := by simpa [callOk] using hok
    clear hok
    go_enter Try.func23, Try.ntmps23
    go_wp2_with fail
    refine (rleft_any _ _ _).mono ?_; rintro e w' ⟨rfl, rfl⟩
    go_wp2_with fail
    refine (rpart22_any _ _ _).mono ?_; rintro e w' ⟨rfl, rfl⟩
    go_wp2_with fail
    refine (rhop_any _ _ _).mono ?_; rintro e w' ⟨rfl, rfl⟩
    go_wp2_with fail
    go_ret3
    exact ⟨by rw [E1.out, E2.out]; rfl, rfl⟩
end Go.Proofs.Ytahahflpackiiaa
namespace Go.Proofs.Ytahahflpackiiaa.AE
open Go.RowKit
structure Kno where
  to : Int
  th : Int
  ep : Int
  at' : Int
def knV (x : Kno) : Value := .agg #[.int .i64 x.to, .int .i64 x.th, .int .i64 x.ep, .int .i64 x.at']
def knA (x : Kno) : AV := .v (knV x)
def knL (l : List Kno) : AV := .lst 4 (l.map knA) .no
structure DS where
  fk : List AV → Int → Int
  kok : List AV → Bool
  fl : List AV → Int → Int → List AV
def fiP (S : DS) : List AV → Option (AV × Bool) := fun args => match args with
  | [.lst 4 xs _, .v (.int .i64 to)] => some (.v (.int .i64 (S.fk xs to)), S.kok xs)
  | _ => none
def alP (S : DS) : List AV → Option (AV × Bool) := fun args => match args with
  | [.lst 4 xs _, .v (.int .i64 ttl), .v (.int .i64 now)] => some (.lst 4 (S.fl xs ttl now) .no, S.kok xs)
  | _ => none
def lfP : List Value → Option (Value × Bool) := fun us => match us with
  | [.int .i64 a, .int .i64 b] => some (.int .i64 (Bd.leftT a b), true)
  | _ => none
def tiP : List Value → Option (Value × Bool) := fun us => match us with
  | [.int .i64 a] => some (.int .i64 (Bd.kp a Bd.tMost), true)
  | _ => none
noncomputable def prD (S : DS) : FuncId → Option (List AV → AH → Ans) := fun g => match g with
  | 30 => some (data? (fiP S))
  | 38 => some (data? (alP S))
  | 35 => some (pure? lfP)
  | 29 => some (pure? tiP)
  | _ => none
noncomputable def prL : FuncId → Option (List AV → AH → Ans) := fun g => match g with
  | 35 => some (pure? lfP)
  | _ => none
def fiA (l : List Kno) (to i : Int) : List AV := [knL l, gi to, .dead, .dead, gi 0, gi i] ++ ded 14
def accK (acc : List Kno) (v : Nat) : AV := .lst 4 (acc.map knA) (.tp 0 v)
def alA (l : List Kno) (ttl now i : Int) (a : AV) : List AV := [knL l, gi ttl, gi now, .dead, .dead, .dead, .dead, a, gi i] ++ ded 23
def leA (l : List Kno) (to i : Int) (a : AV) : List AV := [knL l, gi to, .dead, .dead, .dead, .dead, .dead, .dead, .dead, .dead, .dead, .dead, .ptr 0 0, .dead, a, gi i] ++ ded 70
def leH (x : Kno) (tips : List Nat) : AH := hp [(51, [gi x.to, gi x.th, gi x.ep, gi x.at'])] tips
theorem fi_pre (ro : Nat → Option (List Value)) (l : List Kno) (to : Int) (R : Exit → List AV → AH → Prop) : codeL ro (fun _ => false) (fun _ => none) 8 ((flatten (bodyOf 30)).take 2) ([knL l, gi to] ++ List.replicate 18 (.v undef)) (hp [] []) (kp [0, 1, 4, 5] R) =
    (some (True ∧ (R Exit.normal [(AV.lst (4 : Nat) (List.map knA l) Tip.no), (AV.v (Value.int IntKind.i64 to)), AV.dead, AV.dead, (AV.v (Value.int IntKind.i64 (0 : Int))), (AV.v (Value.int IntKind.i64 (0 : Int))), AV.dead, AV.dead, AV.dead, AV.dead, AV.dead, AV.dead, AV.dead, AV.dead, AV.dead, AV.dead, AV.dead, AV.dead, AV.dead, AV.dead] (AH.mk (@List.nil (Prod Go.TypeId (List AV))) (@List.nil Nat) (0 : Nat) (0 : Nat) true (@List.nil (Prod Nat Bool)) True)))) := by kernel_rfl
theorem fi_in (ro : Nat → Option (List Value)) (l : List Kno) (to i : Int) (R : Exit → List AV → AH → Prop) : code ro (fun _ => false) (fun _ => none) 8 (sub (bodyOf 30) [1, 0, 1, 0, 0]) (fiA l to i) (hp [] []) (kp [0, 1, 4, 5] R) =
    (bif (decide (i < ((List.length (List.map knA l)) : Int))) then (bif ((exInt (List.getD (AV.cells (List.getD (List.map knA l) (Int.toNat i) AV.dead)) (0 : Nat) AV.dead)) == to) then (some ((cds True (elemB Try.prog (51 : Nat) (List.map knA l) i) (((0 : Int) ≤ i) ∧ (((List.map knA l)[(Int.toNat i)]?) = (some (AV.v (Value.agg #[(Value.int IntKind.i64 (exInt (List.getD (AV.cells (List.getD (List.map knA l) (Int.toNat i) AV.dead)) (0 : Nat) AV.dead))), (Value.int IntKind.i64 (exInt (List.getD (AV.cells (List.getD (List.map knA l) (Int.toNat i) AV.dead)) (1 : Nat) AV.dead))), (Value.int IntKind.i64 (exInt (List.getD (AV.cells (List.getD (List.map knA l) (Int.toNat i) AV.dead)) (2 : Nat) AV.dead))), (Value.int IntKind.i64 (exInt (List.getD (AV.cells (List.getD (List.map knA l) (Int.toNat i) AV.dead)) (3 : Nat) AV.dead)))])))))) ∧ (R Exit.ret [(AV.lst (4 : Nat) (List.map knA l) Tip.no), (AV.v (Value.int IntKind.i64 to)), AV.dead, AV.dead, (AV.v (Value.int IntKind.i64 i)), (AV.v (Value.int IntKind.i64 i)), AV.dead, AV.dead, AV.dead, AV.dead, AV.dead, AV.dead, AV.dead, AV.dead, AV.dead, AV.dead, AV.dead, AV.dead, AV.dead, AV.dead] (AH.mk (@List.nil (Prod Go.TypeId (List AV))) (@List.nil Nat) (0 : Nat) (0 : Nat) true (@List.nil (Prod Nat Bool)) True)))) else (some ((cds True (elemB Try.prog (51 : Nat) (List.map knA l) i) (((0 : Int) ≤ i) ∧ (((List.map knA l)[(Int.toNat i)]?) = (some (AV.v (Value.agg #[(Value.int IntKind.i64 (exInt (List.getD (AV.cells (List.getD (List.map knA l) (Int.toNat i) AV.dead)) (0 : Nat) AV.dead))), (Value.int IntKind.i64 (exInt (List.getD (AV.cells (List.getD (List.map knA l) (Int.toNat i) AV.dead)) (1 : Nat) AV.dead))), (Value.int IntKind.i64 (exInt (List.getD (AV.cells (List.getD (List.map knA l) (Int.toNat i) AV.dead)) (2 : Nat) AV.dead))), (Value.int IntKind.i64 (exInt (List.getD (AV.cells (List.getD (List.map knA l) (Int.toNat i) AV.dead)) (3 : Nat) AV.dead)))])))))) ∧ (R Exit.normal [(AV.lst (4 : Nat) (List.map knA l) Tip.no), (AV.v (Value.int IntKind.i64 to)), AV.dead, AV.dead, (AV.v (Value.int IntKind.i64 (0 : Int))), (AV.v (Value.int IntKind.i64 (IntKind.wrap IntKind.i64 (i + (1 : Int))))), AV.dead, AV.dead, AV.dead, AV.dead, AV.dead, AV.dead, AV.dead, AV.dead, AV.dead, AV.dead, AV.dead, AV.dead, AV.dead, AV.dead] (AH.mk (@List.nil (Prod Go.TypeId (List AV))) (@List.nil Nat) (0 : Nat) (0 : Nat) true (@List.nil (Prod Nat Bool)) True))))) else (some (True ∧ (R (Exit.exit (0 : Nat)) [(AV.lst (4 : Nat) (List.map knA l) Tip.no), (AV.v (Value.int IntKind.i64 to)), AV.dead, AV.dead, (AV.v (Value.int IntKind.i64 (0 : Int))), (AV.v (Value.int IntKind.i64 i)), AV.dead, AV.dead, AV.dead, AV.dead, AV.dead, AV.dead, AV.dead, AV.dead, AV.dead, AV.dead, AV.dead, AV.dead, AV.dead, AV.dead] (AH.mk (@List.nil (Prod Go.TypeId (List AV))) (@List.nil Nat) (0 : Nat) (0 : Nat) true (@List.nil (Prod Nat Bool)) True))))) := by kernel_rfl
theorem fi_9 (ro : Nat → Option (List Value)) (l : List Kno) (to i : Int) (R : Exit → List AV → AH → Prop) : codeL ro (fun _ => false) (fun _ => none) 8 ((flatten (bodyOf 30)).drop 3) (fiA l to i) (hp [] []) (kp [4] R) =
    (some (True ∧ (R Exit.ret [AV.dead, AV.dead, AV.dead, AV.dead, (AV.v (Value.int IntKind.i64 (-(1 : Int)))), AV.dead, AV.dead, AV.dead, AV.dead, AV.dead, AV.dead, AV.dead, AV.dead, AV.dead, AV.dead, AV.dead, AV.dead, AV.dead, AV.dead, AV.dead] (AH.mk (@List.nil (Prod Go.TypeId (List AV))) (@List.nil Nat) (0 : Nat) (0 : Nat) true (@List.nil (Prod Nat Bool)) True)))) := by kernel_rfl
theorem al_pre (ro : Nat → Option (List Value)) (l : List Kno) (ttl now : Int) (R : Exit → List AV → AH → Prop) : codeL ro (fun _ => false) (fun _ => none) 8 ((flatten (bodyOf 38)).take 3) ([knL l, gi ttl, gi now] ++ List.replicate 29 (.v undef)) (hp [] []) (kp [0, 1, 2, 7, 8] R) =
    (some (True ∧ (R Exit.normal [(AV.lst (4 : Nat) (List.map knA l) Tip.no), (AV.v (Value.int IntKind.i64 ttl)), (AV.v (Value.int IntKind.i64 now)), AV.dead, AV.dead, AV.dead, AV.dead, (AV.v (Value.slice none (0 : Nat) (0 : Nat))), (AV.v (Value.int IntKind.i64 (0 : Int))), AV.dead, AV.dead, AV.dead, AV.dead, AV.dead, AV.dead, AV.dead, AV.dead, AV.dead, AV.dead, AV.dead, AV.dead, AV.dead, AV.dead, AV.dead, AV.dead, AV.dead, AV.dead, AV.dead, AV.dead, AV.dead, AV.dead, AV.dead] (AH.mk (@List.nil (Prod Go.TypeId (List AV))) (@List.nil Nat) (0 : Nat) (0 : Nat) true (@List.nil (Prod Nat Bool)) True)))) := by kernel_rfl
theorem al_in (ro : Nat → Option (List Value)) (l acc : List Kno) (v : Nat) (ttl now i : Int) (R : Exit → List AV → AH → Prop) : code ro (fun _ => false) prL 8 (sub (bodyOf 38) [1, 1, 0, 1, 0, 0]) (alA l ttl now i (accK acc v)) (hp [] [v]) (kp [0, 1, 2, 7, 8] R) =
    (bif (decide (i < ((List.length (List.map knA l)) : Int))) then (bif (decide ((Bd.leftT now (exInt (List.getD (AV.cells (List.getD (List.map knA l) (Int.toNat i) AV.dead)) (3 : Nat) AV.dead))) ≤ ttl)) then (some ((cdb (cds (cds True (elemB Try.prog (51 : Nat) (List.map knA l) i) (((0 : Int) ≤ i) ∧ (((List.map knA l)[(Int.toNat i)]?) = (some (AV.v (Value.agg #[(Value.int IntKind.i64 (exInt (List.getD (AV.cells (List.getD (List.map knA l) (Int.toNat i) AV.dead)) (0 : Nat) AV.dead))), (Value.int IntKind.i64 (exInt (List.getD (AV.cells (List.getD (List.map knA l) (Int.toNat i) AV.dead)) (1 : Nat) AV.dead))), (Value.int IntKind.i64 (exInt (List.getD (AV.cells (List.getD (List.map knA l) (Int.toNat i) AV.dead)) (2 : Nat) AV.dead))), (Value.int IntKind.i64 (exInt (List.getD (AV.cells (List.getD (List.map knA l) (Int.toNat i) AV.dead)) (3 : Nat) AV.dead)))])))))) (elemB Try.prog (51 : Nat) (List.map knA l) i) (((0 : Int) ≤ i) ∧ (((List.map knA l)[(Int.toNat i)]?) = (some (AV.v (Value.agg #[(Value.int IntKind.i64 (exInt (List.getD (AV.cells (List.getD (List.map knA l) (Int.toNat i) AV.dead)) (0 : Nat) AV.dead))), (Value.int IntKind.i64 (exInt (List.getD (AV.cells (List.getD (List.map knA l) (Int.toNat i) AV.dead)) (1 : Nat) AV.dead))), (Value.int IntKind.i64 (exInt (List.getD (AV.cells (List.getD (List.map knA l) (Int.toNat i) AV.dead)) (2 : Nat) AV.dead))), (Value.int IntKind.i64 (exInt (List.getD (AV.cells (List.getD (List.map knA l) (Int.toNat i) AV.dead)) (3 : Nat) AV.dead)))])))))) (decide ((((((List.length (List.map knA acc)) + (List.length [(AV.v (Value.agg #[(Value.int IntKind.i64 (exInt (List.getD (AV.cells (List.getD (List.map knA l) (Int.toNat i) AV.dead)) (0 : Nat) AV.dead))), (Value.int IntKind.i64 (exInt (List.getD (AV.cells (List.getD (List.map knA l) (Int.toNat i) AV.dead)) (1 : Nat) AV.dead))), (Value.int IntKind.i64 (exInt (List.getD (AV.cells (List.getD (List.map knA l) (Int.toNat i) AV.dead)) (2 : Nat) AV.dead))), (Value.int IntKind.i64 (exInt (List.getD (AV.cells (List.getD (List.map knA l) (Int.toNat i) AV.dead)) (3 : Nat) AV.dead)))]))])) * (32 : Nat)) ≤ (140737488355328 : Nat)) ∧ (((List.length (List.map knA acc)) + (List.length [(AV.v (Value.agg #[(Value.int IntKind.i64 (exInt (List.getD (AV.cells (List.getD (List.map knA l) (Int.toNat i) AV.dead)) (0 : Nat) AV.dead))), (Value.int IntKind.i64 (exInt (List.getD (AV.cells (List.getD (List.map knA l) (Int.toNat i) AV.dead)) (1 : Nat) AV.dead))), (Value.int IntKind.i64 (exInt (List.getD (AV.cells (List.getD (List.map knA l) (Int.toNat i) AV.dead)) (2 : Nat) AV.dead))), (Value.int IntKind.i64 (exInt (List.getD (AV.cells (List.getD (List.map knA l) (Int.toNat i) AV.dead)) (3 : Nat) AV.dead)))]))])) ≤ (9223372036854775807 : Nat))) ∧ (v = v)))) ∧ (R Exit.normal [(AV.lst (4 : Nat) (List.map knA l) Tip.no), (AV.v (Value.int IntKind.i64 ttl)), (AV.v (Value.int IntKind.i64 now)), AV.dead, AV.dead, AV.dead, AV.dead, (AV.lst (4 : Nat) ((List.map knA acc) ++ [(AV.v (Value.agg #[(Value.int IntKind.i64 (exInt (List.getD (AV.cells (List.getD (List.map knA l) (Int.toNat i) AV.dead)) (0 : Nat) AV.dead))), (Value.int IntKind.i64 (exInt (List.getD (AV.cells (List.getD (List.map knA l) (Int.toNat i) AV.dead)) (1 : Nat) AV.dead))), (Value.int IntKind.i64 (exInt (List.getD (AV.cells (List.getD (List.map knA l) (Int.toNat i) AV.dead)) (2 : Nat) AV.dead))), (Value.int IntKind.i64 (exInt (List.getD (AV.cells (List.getD (List.map knA l) (Int.toNat i) AV.dead)) (3 : Nat) AV.dead)))]))]) (Tip.tp (0 : Nat) (v + (1 : Nat)))), (AV.v (Value.int IntKind.i64 (IntKind.wrap IntKind.i64 (i + (1 : Int))))), AV.dead, AV.dead, AV.dead, AV.dead, AV.dead, AV.dead, AV.dead, AV.dead, AV.dead, AV.dead, AV.dead, AV.dead, AV.dead, AV.dead, AV.dead, AV.dead, AV.dead, AV.dead, AV.dead, AV.dead, AV.dead, AV.dead, AV.dead] (AH.mk (@List.nil (Prod Go.TypeId (List AV))) [(v + (1 : Nat))] (0 : Nat) (0 : Nat) true (@List.nil (Prod Nat Bool)) True)))) else (some ((cds True (elemB Try.prog (51 : Nat) (List.map knA l) i) (((0 : Int) ≤ i) ∧ (((List.map knA l)[(Int.toNat i)]?) = (some (AV.v (Value.agg #[(Value.int IntKind.i64 (exInt (List.getD (AV.cells (List.getD (List.map knA l) (Int.toNat i) AV.dead)) (0 : Nat) AV.dead))), (Value.int IntKind.i64 (exInt (List.getD (AV.cells (List.getD (List.map knA l) (Int.toNat i) AV.dead)) (1 : Nat) AV.dead))), (Value.int IntKind.i64 (exInt (List.getD (AV.cells (List.getD (List.map knA l) (Int.toNat i) AV.dead)) (2 : Nat) AV.dead))), (Value.int IntKind.i64 (exInt (List.getD (AV.cells (List.getD (List.map knA l) (Int.toNat i) AV.dead)) (3 : Nat) AV.dead)))])))))) ∧ (R Exit.normal [(AV.lst (4 : Nat) (List.map knA l) Tip.no), (AV.v (Value.int IntKind.i64 ttl)), (AV.v (Value.int IntKind.i64 now)), AV.dead, AV.dead, AV.dead, AV.dead, (AV.lst (4 : Nat) (List.map knA acc) (Tip.tp (0 : Nat) v)), (AV.v (Value.int IntKind.i64 (IntKind.wrap IntKind.i64 (i + (1 : Int))))), AV.dead, AV.dead, AV.dead, AV.dead, AV.dead, AV.dead, AV.dead, AV.dead, AV.dead, AV.dead, AV.dead, AV.dead, AV.dead, AV.dead, AV.dead, AV.dead, AV.dead, AV.dead, AV.dead, AV.dead, AV.dead, AV.dead, AV.dead] (AH.mk (@List.nil (Prod Go.TypeId (List AV))) [v] (0 : Nat) (0 : Nat) true (@List.nil (Prod Nat Bool)) True))))) else (some (True ∧ (R (Exit.exit (0 : Nat)) [(AV.lst (4 : Nat) (List.map knA l) Tip.no), (AV.v (Value.int IntKind.i64 ttl)), (AV.v (Value.int IntKind.i64 now)), AV.dead, AV.dead, AV.dead, AV.dead, (AV.lst (4 : Nat) (List.map knA acc) (Tip.tp (0 : Nat) v)), (AV.v (Value.int IntKind.i64 i)), AV.dead, AV.dead, AV.dead, AV.dead, AV.dead, AV.dead, AV.dead, AV.dead, AV.dead, AV.dead, AV.dead, AV.dead, AV.dead, AV.dead, AV.dead, AV.dead, AV.dead, AV.dead, AV.dead, AV.dead, AV.dead, AV.dead, AV.dead] (AH.mk (@List.nil (Prod Go.TypeId (List AV))) [v] (0 : Nat) (0 : Nat) true (@List.nil (Prod Nat Bool)) True))))) := by kernel_rfl
theorem al_9 (ro : Nat → Option (List Value)) (l acc : List Kno) (v : Nat) (ttl now i : Int) (R : Exit → List AV → AH → Prop) : codeL ro (fun _ => false) (fun _ => none) 8 ((flatten (bodyOf 38)).drop 4) (alA l ttl now i (accK acc v)) (hp [] [v]) (kp [6] R) =
    (some (True ∧ (R Exit.ret [AV.dead, AV.dead, AV.dead, AV.dead, AV.dead, AV.dead, (AV.lst (4 : Nat) (List.map knA acc) (Tip.tp (0 : Nat) v)), AV.dead, AV.dead, AV.dead, AV.dead, AV.dead, AV.dead, AV.dead, AV.dead, AV.dead, AV.dead, AV.dead, AV.dead, AV.dead, AV.dead, AV.dead, AV.dead, AV.dead, AV.dead, AV.dead, AV.dead, AV.dead, AV.dead, AV.dead, AV.dead, AV.dead] (AH.mk (@List.nil (Prod Go.TypeId (List AV))) [v] (0 : Nat) (0 : Nat) true (@List.nil (Prod Nat Bool)) True)))) := by kernel_rfl
theorem cu_t (ro : Nat → Option (List Value)) (S : DS) (l : List Kno) (ttl to lv now : Int) (Φ : AV → AH → Prop) : callK ro (fun _ => false) (prD S) 8 24 [knL l, gi ttl, gi to, gi lv, gi now] (hp [] []) (fun r h => some (h.cd ∧ Φ r (tidy h))) =
    (bif (decide ((0 : Int) ≤ ((S).1 ((S).3 (List.map knA l) ttl now) to))) then (bif (decide (lv < (0 : Int))) then (some ((cdb (cdb True ((S).2 (List.map knA l))) ((S).2 ((S).3 (List.map knA l) ttl now))) ∧ (Φ (AV.v (Value.bool true)) (AH.mk (@List.nil (Prod Go.TypeId (List AV))) (@List.nil Nat) (0 : Nat) (0 : Nat) true (@List.nil (Prod Nat Bool)) True)))) else (some ((cds (cdb (cdb True ((S).2 (List.map knA l))) ((S).2 ((S).3 (List.map knA l) ttl now))) (elemB Try.prog (51 : Nat) ((S).3 (List.map knA l) ttl now) ((S).1 ((S).3 (List.map knA l) ttl now) to)) (((0 : Int) ≤ ((S).1 ((S).3 (List.map knA l) ttl now) to)) ∧ ((((S).3 (List.map knA l) ttl now)[(Int.toNat ((S).1 ((S).3 (List.map knA l) ttl now) to))]?) = (some (AV.v (Value.agg #[(Value.int IntKind.i64 (exInt (List.getD (AV.cells (List.getD ((S).3 (List.map knA l) ttl now) (Int.toNat ((S).1 ((S).3 (List.map knA l) ttl now) to)) AV.dead)) (0 : Nat) AV.dead))), (Value.int IntKind.i64 (exInt (List.getD (AV.cells (List.getD ((S).3 (List.map knA l) ttl now) (Int.toNat ((S).1 ((S).3 (List.map knA l) ttl now) to)) AV.dead)) (1 : Nat) AV.dead))), (Value.int IntKind.i64 (exInt (List.getD (AV.cells (List.getD ((S).3 (List.map knA l) ttl now) (Int.toNat ((S).1 ((S).3 (List.map knA l) ttl now) to)) AV.dead)) (2 : Nat) AV.dead))), (Value.int IntKind.i64 (exInt (List.getD (AV.cells (List.getD ((S).3 (List.map knA l) ttl now) (Int.toNat ((S).1 ((S).3 (List.map knA l) ttl now) to)) AV.dead)) (3 : Nat) AV.dead)))])))))) ∧ (Φ (AV.v (Value.bool (decide ((exInt (List.getD (AV.cells (List.getD ((S).3 (List.map knA l) ttl now) (Int.toNat ((S).1 ((S).3 (List.map knA l) ttl now) to)) AV.dead)) (1 : Nat) AV.dead)) ≤ lv)))) (AH.mk (@List.nil (Prod Go.TypeId (List AV))) (@List.nil Nat) (0 : Nat) (0 : Nat) true (@List.nil (Prod Nat Bool)) True))))) else (some ((cdb (cdb True ((S).2 (List.map knA l))) ((S).2 ((S).3 (List.map knA l) ttl now))) ∧ (Φ (AV.v (Value.bool false)) (AH.mk (@List.nil (Prod Go.TypeId (List AV))) (@List.nil Nat) (0 : Nat) (0 : Nat) true (@List.nil (Prod Nat Bool)) True))))) := by kernel_rfl
theorem le_pre (ro : Nat → Option (List Value)) (S : DS) (l : List Kno) (to th ep now : Int) (R : Exit → List AV → AH → Prop) : codeL ro (fun _ => false) (prD S) 8 ((flatten (bodyOf 17)).take 11) ([knL l, gi to, gi th, gi ep, gi now] ++ List.replicate 81 (.v undef)) (hp [] []) (kp [0, 1, 10, 11, 12, 14, 15] R) =
    (bif (decide (to < (0 : Int))) then (some (True ∧ (R Exit.ret [(AV.lst (4 : Nat) (List.map knA l) Tip.no), (AV.v (Value.int IntKind.i64 to)), AV.dead, AV.dead, AV.dead, AV.dead, AV.dead, AV.dead, AV.dead, AV.dead, (AV.lst (4 : Nat) (List.map knA l) Tip.no), (AV.v (Value.bool false)), (AV.v (Value.tuple (Array.mk (@List.nil Go.Value)))), AV.dead, (AV.v (Value.tuple (Array.mk (@List.nil Go.Value)))), (AV.v (Value.tuple (Array.mk (@List.nil Go.Value)))), AV.dead, AV.dead, AV.dead, AV.dead, AV.dead, AV.dead, AV.dead, AV.dead, AV.dead, AV.dead, AV.dead, AV.dead, AV.dead, AV.dead, AV.dead, AV.dead, AV.dead, AV.dead, AV.dead, AV.dead, AV.dead, AV.dead, AV.dead, AV.dead, AV.dead, AV.dead, AV.dead, AV.dead, AV.dead, AV.dead, AV.dead, AV.dead, AV.dead, AV.dead, AV.dead, AV.dead, AV.dead, AV.dead, AV.dead, AV.dead, AV.dead, AV.dead, AV.dead, AV.dead, AV.dead, AV.dead, AV.dead, AV.dead, AV.dead, AV.dead, AV.dead, AV.dead, AV.dead, AV.dead, AV.dead, AV.dead, AV.dead, AV.dead, AV.dead, AV.dead, AV.dead, AV.dead, AV.dead, AV.dead, AV.dead, AV.dead, AV.dead, AV.dead, AV.dead, AV.dead] (AH.mk (@List.nil (Prod Go.TypeId (List AV))) (@List.nil Nat) (0 : Nat) (0 : Nat) true (@List.nil (Prod Nat Bool)) True)))) else (bif (decide ((7 : Int) < to)) then (some (True ∧ (R Exit.ret [(AV.lst (4 : Nat) (List.map knA l) Tip.no), (AV.v (Value.int IntKind.i64 to)), AV.dead, AV.dead, AV.dead, AV.dead, AV.dead, AV.dead, AV.dead, AV.dead, (AV.lst (4 : Nat) (List.map knA l) Tip.no), (AV.v (Value.bool false)), (AV.v (Value.tuple (Array.mk (@List.nil Go.Value)))), AV.dead, (AV.v (Value.tuple (Array.mk (@List.nil Go.Value)))), (AV.v (Value.tuple (Array.mk (@List.nil Go.Value)))), AV.dead, AV.dead, AV.dead, AV.dead, AV.dead, AV.dead, AV.dead, AV.dead, AV.dead, AV.dead, AV.dead, AV.dead, AV.dead, AV.dead, AV.dead, AV.dead, AV.dead, AV.dead, AV.dead, AV.dead, AV.dead, AV.dead, AV.dead, AV.dead, AV.dead, AV.dead, AV.dead, AV.dead, AV.dead, AV.dead, AV.dead, AV.dead, AV.dead, AV.dead, AV.dead, AV.dead, AV.dead, AV.dead, AV.dead, AV.dead, AV.dead, AV.dead, AV.dead, AV.dead, AV.dead, AV.dead, AV.dead, AV.dead, AV.dead, AV.dead, AV.dead, AV.dead, AV.dead, AV.dead, AV.dead, AV.dead, AV.dead, AV.dead, AV.dead, AV.dead, AV.dead, AV.dead, AV.dead, AV.dead, AV.dead, AV.dead, AV.dead, AV.dead, AV.dead, AV.dead] (AH.mk (@List.nil (Prod Go.TypeId (List AV))) (@List.nil Nat) (0 : Nat) (0 : Nat) true (@List.nil (Prod Nat Bool)) True)))) else (bif (decide ((0 : Int) ≤ ((S).1 (List.map knA l) to))) then (bif (decide (ep < (exInt (List.getD (AV.cells (List.getD (List.map knA l) (Int.toNat ((S).1 (List.map knA l) to)) AV.dead)) (2 : Nat) AV.dead)))) then (some ((cds (cdb True ((S).2 (List.map knA l))) (elemB Try.prog (51 : Nat) (List.map knA l) ((S).1 (List.map knA l) to)) (((0 : Int) ≤ ((S).1 (List.map knA l) to)) ∧ (((List.map knA l)[(Int.toNat ((S).1 (List.map knA l) to))]?) = (some (AV.v (Value.agg #[(Value.int IntKind.i64 (exInt (List.getD (AV.cells (List.getD (List.map knA l) (Int.toNat ((S).1 (List.map knA l) to)) AV.dead)) (0 : Nat) AV.dead))), (Value.int IntKind.i64 (exInt (List.getD (AV.cells (List.getD (List.map knA l) (Int.toNat ((S).1 (List.map knA l) to)) AV.dead)) (1 : Nat) AV.dead))), (Value.int IntKind.i64 (exInt (List.getD (AV.cells (List.getD (List.map knA l) (Int.toNat ((S).1 (List.map knA l) to)) AV.dead)) (2 : Nat) AV.dead))), (Value.int IntKind.i64 (exInt (List.getD (AV.cells (List.getD (List.map knA l) (Int.toNat ((S).1 (List.map knA l) to)) AV.dead)) (3 : Nat) AV.dead)))])))))) ∧ (R Exit.ret [(AV.lst (4 : Nat) (List.map knA l) Tip.no), (AV.v (Value.int IntKind.i64 to)), AV.dead, AV.dead, AV.dead, AV.dead, AV.dead, AV.dead, AV.dead, AV.dead, (AV.lst (4 : Nat) (List.map knA l) Tip.no), (AV.v (Value.bool false)), (AV.ptr (List.length (@List.nil (Prod Go.TypeId (List AV)))) (0 : Nat)), AV.dead, (AV.v (Value.tuple (Array.mk (@List.nil Go.Value)))), (AV.v (Value.tuple (Array.mk (@List.nil Go.Value)))), AV.dead, AV.dead, AV.dead, AV.dead, AV.dead, AV.dead, AV.dead, AV.dead, AV.dead, AV.dead, AV.dead, AV.dead, AV.dead, AV.dead, AV.dead, AV.dead, AV.dead, AV.dead, AV.dead, AV.dead, AV.dead, AV.dead, AV.dead, AV.dead, AV.dead, AV.dead, AV.dead, AV.dead, AV.dead, AV.dead, AV.dead, AV.dead, AV.dead, AV.dead, AV.dead, AV.dead, AV.dead, AV.dead, AV.dead, AV.dead, AV.dead, AV.dead, AV.dead, AV.dead, AV.dead, AV.dead, AV.dead, AV.dead, AV.dead, AV.dead, AV.dead, AV.dead, AV.dead, AV.dead, AV.dead, AV.dead, AV.dead, AV.dead, AV.dead, AV.dead, AV.dead, AV.dead, AV.dead, AV.dead, AV.dead, AV.dead, AV.dead, AV.dead, AV.dead, AV.dead] (AH.mk [((51 : Nat), [(AV.v (Value.int IntKind.i64 to)), (AV.v (Value.int IntKind.i64 th)), (AV.v (Value.int IntKind.i64 ep)), (AV.v (Value.int IntKind.i64 (Bd.kp now (1099511627776 : Int))))])] (@List.nil Nat) (0 : Nat) (0 : Nat) true (@List.nil (Prod Nat Bool)) True)))) else (bif (decide ((0 : Int) ≤ ((S).1 (List.map knA l) to))) then (bif ((exInt (List.getD (AV.cells (List.getD (List.map knA l) (Int.toNat ((S).1 (List.map knA l) to)) AV.dead)) (2 : Nat) AV.dead)) == ep) then (some ((cds (cds (cds (cdb True ((S).2 (List.map knA l))) (elemB Try.prog (51 : Nat) (List.map knA l) ((S).1 (List.map knA l) to)) (((0 : Int) ≤ ((S).1 (List.map knA l) to)) ∧ (((List.map knA l)[(Int.toNat ((S).1 (List.map knA l) to))]?) = (some (AV.v (Value.agg #[(Value.int IntKind.i64 (exInt (List.getD (AV.cells (List.getD (List.map knA l) (Int.toNat ((S).1 (List.map knA l) to)) AV.dead)) (0 : Nat) AV.dead))), (Value.int IntKind.i64 (exInt (List.getD (AV.cells (List.getD (List.map knA l) (Int.toNat ((S).1 (List.map knA l) to)) AV.dead)) (1 : Nat) AV.dead))), (Value.int IntKind.i64 (exInt (List.getD (AV.cells (List.getD (List.map knA l) (Int.toNat ((S).1 (List.map knA l) to)) AV.dead)) (2 : Nat) AV.dead))), (Value.int IntKind.i64 (exInt (List.getD (AV.cells (List.getD (List.map knA l) (Int.toNat ((S).1 (List.map knA l) to)) AV.dead)) (3 : Nat) AV.dead)))])))))) (elemB Try.prog (51 : Nat) (List.map knA l) ((S).1 (List.map knA l) to)) (((0 : Int) ≤ ((S).1 (List.map knA l) to)) ∧ (((List.map knA l)[(Int.toNat ((S).1 (List.map knA l) to))]?) = (some (AV.v (Value.agg #[(Value.int IntKind.i64 (exInt (List.getD (AV.cells (List.getD (List.map knA l) (Int.toNat ((S).1 (List.map knA l) to)) AV.dead)) (0 : Nat) AV.dead))), (Value.int IntKind.i64 (exInt (List.getD (AV.cells (List.getD (List.map knA l) (Int.toNat ((S).1 (List.map knA l) to)) AV.dead)) (1 : Nat) AV.dead))), (Value.int IntKind.i64 (exInt (List.getD (AV.cells (List.getD (List.map knA l) (Int.toNat ((S).1 (List.map knA l) to)) AV.dead)) (2 : Nat) AV.dead))), (Value.int IntKind.i64 (exInt (List.getD (AV.cells (List.getD (List.map knA l) (Int.toNat ((S).1 (List.map knA l) to)) AV.dead)) (3 : Nat) AV.dead)))])))))) (elemB Try.prog (51 : Nat) (List.map knA l) ((S).1 (List.map knA l) to)) (((0 : Int) ≤ ((S).1 (List.map knA l) to)) ∧ (((List.map knA l)[(Int.toNat ((S).1 (List.map knA l) to))]?) = (some (AV.v (Value.agg #[(Value.int IntKind.i64 (exInt (List.getD (AV.cells (List.getD (List.map knA l) (Int.toNat ((S).1 (List.map knA l) to)) AV.dead)) (0 : Nat) AV.dead))), (Value.int IntKind.i64 (exInt (List.getD (AV.cells (List.getD (List.map knA l) (Int.toNat ((S).1 (List.map knA l) to)) AV.dead)) (1 : Nat) AV.dead))), (Value.int IntKind.i64 (exInt (List.getD (AV.cells (List.getD (List.map knA l) (Int.toNat ((S).1 (List.map knA l) to)) AV.dead)) (2 : Nat) AV.dead))), (Value.int IntKind.i64 (exInt (List.getD (AV.cells (List.getD (List.map knA l) (Int.toNat ((S).1 (List.map knA l) to)) AV.dead)) (3 : Nat) AV.dead)))])))))) ∧ (R Exit.normal [(AV.lst (4 : Nat) (List.map knA l) Tip.no), (AV.v (Value.int IntKind.i64 to)), AV.dead, AV.dead, AV.dead, AV.dead, AV.dead, AV.dead, AV.dead, AV.dead, (AV.v (Value.slice none (0 : Nat) (0 : Nat))), (AV.v (Value.bool false)), (AV.ptr (List.length (@List.nil (Prod Go.TypeId (List AV)))) (0 : Nat)), AV.dead, (AV.v (Value.slice none (0 : Nat) (0 : Nat))), (AV.v (Value.int IntKind.i64 (0 : Int))), AV.dead, AV.dead, AV.dead, AV.dead, AV.dead, AV.dead, AV.dead, AV.dead, AV.dead, AV.dead, AV.dead, AV.dead, AV.dead, AV.dead, AV.dead, AV.dead, AV.dead, AV.dead, AV.dead, AV.dead, AV.dead, AV.dead, AV.dead, AV.dead, AV.dead, AV.dead, AV.dead, AV.dead, AV.dead, AV.dead, AV.dead, AV.dead, AV.dead, AV.dead, AV.dead, AV.dead, AV.dead, AV.dead, AV.dead, AV.dead, AV.dead, AV.dead, AV.dead, AV.dead, AV.dead, AV.dead, AV.dead, AV.dead, AV.dead, AV.dead, AV.dead, AV.dead, AV.dead, AV.dead, AV.dead, AV.dead, AV.dead, AV.dead, AV.dead, AV.dead, AV.dead, AV.dead, AV.dead, AV.dead, AV.dead, AV.dead, AV.dead, AV.dead, AV.dead, AV.dead] (AH.mk [((51 : Nat), [(AV.v (Value.int IntKind.i64 to)), (AV.v (Value.int IntKind.i64 (exInt (List.getD (AV.cells (List.getD (List.map knA l) (Int.toNat ((S).1 (List.map knA l) to)) AV.dead)) (1 : Nat) AV.dead)))), (AV.v (Value.int IntKind.i64 ep)), (AV.v (Value.int IntKind.i64 (Bd.kp now (1099511627776 : Int))))])] (@List.nil Nat) (0 : Nat) (0 : Nat) true (@List.nil (Prod Nat Bool)) True)))) else (some ((cds (cds (cdb True ((S).2 (List.map knA l))) (elemB Try.prog (51 : Nat) (List.map knA l) ((S).1 (List.map knA l) to)) (((0 : Int) ≤ ((S).1 (List.map knA l) to)) ∧ (((List.map knA l)[(Int.toNat ((S).1 (List.map knA l) to))]?) = (some (AV.v (Value.agg #[(Value.int IntKind.i64 (exInt (List.getD (AV.cells (List.getD (List.map knA l) (Int.toNat ((S).1 (List.map knA l) to)) AV.dead)) (0 : Nat) AV.dead))), (Value.int IntKind.i64 (exInt (List.getD (AV.cells (List.getD (List.map knA l) (Int.toNat ((S).1 (List.map knA l) to)) AV.dead)) (1 : Nat) AV.dead))), (Value.int IntKind.i64 (exInt (List.getD (AV.cells (List.getD (List.map knA l) (Int.toNat ((S).1 (List.map knA l) to)) AV.dead)) (2 : Nat) AV.dead))), (Value.int IntKind.i64 (exInt (List.getD (AV.cells (List.getD (List.map knA l) (Int.toNat ((S).1 (List.map knA l) to)) AV.dead)) (3 : Nat) AV.dead)))])))))) (elemB Try.prog (51 : Nat) (List.map knA l) ((S).1 (List.map knA l) to)) (((0 : Int) ≤ ((S).1 (List.map knA l) to)) ∧ (((List.map knA l)[(Int.toNat ((S).1 (List.map knA l) to))]?) = (some (AV.v (Value.agg #[(Value.int IntKind.i64 (exInt (List.getD (AV.cells (List.getD (List.map knA l) (Int.toNat ((S).1 (List.map knA l) to)) AV.dead)) (0 : Nat) AV.dead))), (Value.int IntKind.i64 (exInt (List.getD (AV.cells (List.getD (List.map knA l) (Int.toNat ((S).1 (List.map knA l) to)) AV.dead)) (1 : Nat) AV.dead))), (Value.int IntKind.i64 (exInt (List.getD (AV.cells (List.getD (List.map knA l) (Int.toNat ((S).1 (List.map knA l) to)) AV.dead)) (2 : Nat) AV.dead))), (Value.int IntKind.i64 (exInt (List.getD (AV.cells (List.getD (List.map knA l) (Int.toNat ((S).1 (List.map knA l) to)) AV.dead)) (3 : Nat) AV.dead)))])))))) ∧ (R Exit.normal [(AV.lst (4 : Nat) (List.map knA l) Tip.no), (AV.v (Value.int IntKind.i64 to)), AV.dead, AV.dead, AV.dead, AV.dead, AV.dead, AV.dead, AV.dead, AV.dead, (AV.v (Value.slice none (0 : Nat) (0 : Nat))), (AV.v (Value.bool false)), (AV.ptr (List.length (@List.nil (Prod Go.TypeId (List AV)))) (0 : Nat)), AV.dead, (AV.v (Value.slice none (0 : Nat) (0 : Nat))), (AV.v (Value.int IntKind.i64 (0 : Int))), AV.dead, AV.dead, AV.dead, AV.dead, AV.dead, AV.dead, AV.dead, AV.dead, AV.dead, AV.dead, AV.dead, AV.dead, AV.dead, AV.dead, AV.dead, AV.dead, AV.dead, AV.dead, AV.dead, AV.dead, AV.dead, AV.dead, AV.dead, AV.dead, AV.dead, AV.dead, AV.dead, AV.dead, AV.dead, AV.dead, AV.dead, AV.dead, AV.dead, AV.dead, AV.dead, AV.dead, AV.dead, AV.dead, AV.dead, AV.dead, AV.dead, AV.dead, AV.dead, AV.dead, AV.dead, AV.dead, AV.dead, AV.dead, AV.dead, AV.dead, AV.dead, AV.dead, AV.dead, AV.dead, AV.dead, AV.dead, AV.dead, AV.dead, AV.dead, AV.dead, AV.dead, AV.dead, AV.dead, AV.dead, AV.dead, AV.dead, AV.dead, AV.dead, AV.dead, AV.dead] (AH.mk [((51 : Nat), [(AV.v (Value.int IntKind.i64 to)), (AV.v (Value.int IntKind.i64 th)), (AV.v (Value.int IntKind.i64 ep)), (AV.v (Value.int IntKind.i64 (Bd.kp now (1099511627776 : Int))))])] (@List.nil Nat) (0 : Nat) (0 : Nat) true (@List.nil (Prod Nat Bool)) True))))) else (some ((cds (cdb True ((S).2 (List.map knA l))) (elemB Try.prog (51 : Nat) (List.map knA l) ((S).1 (List.map knA l) to)) (((0 : Int) ≤ ((S).1 (List.map knA l) to)) ∧ (((List.map knA l)[(Int.toNat ((S).1 (List.map knA l) to))]?) = (some (AV.v (Value.agg #[(Value.int IntKind.i64 (exInt (List.getD (AV.cells (List.getD (List.map knA l) (Int.toNat ((S).1 (List.map knA l) to)) AV.dead)) (0 : Nat) AV.dead))), (Value.int IntKind.i64 (exInt (List.getD (AV.cells (List.getD (List.map knA l) (Int.toNat ((S).1 (List.map knA l) to)) AV.dead)) (1 : Nat) AV.dead))), (Value.int IntKind.i64 (exInt (List.getD (AV.cells (List.getD (List.map knA l) (Int.toNat ((S).1 (List.map knA l) to)) AV.dead)) (2 : Nat) AV.dead))), (Value.int IntKind.i64 (exInt (List.getD (AV.cells (List.getD (List.map knA l) (Int.toNat ((S).1 (List.map knA l) to)) AV.dead)) (3 : Nat) AV.dead)))])))))) ∧ (R Exit.normal [(AV.lst (4 : Nat) (List.map knA l) Tip.no), (AV.v (Value.int IntKind.i64 to)), AV.dead, AV.dead, AV.dead, AV.dead, AV.dead, AV.dead, AV.dead, AV.dead, (AV.v (Value.slice none (0 : Nat) (0 : Nat))), (AV.v (Value.bool false)), (AV.ptr (List.length (@List.nil (Prod Go.TypeId (List AV)))) (0 : Nat)), AV.dead, (AV.v (Value.slice none (0 : Nat) (0 : Nat))), (AV.v (Value.int IntKind.i64 (0 : Int))), AV.dead, AV.dead, AV.dead, AV.dead, AV.dead, AV.dead, AV.dead, AV.dead, AV.dead, AV.dead, AV.dead, AV.dead, AV.dead, AV.dead, AV.dead, AV.dead, AV.dead, AV.dead, AV.dead, AV.dead, AV.dead, AV.dead, AV.dead, AV.dead, AV.dead, AV.dead, AV.dead, AV.dead, AV.dead, AV.dead, AV.dead, AV.dead, AV.dead, AV.dead, AV.dead, AV.dead, AV.dead, AV.dead, AV.dead, AV.dead, AV.dead, AV.dead, AV.dead, AV.dead, AV.dead, AV.dead, AV.dead, AV.dead, AV.dead, AV.dead, AV.dead, AV.dead, AV.dead, AV.dead, AV.dead, AV.dead, AV.dead, AV.dead, AV.dead, AV.dead, AV.dead, AV.dead, AV.dead, AV.dead, AV.dead, AV.dead, AV.dead, AV.dead, AV.dead, AV.dead] (AH.mk [((51 : Nat), [(AV.v (Value.int IntKind.i64 to)), (AV.v (Value.int IntKind.i64 th)), (AV.v (Value.int IntKind.i64 ep)), (AV.v (Value.int IntKind.i64 (Bd.kp now (1099511627776 : Int))))])] (@List.nil Nat) (0 : Nat) (0 : Nat) true (@List.nil (Prod Nat Bool)) True)))))) else (bif (decide ((0 : Int) ≤ ((S).1 (List.map knA l) to))) then (bif ((exInt (List.getD (AV.cells (List.getD (List.map knA l) (Int.toNat ((S).1 (List.map knA l) to)) AV.dead)) (2 : Nat) AV.dead)) == ep) then (some ((cds (cds (cdb True ((S).2 (List.map knA l))) (elemB Try.prog (51 : Nat) (List.map knA l) ((S).1 (List.map knA l) to)) (((0 : Int) ≤ ((S).1 (List.map knA l) to)) ∧ (((List.map knA l)[(Int.toNat ((S).1 (List.map knA l) to))]?) = (some (AV.v (Value.agg #[(Value.int IntKind.i64 (exInt (List.getD (AV.cells (List.getD (List.map knA l) (Int.toNat ((S).1 (List.map knA l) to)) AV.dead)) (0 : Nat) AV.dead))), (Value.int IntKind.i64 (exInt (List.getD (AV.cells (List.getD (List.map knA l) (Int.toNat ((S).1 (List.map knA l) to)) AV.dead)) (1 : Nat) AV.dead))), (Value.int IntKind.i64 (exInt (List.getD (AV.cells (List.getD (List.map knA l) (Int.toNat ((S).1 (List.map knA l) to)) AV.dead)) (2 : Nat) AV.dead))), (Value.int IntKind.i64 (exInt (List.getD (AV.cells (List.getD (List.map knA l) (Int.toNat ((S).1 (List.map knA l) to)) AV.dead)) (3 : Nat) AV.dead)))])))))) (elemB Try.prog (51 : Nat) (List.map knA l) ((S).1 (List.map knA l) to)) (((0 : Int) ≤ ((S).1 (List.map knA l) to)) ∧ (((List.map knA l)[(Int.toNat ((S).1 (List.map knA l) to))]?) = (some (AV.v (Value.agg #[(Value.int IntKind.i64 (exInt (List.getD (AV.cells (List.getD (List.map knA l) (Int.toNat ((S).1 (List.map knA l) to)) AV.dead)) (0 : Nat) AV.dead))), (Value.int IntKind.i64 (exInt (List.getD (AV.cells (List.getD (List.map knA l) (Int.toNat ((S).1 (List.map knA l) to)) AV.dead)) (1 : Nat) AV.dead))), (Value.int IntKind.i64 (exInt (List.getD (AV.cells (List.getD (List.map knA l) (Int.toNat ((S).1 (List.map knA l) to)) AV.dead)) (2 : Nat) AV.dead))), (Value.int IntKind.i64 (exInt (List.getD (AV.cells (List.getD (List.map knA l) (Int.toNat ((S).1 (List.map knA l) to)) AV.dead)) (3 : Nat) AV.dead)))])))))) ∧ (R Exit.normal [(AV.lst (4 : Nat) (List.map knA l) Tip.no), (AV.v (Value.int IntKind.i64 to)), AV.dead, AV.dead, AV.dead, AV.dead, AV.dead, AV.dead, AV.dead, AV.dead, (AV.v (Value.slice none (0 : Nat) (0 : Nat))), (AV.v (Value.bool false)), (AV.ptr (List.length (@List.nil (Prod Go.TypeId (List AV)))) (0 : Nat)), AV.dead, (AV.v (Value.slice none (0 : Nat) (0 : Nat))), (AV.v (Value.int IntKind.i64 (0 : Int))), AV.dead, AV.dead, AV.dead, AV.dead, AV.dead, AV.dead, AV.dead, AV.dead, AV.dead, AV.dead, AV.dead, AV.dead, AV.dead, AV.dead, AV.dead, AV.dead, AV.dead, AV.dead, AV.dead, AV.dead, AV.dead, AV.dead, AV.dead, AV.dead, AV.dead, AV.dead, AV.dead, AV.dead, AV.dead, AV.dead, AV.dead, AV.dead, AV.dead, AV.dead, AV.dead, AV.dead, AV.dead, AV.dead, AV.dead, AV.dead, AV.dead, AV.dead, AV.dead, AV.dead, AV.dead, AV.dead, AV.dead, AV.dead, AV.dead, AV.dead, AV.dead, AV.dead, AV.dead, AV.dead, AV.dead, AV.dead, AV.dead, AV.dead, AV.dead, AV.dead, AV.dead, AV.dead, AV.dead, AV.dead, AV.dead, AV.dead, AV.dead, AV.dead, AV.dead, AV.dead] (AH.mk [((51 : Nat), [(AV.v (Value.int IntKind.i64 to)), (AV.v (Value.int IntKind.i64 (exInt (List.getD (AV.cells (List.getD (List.map knA l) (Int.toNat ((S).1 (List.map knA l) to)) AV.dead)) (1 : Nat) AV.dead)))), (AV.v (Value.int IntKind.i64 ep)), (AV.v (Value.int IntKind.i64 (Bd.kp now (1099511627776 : Int))))])] (@List.nil Nat) (0 : Nat) (0 : Nat) true (@List.nil (Prod Nat Bool)) True)))) else (some ((cds (cdb True ((S).2 (List.map knA l))) (elemB Try.prog (51 : Nat) (List.map knA l) ((S).1 (List.map knA l) to)) (((0 : Int) ≤ ((S).1 (List.map knA l) to)) ∧ (((List.map knA l)[(Int.toNat ((S).1 (List.map knA l) to))]?) = (some (AV.v (Value.agg #[(Value.int IntKind.i64 (exInt (List.getD (AV.cells (List.getD (List.map knA l) (Int.toNat ((S).1 (List.map knA l) to)) AV.dead)) (0 : Nat) AV.dead))), (Value.int IntKind.i64 (exInt (List.getD (AV.cells (List.getD (List.map knA l) (Int.toNat ((S).1 (List.map knA l) to)) AV.dead)) (1 : Nat) AV.dead))), (Value.int IntKind.i64 (exInt (List.getD (AV.cells (List.getD (List.map knA l) (Int.toNat ((S).1 (List.map knA l) to)) AV.dead)) (2 : Nat) AV.dead))), (Value.int IntKind.i64 (exInt (List.getD (AV.cells (List.getD (List.map knA l) (Int.toNat ((S).1 (List.map knA l) to)) AV.dead)) (3 : Nat) AV.dead)))])))))) ∧ (R Exit.normal [(AV.lst (4 : Nat) (List.map knA l) Tip.no), (AV.v (Value.int IntKind.i64 to)), AV.dead, AV.dead, AV.dead, AV.dead, AV.dead, AV.dead, AV.dead, AV.dead, (AV.v (Value.slice none (0 : Nat) (0 : Nat))), (AV.v (Value.bool false)), (AV.ptr (List.length (@List.nil (Prod Go.TypeId (List AV)))) (0 : Nat)), AV.dead, (AV.v (Value.slice none (0 : Nat) (0 : Nat))), (AV.v (Value.int IntKind.i64 (0 : Int))), AV.dead, AV.dead, AV.dead, AV.dead, AV.dead, AV.dead, AV.dead, AV.dead, AV.dead, AV.dead, AV.dead, AV.dead, AV.dead, AV.dead, AV.dead, AV.dead, AV.dead, AV.dead, AV.dead, AV.dead, AV.dead, AV.dead, AV.dead, AV.dead, AV.dead, AV.dead, AV.dead, AV.dead, AV.dead, AV.dead, AV.dead, AV.dead, AV.dead, AV.dead, AV.dead, AV.dead, AV.dead, AV.dead, AV.dead, AV.dead, AV.dead, AV.dead, AV.dead, AV.dead, AV.dead, AV.dead, AV.dead, AV.dead, AV.dead, AV.dead, AV.dead, AV.dead, AV.dead, AV.dead, AV.dead, AV.dead, AV.dead, AV.dead, AV.dead, AV.dead, AV.dead, AV.dead, AV.dead, AV.dead, AV.dead, AV.dead, AV.dead, AV.dead, AV.dead, AV.dead] (AH.mk [((51 : Nat), [(AV.v (Value.int IntKind.i64 to)), (AV.v (Value.int IntKind.i64 th)), (AV.v (Value.int IntKind.i64 ep)), (AV.v (Value.int IntKind.i64 (Bd.kp now (1099511627776 : Int))))])] (@List.nil Nat) (0 : Nat) (0 : Nat) true (@List.nil (Prod Nat Bool)) True))))) else (some ((cdb True ((S).2 (List.map knA l))) ∧ (R Exit.normal [(AV.lst (4 : Nat) (List.map knA l) Tip.no), (AV.v (Value.int IntKind.i64 to)), AV.dead, AV.dead, AV.dead, AV.dead, AV.dead, AV.dead, AV.dead, AV.dead, (AV.v (Value.slice none (0 : Nat) (0 : Nat))), (AV.v (Value.bool false)), (AV.ptr (List.length (@List.nil (Prod Go.TypeId (List AV)))) (0 : Nat)), AV.dead, (AV.v (Value.slice none (0 : Nat) (0 : Nat))), (AV.v (Value.int IntKind.i64 (0 : Int))), AV.dead, AV.dead, AV.dead, AV.dead, AV.dead, AV.dead, AV.dead, AV.dead, AV.dead, AV.dead, AV.dead, AV.dead, AV.dead, AV.dead, AV.dead, AV.dead, AV.dead, AV.dead, AV.dead, AV.dead, AV.dead, AV.dead, AV.dead, AV.dead, AV.dead, AV.dead, AV.dead, AV.dead, AV.dead, AV.dead, AV.dead, AV.dead, AV.dead, AV.dead, AV.dead, AV.dead, AV.dead, AV.dead, AV.dead, AV.dead, AV.dead, AV.dead, AV.dead, AV.dead, AV.dead, AV.dead, AV.dead, AV.dead, AV.dead, AV.dead, AV.dead, AV.dead, AV.dead, AV.dead, AV.dead, AV.dead, AV.dead, AV.dead, AV.dead, AV.dead, AV.dead, AV.dead, AV.dead, AV.dead, AV.dead, AV.dead, AV.dead, AV.dead, AV.dead, AV.dead] (AH.mk [((51 : Nat), [(AV.v (Value.int IntKind.i64 to)), (AV.v (Value.int IntKind.i64 th)), (AV.v (Value.int IntKind.i64 ep)), (AV.v (Value.int IntKind.i64 (Bd.kp now (1099511627776 : Int))))])] (@List.nil Nat) (0 : Nat) (0 : Nat) true (@List.nil (Prod Nat Bool)) True)))))))) := by kernel_rfl
theorem le_in (ro : Nat → Option (List Value)) (S : DS) (l acc : List Kno) (v : Nat) (x : Kno) (to i : Int) (R : Exit → List AV → AH → Prop) : code ro (fun _ => false) (prD S) 8 (sub (bodyOf 17) [1, 1, 1, 1, 1, 1, 1, 0, 1, 0, 0]) (leA l to i (accK acc v)) (leH x [v]) (kp [0, 1, 12, 14, 15] R) =
    (bif (decide (i < (8 : Int))) then (bif (i == to) then (some ((cdb (cdb True ((S).2 (List.map knA l))) (decide ((((((List.length (List.map knA acc)) + (List.length [(AV.v (Value.agg #[(Value.int IntKind.i64 (x).1), (Value.int IntKind.i64 (x).2), (Value.int IntKind.i64 (x).3), (Value.int IntKind.i64 (x).4)]))])) * (32 : Nat)) ≤ (140737488355328 : Nat)) ∧ (((List.length (List.map knA acc)) + (List.length [(AV.v (Value.agg #[(Value.int IntKind.i64 (x).1), (Value.int IntKind.i64 (x).2), (Value.int IntKind.i64 (x).3), (Value.int IntKind.i64 (x).4)]))])) ≤ (9223372036854775807 : Nat))) ∧ (v = v)))) ∧ (R Exit.normal [(AV.lst (4 : Nat) (List.map knA l) Tip.no), (AV.v (Value.int IntKind.i64 to)), AV.dead, AV.dead, AV.dead, AV.dead, AV.dead, AV.dead, AV.dead, AV.dead, AV.dead, AV.dead, (AV.ptr (0 : Nat) (0 : Nat)), AV.dead, (AV.lst (4 : Nat) ((List.map knA acc) ++ [(AV.v (Value.agg #[(Value.int IntKind.i64 (x).1), (Value.int IntKind.i64 (x).2), (Value.int IntKind.i64 (x).3), (Value.int IntKind.i64 (x).4)]))]) (Tip.tp (0 : Nat) (v + (1 : Nat)))), (AV.v (Value.int IntKind.i64 (IntKind.wrap IntKind.i64 (i + (1 : Int))))), AV.dead, AV.dead, AV.dead, AV.dead, AV.dead, AV.dead, AV.dead, AV.dead, AV.dead, AV.dead, AV.dead, AV.dead, AV.dead, AV.dead, AV.dead, AV.dead, AV.dead, AV.dead, AV.dead, AV.dead, AV.dead, AV.dead, AV.dead, AV.dead, AV.dead, AV.dead, AV.dead, AV.dead, AV.dead, AV.dead, AV.dead, AV.dead, AV.dead, AV.dead, AV.dead, AV.dead, AV.dead, AV.dead, AV.dead, AV.dead, AV.dead, AV.dead, AV.dead, AV.dead, AV.dead, AV.dead, AV.dead, AV.dead, AV.dead, AV.dead, AV.dead, AV.dead, AV.dead, AV.dead, AV.dead, AV.dead, AV.dead, AV.dead, AV.dead, AV.dead, AV.dead, AV.dead, AV.dead, AV.dead, AV.dead, AV.dead, AV.dead, AV.dead, AV.dead, AV.dead] (AH.mk [((51 : Nat), [(AV.v (Value.int IntKind.i64 (x).1)), (AV.v (Value.int IntKind.i64 (x).2)), (AV.v (Value.int IntKind.i64 (x).3)), (AV.v (Value.int IntKind.i64 (x).4))])] [(v + (1 : Nat))] (0 : Nat) (0 : Nat) true (@List.nil (Prod Nat Bool)) True)))) else (bif (decide ((0 : Int) ≤ ((S).1 (List.map knA l) i))) then (some ((cdb (cds (cdb True ((S).2 (List.map knA l))) (elemB Try.prog (51 : Nat) (List.map knA l) ((S).1 (List.map knA l) i)) (((0 : Int) ≤ ((S).1 (List.map knA l) i)) ∧ (((List.map knA l)[(Int.toNat ((S).1 (List.map knA l) i))]?) = (some (AV.v (Value.agg #[(Value.int IntKind.i64 (exInt (List.getD (AV.cells (List.getD (List.map knA l) (Int.toNat ((S).1 (List.map knA l) i)) AV.dead)) (0 : Nat) AV.dead))), (Value.int IntKind.i64 (exInt (List.getD (AV.cells (List.getD (List.map knA l) (Int.toNat ((S).1 (List.map knA l) i)) AV.dead)) (1 : Nat) AV.dead))), (Value.int IntKind.i64 (exInt (List.getD (AV.cells (List.getD (List.map knA l) (Int.toNat ((S).1 (List.map knA l) i)) AV.dead)) (2 : Nat) AV.dead))), (Value.int IntKind.i64 (exInt (List.getD (AV.cells (List.getD (List.map knA l) (Int.toNat ((S).1 (List.map knA l) i)) AV.dead)) (3 : Nat) AV.dead)))])))))) (decide ((((((List.length (List.map knA acc)) + (List.length [(AV.v (Value.agg #[(Value.int IntKind.i64 (exInt (List.getD (AV.cells (List.getD (List.map knA l) (Int.toNat ((S).1 (List.map knA l) i)) AV.dead)) (0 : Nat) AV.dead))), (Value.int IntKind.i64 (exInt (List.getD (AV.cells (List.getD (List.map knA l) (Int.toNat ((S).1 (List.map knA l) i)) AV.dead)) (1 : Nat) AV.dead))), (Value.int IntKind.i64 (exInt (List.getD (AV.cells (List.getD (List.map knA l) (Int.toNat ((S).1 (List.map knA l) i)) AV.dead)) (2 : Nat) AV.dead))), (Value.int IntKind.i64 (exInt (List.getD (AV.cells (List.getD (List.map knA l) (Int.toNat ((S).1 (List.map knA l) i)) AV.dead)) (3 : Nat) AV.dead)))]))])) * (32 : Nat)) ≤ (140737488355328 : Nat)) ∧ (((List.length (List.map knA acc)) + (List.length [(AV.v (Value.agg #[(Value.int IntKind.i64 (exInt (List.getD (AV.cells (List.getD (List.map knA l) (Int.toNat ((S).1 (List.map knA l) i)) AV.dead)) (0 : Nat) AV.dead))), (Value.int IntKind.i64 (exInt (List.getD (AV.cells (List.getD (List.map knA l) (Int.toNat ((S).1 (List.map knA l) i)) AV.dead)) (1 : Nat) AV.dead))), (Value.int IntKind.i64 (exInt (List.getD (AV.cells (List.getD (List.map knA l) (Int.toNat ((S).1 (List.map knA l) i)) AV.dead)) (2 : Nat) AV.dead))), (Value.int IntKind.i64 (exInt (List.getD (AV.cells (List.getD (List.map knA l) (Int.toNat ((S).1 (List.map knA l) i)) AV.dead)) (3 : Nat) AV.dead)))]))])) ≤ (9223372036854775807 : Nat))) ∧ (v = v)))) ∧ (R Exit.normal [(AV.lst (4 : Nat) (List.map knA l) Tip.no), (AV.v (Value.int IntKind.i64 to)), AV.dead, AV.dead, AV.dead, AV.dead, AV.dead, AV.dead, AV.dead, AV.dead, AV.dead, AV.dead, (AV.ptr (0 : Nat) (0 : Nat)), AV.dead, (AV.lst (4 : Nat) ((List.map knA acc) ++ [(AV.v (Value.agg #[(Value.int IntKind.i64 (exInt (List.getD (AV.cells (List.getD (List.map knA l) (Int.toNat ((S).1 (List.map knA l) i)) AV.dead)) (0 : Nat) AV.dead))), (Value.int IntKind.i64 (exInt (List.getD (AV.cells (List.getD (List.map knA l) (Int.toNat ((S).1 (List.map knA l) i)) AV.dead)) (1 : Nat) AV.dead))), (Value.int IntKind.i64 (exInt (List.getD (AV.cells (List.getD (List.map knA l) (Int.toNat ((S).1 (List.map knA l) i)) AV.dead)) (2 : Nat) AV.dead))), (Value.int IntKind.i64 (exInt (List.getD (AV.cells (List.getD (List.map knA l) (Int.toNat ((S).1 (List.map knA l) i)) AV.dead)) (3 : Nat) AV.dead)))]))]) (Tip.tp (0 : Nat) (v + (1 : Nat)))), (AV.v (Value.int IntKind.i64 (IntKind.wrap IntKind.i64 (i + (1 : Int))))), AV.dead, AV.dead, AV.dead, AV.dead, AV.dead, AV.dead, AV.dead, AV.dead, AV.dead, AV.dead, AV.dead, AV.dead, AV.dead, AV.dead, AV.dead, AV.dead, AV.dead, AV.dead, AV.dead, AV.dead, AV.dead, AV.dead, AV.dead, AV.dead, AV.dead, AV.dead, AV.dead, AV.dead, AV.dead, AV.dead, AV.dead, AV.dead, AV.dead, AV.dead, AV.dead, AV.dead, AV.dead, AV.dead, AV.dead, AV.dead, AV.dead, AV.dead, AV.dead, AV.dead, AV.dead, AV.dead, AV.dead, AV.dead, AV.dead, AV.dead, AV.dead, AV.dead, AV.dead, AV.dead, AV.dead, AV.dead, AV.dead, AV.dead, AV.dead, AV.dead, AV.dead, AV.dead, AV.dead, AV.dead, AV.dead, AV.dead, AV.dead, AV.dead, AV.dead, AV.dead] (AH.mk [((51 : Nat), [(AV.v (Value.int IntKind.i64 (x).1)), (AV.v (Value.int IntKind.i64 (x).2)), (AV.v (Value.int IntKind.i64 (x).3)), (AV.v (Value.int IntKind.i64 (x).4))])] [(v + (1 : Nat))] (0 : Nat) (0 : Nat) true (@List.nil (Prod Nat Bool)) True)))) else (some ((cdb True ((S).2 (List.map knA l))) ∧ (R Exit.normal [(AV.lst (4 : Nat) (List.map knA l) Tip.no), (AV.v (Value.int IntKind.i64 to)), AV.dead, AV.dead, AV.dead, AV.dead, AV.dead, AV.dead, AV.dead, AV.dead, AV.dead, AV.dead, (AV.ptr (0 : Nat) (0 : Nat)), AV.dead, (AV.lst (4 : Nat) (List.map knA acc) (Tip.tp (0 : Nat) v)), (AV.v (Value.int IntKind.i64 (IntKind.wrap IntKind.i64 (i + (1 : Int))))), AV.dead, AV.dead, AV.dead, AV.dead, AV.dead, AV.dead, AV.dead, AV.dead, AV.dead, AV.dead, AV.dead, AV.dead, AV.dead, AV.dead, AV.dead, AV.dead, AV.dead, AV.dead, AV.dead, AV.dead, AV.dead, AV.dead, AV.dead, AV.dead, AV.dead, AV.dead, AV.dead, AV.dead, AV.dead, AV.dead, AV.dead, AV.dead, AV.dead, AV.dead, AV.dead, AV.dead, AV.dead, AV.dead, AV.dead, AV.dead, AV.dead, AV.dead, AV.dead, AV.dead, AV.dead, AV.dead, AV.dead, AV.dead, AV.dead, AV.dead, AV.dead, AV.dead, AV.dead, AV.dead, AV.dead, AV.dead, AV.dead, AV.dead, AV.dead, AV.dead, AV.dead, AV.dead, AV.dead, AV.dead, AV.dead, AV.dead, AV.dead, AV.dead, AV.dead, AV.dead] (AH.mk [((51 : Nat), [(AV.v (Value.int IntKind.i64 (x).1)), (AV.v (Value.int IntKind.i64 (x).2)), (AV.v (Value.int IntKind.i64 (x).3)), (AV.v (Value.int IntKind.i64 (x).4))])] [v] (0 : Nat) (0 : Nat) true (@List.nil (Prod Nat Bool)) True)))))) else (some (True ∧ (R (Exit.exit (0 : Nat)) [(AV.lst (4 : Nat) (List.map knA l) Tip.no), (AV.v (Value.int IntKind.i64 to)), AV.dead, AV.dead, AV.dead, AV.dead, AV.dead, AV.dead, AV.dead, AV.dead, AV.dead, AV.dead, (AV.ptr (0 : Nat) (0 : Nat)), AV.dead, (AV.lst (4 : Nat) (List.map knA acc) (Tip.tp (0 : Nat) v)), (AV.v (Value.int IntKind.i64 i)), AV.dead, AV.dead, AV.dead, AV.dead, AV.dead, AV.dead, AV.dead, AV.dead, AV.dead, AV.dead, AV.dead, AV.dead, AV.dead, AV.dead, AV.dead, AV.dead, AV.dead, AV.dead, AV.dead, AV.dead, AV.dead, AV.dead, AV.dead, AV.dead, AV.dead, AV.dead, AV.dead, AV.dead, AV.dead, AV.dead, AV.dead, AV.dead, AV.dead, AV.dead, AV.dead, AV.dead, AV.dead, AV.dead, AV.dead, AV.dead, AV.dead, AV.dead, AV.dead, AV.dead, AV.dead, AV.dead, AV.dead, AV.dead, AV.dead, AV.dead, AV.dead, AV.dead, AV.dead, AV.dead, AV.dead, AV.dead, AV.dead, AV.dead, AV.dead, AV.dead, AV.dead, AV.dead, AV.dead, AV.dead, AV.dead, AV.dead, AV.dead, AV.dead, AV.dead, AV.dead] (AH.mk [((51 : Nat), [(AV.v (Value.int IntKind.i64 (x).1)), (AV.v (Value.int IntKind.i64 (x).2)), (AV.v (Value.int IntKind.i64 (x).3)), (AV.v (Value.int IntKind.i64 (x).4))])] [v] (0 : Nat) (0 : Nat) true (@List.nil (Prod Nat Bool)) True))))) := by kernel_rfl
theorem le_9 (ro : Nat → Option (List Value)) (l acc : List Kno) (v : Nat) (x : Kno) (to i : Int) (R : Exit → List AV → AH → Prop) : codeL ro (fun _ => false) (fun _ => none) 8 ((flatten (bodyOf 17)).drop 12) (leA l to i (accK acc v)) (leH x [v]) (kp [10, 11] R) =
    (some (True ∧ (R Exit.ret [AV.dead, AV.dead, AV.dead, AV.dead, AV.dead, AV.dead, AV.dead, AV.dead, AV.dead, AV.dead, (AV.lst (4 : Nat) (List.map knA acc) (Tip.tp (0 : Nat) v)), (AV.v (Value.bool true)), AV.dead, AV.dead, AV.dead, AV.dead, AV.dead, AV.dead, AV.dead, AV.dead, AV.dead, AV.dead, AV.dead, AV.dead, AV.dead, AV.dead, AV.dead, AV.dead, AV.dead, AV.dead, AV.dead, AV.dead, AV.dead, AV.dead, AV.dead, AV.dead, AV.dead, AV.dead, AV.dead, AV.dead, AV.dead, AV.dead, AV.dead, AV.dead, AV.dead, AV.dead, AV.dead, AV.dead, AV.dead, AV.dead, AV.dead, AV.dead, AV.dead, AV.dead, AV.dead, AV.dead, AV.dead, AV.dead, AV.dead, AV.dead, AV.dead, AV.dead, AV.dead, AV.dead, AV.dead, AV.dead, AV.dead, AV.dead, AV.dead, AV.dead, AV.dead, AV.dead, AV.dead, AV.dead, AV.dead, AV.dead, AV.dead, AV.dead, AV.dead, AV.dead, AV.dead, AV.dead, AV.dead, AV.dead, AV.dead, AV.dead] (AH.mk [((51 : Nat), [(AV.v (Value.int IntKind.i64 (x).1)), (AV.v (Value.int IntKind.i64 (x).2)), (AV.v (Value.int IntKind.i64 (x).3)), (AV.v (Value.int IntKind.i64 (x).4))])] [v] (0 : Nat) (0 : Nat) true (@List.nil (Prod Nat Bool)) True)))) := by kernel_rfl
end Go.Proofs.Ytahahflpackiiaa.AE
namespace Go.Proofs.Ytahahflpackiiaa.AE
open Go.RowKit
theorem kn_get {cs : List Kno} {i : Nat} (h : i < cs.length) : (cs.map knA).getD (Int.toNat (i : Int)) .dead = knA cs[i] := by
  show (cs.map knA).getD i .dead = _
  rw [List.getD_eq_getElem?_getD]
  simp [h]
theorem kn_el {cs : List Kno} {i : Nat} (h : i < cs.length) : (0 : Int) ≤ (i : Int) ∧ (cs.map knA)[Int.toNat (i : Int)]? = some (knA cs[i]) := ⟨Int.natCast_nonneg i, by
  show (cs.map knA)[i]? = _
  simp [h]⟩
theorem knl (l : List Kno) : (l.map knA).length = l.length := List.length_map ..
def knos? : List AV → Option (List Kno)
  | [] => some []
  | .v (.agg ⟨[.int .i64 a, .int .i64 b, .int .i64 c, .int .i64 d]⟩) :: l => match knos? l with
    | some r => some (⟨a, b, c, d⟩ :: r)
    | none => none
  | _ => none
theorem knos_map : ∀ l : List Kno, knos? (l.map knA) = some l
  | [] => rfl
  | e :: l => by
    show (match knos? (l.map knA) with | some r => some (e :: r) | none => none) = _
    rw [knos_map l]
theorem knos_eq : ∀ {xs : List AV} {l : List Kno}, knos? xs = some l → xs = l.map knA
  | [], l, h => by cases h; rfl
  | x :: xs, l, h => by
    unfold knos? at h
    split at h
    · rename_i e; cases e
    · rename_i a b c d l' e
      simp only [List.cons.injEq] at e
      obtain ⟨rfl, rfl⟩ := e
      split at h
      · rename_i r hr
        cases h
        rw [knos_eq hr]; rfl
      · cases h
    · cases h
def knX (xs : List AV) : List Kno := match knos? xs with
  | some l => l
  | none => []
theorem knX_map (l : List Kno) : knX (l.map knA) = l := by unfold knX; simp only [knos_map]
def fkI (l : List Kno) (to : Int) : Int := match l.findIdx? (fun x => x.to == to) with
  | some i => i
  | none => -1
theorem fk_no {l : List Kno} {to : Int} (h : ∀ x ∈ l, (x.to == to) = false) : fkI l to = -1 := by
  unfold fkI
  rw [List.findIdx?_eq_none_iff.2 h]
theorem fk_at {l : List Kno} {to : Int} {k : Nat} (hk : k < l.length) (he : (l[k].to == to) = true) (h : ∀ x ∈ l.take k, (x.to == to) = false) : fkI l to = k := by
  unfold fkI
  rw [List.findIdx?_eq_some_iff_getElem.2 ⟨hk, he, fun j hj => by
    have : l[j] ∈ l.take k := by
      have hj2 : j < (l.take k).length := by rw [List.length_take]; omega
      have := List.getElem_mem hj2
      rwa [List.getElem_take] at this
    rw [h _ this]; exact Bool.false_ne_true⟩]
theorem fk_cases2 (l : List Kno) (to : Int) : (fkI l to = -1 ∧ l.find? (fun x => x.to == to) = none) ∨ ∃ i, ∃ h : i < l.length, fkI l to = (i : Int) ∧ l.find? (fun x => x.to == to) = some l[i] ∧ l[i].to = to := by
  rcases h : l.findIdx? (fun x => x.to == to) with _ | i
  · left
    refine ⟨by unfold fkI; rw [h], List.find?_eq_none.2 fun x hx => by rw [List.findIdx?_eq_none_iff.1 h x hx]; exact Bool.false_ne_true⟩
  · right
    obtain ⟨hi, he, hj⟩ := List.findIdx?_eq_some_iff_getElem.1 h
    refine ⟨i, hi, by unfold fkI; rw [h], ?_, by simpa using he⟩
    have e : l = l.take i ++ l[i] :: l.drop (i + 1) := by rw [← List.drop_eq_getElem_cons hi, List.take_append_drop]
    have h4 : (l.take i).find? (fun x => x.to == to) = none := List.find?_eq_none.2 fun c hc => by
      obtain ⟨j, hj2, rfl⟩ := List.getElem_of_mem hc
      rw [List.getElem_take]
      have hj3 : j < i := by rw [List.length_take] at hj2; omega
      exact hj j hj3
    have : (l.take i ++ l[i] :: l.drop (i + 1)).find? (fun x => x.to == to) = some l[i] := by
      rw [List.find?_append, h4, Option.none_or, List.find?_cons_of_pos (by exact he)]
    rw [← e] at this
    exact this
def freshK (ttl now : Int) (x : Kno) : Bool := decide (Bd.leftT now x.at' ≤ ttl)
def dsX : DS where
  fk xs to := fkI (knX xs) to
  kok xs := match knos? xs with
    | some l => decide (l.length ≤ 1000)
    | none => false
  fl xs ttl now := ((knX xs).filter (freshK ttl now)).map knA
theorem d_fk (l : List Kno) (to : Int) : dsX.fk (l.map knA) to = fkI l to := by show fkI (knX _) to = _; rw [knX_map]
theorem d_fl (l : List Kno) (ttl now : Int) : dsX.fl (l.map knA) ttl now = (l.filter (freshK ttl now)).map knA := by show ((knX _).filter _).map knA = _; rw [knX_map]
theorem d_kok {l : List Kno} (h : l.length ≤ 1000) : dsX.kok (l.map knA) = true := by
  show (match knos? (l.map knA) with | some l => decide (l.length ≤ 1000) | none => false) = true
  rw [knos_map]; exact decide_eq_true h
theorem d_out {xs : List AV} (h : dsX.kok xs = true) : ∃ l : List Kno, xs = l.map knA ∧ l.length ≤ 1000 := by
  have h : (match knos? xs with | some l => decide (l.length ≤ 1000) | none => false) = true := h
  split at h
  · rename_i l hl
    exact ⟨l, knos_eq hl, of_decide_eq_true h⟩
  · cases h
theorem fi_sl : slotsOf 30 = 20 := by kernel_rfl
theorem fi_re : resultsOf 30 = [.tmp 4] := by kernel_rfl
theorem fi_fl : (flatten (bodyOf 30)).drop 2 = .block 0 (.loop (sub (bodyOf 30) [1, 0, 1, 0, 0])) :: (flatten (bodyOf 30)).drop 3 := by kernel_rfl
theorem take_no {l : List Kno} {to : Int} {i : Nat} (h : i < l.length) (h2 : ∀ x ∈ l.take i, (x.to == to) = false) (h3 : (l[i].to == to) = false) : ∀ x ∈ l.take (i + 1), (x.to == to) = false := by
  rw [take_snoc h]
  intro c hc
  rw [List.mem_append, List.mem_singleton] at hc
  rcases hc with hc | rfl
  · exact h2 c hc
  · exact h3
set_option maxRecDepth 100000 in
theorem fs_find {ro : Nat → Option (List Value)} (l : List Kno) (to : Int) (ha : l.length ≤ 1000000) : Fs Try.prog ro 30 [knL l, gi to] (hp [] []) fun r _ => r = gi (fkI l to) := by
  refine Fs.of_body (has_fn (by kernel_rfl)) ?_
  rw [fi_sl, fi_re]
  refine Tr.of_flat (Trl.split 2 (Trl.of_code (known_none _) (ne_nil (by kernel_rfl)) (fi_pre ro l to _) ⟨trivial, ?_⟩))
  show Trl _ _ ((flatten (bodyOf 30)).drop 2) _ _ _
  rw [fi_fl]
  refine Tr.keepL [0, 1, 4, 5] rfl ?_
  let I : Nat → List AV → AH → Prop := fun m act H => ∃ i : Nat, i ≤ l.length ∧ (∀ x ∈ l.take i, (x.to == to) = false) ∧ m = l.length - i ∧ act = fiA l to i ∧ H = hp [] []
  refine Tr.block (Tr.loop I ?_ (m := l.length) ⟨0, Nat.zero_le _, (by rintro c hc; cases hc), rfl, rfl, rfl⟩)
  rintro m act H ⟨i, hi, hno, rfl, rfl, rfl⟩
  have body := fun R => fi_in ro l to i R
  rw [inc64 i (by omega)] at body
  simp only [knl] at body
  refine Tr.of_code (known_none _) (body _) (holds_bif (fun h1 => ?_) fun h1 => ⟨trivial, ?_⟩)
  · have h1 : i < l.length := by have := of_decide_eq_true h1; omega
    have g1 := kn_el h1
    rw [kn_get h1]
    exact holds_bif (fun h3 => ⟨cds_of trivial g1, .inr rfl, trivial, congrArg gi (fk_at h1 h3 hno).symm⟩) (fun h3 => ⟨cds_of trivial g1, l.length - (i + 1), by omega, i + 1, h1, take_no h1 hno h3, rfl, rfl, rfl⟩)
  · have h1 : i = l.length := by have := of_decide_eq_false h1; omega
    subst h1
    rw [List.take_length] at hno
    show Trl _ _ ((flatten (bodyOf 30)).drop 3) _ _ _
    exact Trl.of_code (known_none _) (ne_nil (by kernel_rfl)) (fi_9 ro _ _ _ _) ⟨trivial, .inr rfl, trivial, congrArg gi (fk_no hno).symm⟩
theorem Fs.nrm {P : Program} {ro : Nat → Option (List Value)} {g : FuncId} {args : List AV} {H : AH} {Φ : AV → AH → Prop} (h : Fs P ro g (args.map AE.nrm) H Φ) : Fs P ro g args H Φ := fun G W cargs hI hR hA => h G W cargs hI hR (nrms_rv hA)
theorem find_ok {ro : Nat → Option (List Value)} : ∀ args H r H', data? (fiP dsX) args H = some (r, H') → HSound1 Try.prog ro 30 args H r H' := by
  refine data_ok (has_fn (by kernel_rfl)) fun args r h => Fs.nrm ?_
  unfold fiP at h
  split at h
  · rename_i xs t to
    simp only [Option.some.injEq, Prod.mk.injEq] at h
    obtain ⟨rfl, hq⟩ := h
    obtain ⟨l, rfl, hl⟩ := d_out hq
    refine (fs_find l to (by omega)).mono ?_
    rintro r' H' rfl
    rw [d_fk]; rfl
  · cases h
theorem al_sl : slotsOf 38 = 32 := by kernel_rfl
theorem al_re : resultsOf 38 = [.tmp 6] := by kernel_rfl
theorem al_fl : (flatten (bodyOf 38)).drop 3 = .block 0 (.loop (sub (bodyOf 38) [1, 1, 0, 1, 0, 0])) :: (flatten (bodyOf 38)).drop 4 := by kernel_rfl
theorem kf_yes {p : Kno → Bool} {L : List Kno} {i : Nat} (h : i < L.length) (hp : p L[i] = true) : (L.take (i + 1)).filter p = (L.take i).filter p ++ [L[i]] := by
  rw [take_snoc h, List.filter_append, List.filter_cons_of_pos hp]; rfl
theorem kf_no {p : Kno → Bool} {L : List Kno} {i : Nat} (h : i < L.length) (hp : p L[i] = false) : (L.take (i + 1)).filter p = (L.take i).filter p := by
  rw [take_snoc h, List.filter_append, List.filter_cons_of_neg (by rw [hp]; simp)]; simp
theorem kf_le {p : Kno → Bool} {L : List Kno} {i : Nat} (h : i ≤ L.length) : ((L.take i).filter p).length ≤ i := by
  have := List.length_filter_le p (L.take i)
  rw [List.length_take] at this
  omega
theorem left_ok {ro : Nat → Option (List Value)} : ∀ args H r H', pure? lfP args H = some (r, H') → HSound1 Try.prog ro 35 args H r H' := by
  refine pure_of_calls (has_fn (by kernel_rfl)) fun us c h W _ => ?_
  unfold lfP at h
  split at h
  · simp only [Option.some.injEq, Prod.mk.injEq, and_true] at h
    subst h
    refine (rleft_any _ _ W).mono ?_
    rintro e W' ⟨rfl, rfl⟩
    exact ⟨rfl, Below.refl _ _⟩
  · cases h
theorem tick_ok {ro : Nat → Option (List Value)} : ∀ args H r H', pure? tiP args H = some (r, H') → HSound1 Try.prog ro 29 args H r H' := by
  refine pure_of_calls (has_fn (by kernel_rfl)) fun us c h W _ => ?_
  unfold tiP at h
  split at h
  · simp only [Option.some.injEq, Prod.mk.injEq, and_true] at h
    subst h
    refine (rtick_any _ W).mono ?_
    rintro e W' ⟨rfl, rfl⟩
    exact ⟨rfl, Below.refl _ _⟩
  · cases h
theorem knownLf {ro : Nat → Option (List Value)} : Known ro prL := by
  intro g p h
  unfold prL at h
  split at h
  · cases h; exact left_ok
  · cases h
set_option maxHeartbeats 4000000 in
set_option maxRecDepth 100000 in
theorem fs_kall {ro : Nat → Option (List Value)} (L : List Kno) (ttl now : Int) (hl : L.length ≤ 1000000) : Fs Try.prog ro 38 [knL L, gi ttl, gi now] (hp [] []) fun r _ => clean r = some (knL (L.filter (freshK ttl now))) := by
  refine Fs.of_body (has_fn (by kernel_rfl)) ?_
  rw [al_sl, al_re]
  refine Tr.of_flat (Trl.split 3 (Trl.of_code (known_none _) (ne_nil (by kernel_rfl)) (al_pre ro L ttl now _) ⟨trivial, ?_⟩))
  show Trl _ _ ((flatten (bodyOf 38)).drop 3) _ _ _
  rw [al_fl]
  refine Trl.nilTip 7 4 rfl rfl ?_
  let I : Nat → List AV → AH → Prop := fun m act H => ∃ i v : Nat, i ≤ L.length ∧ m = L.length - i ∧ act = alA L ttl now i (accK ((L.take i).filter (freshK ttl now)) v) ∧ H = hp [] [v]
  refine Tr.keepL [0, 1, 2, 7, 8] rfl (Tr.block (Tr.loop I ?_ (m := L.length) ⟨0, 0, Nat.zero_le _, rfl, rfl, rfl⟩))
  rintro m act H ⟨i, v, hi, rfl, rfl, rfl⟩
  have hle := kf_le (p := freshK ttl now) hi
  have body := fun R => al_in ro L ((L.take i).filter (freshK ttl now)) v ttl now i R
  rw [inc64 i (by omega)] at body
  simp only [knl] at body
  refine Tr.of_code knownLf (body _) (holds_bif (fun h1 => ?_) fun h1 => ⟨trivial, ?_⟩)
  · have h1 : i < L.length := by have := of_decide_eq_true h1; omega
    have g1 := kn_el h1
    rw [kn_get h1]
    have yes : freshK ttl now L[i] = true → alA L ttl now ((i + 1 : Nat) : Int) (.lst 4 (((L.take i).filter (freshK ttl now)).map knA ++ [knA L[i]]) (.tp 0 (v + 1))) = alA L ttl now ((i + 1 : Nat) : Int) (accK ((L.take (i + 1)).filter (freshK ttl now)) (v + 1)) := fun hp => by
      rw [kf_yes h1 hp]; unfold accK; rw [List.map_append]; rfl
    have no : freshK ttl now L[i] = false → alA L ttl now ((i + 1 : Nat) : Int) (accK ((L.take i).filter (freshK ttl now)) v) = alA L ttl now ((i + 1 : Nat) : Int) (accK ((L.take (i + 1)).filter (freshK ttl now)) v) := fun hp => by
      rw [kf_no h1 hp]
    exact holds_bif (fun h2 => ⟨cdb_iff.2 ⟨cds_of (cds_of trivial g1) g1, decide_eq_true ⟨⟨by simp only [List.length_cons, List.length_nil]; omega, by simp only [List.length_cons, List.length_nil]; omega⟩, trivial⟩⟩, L.length - (i + 1), by omega, i + 1, v + 1, h1, rfl, yes h2, rfl⟩) fun h2 => ⟨cds_of trivial g1, L.length - (i + 1), by omega, i + 1, v, h1, rfl, no h2, rfl⟩
  · have h1 : i = L.length := by have := of_decide_eq_false h1; omega
    subst h1
    show Trl _ _ ((flatten (bodyOf 38)).drop 4) _ _ _
    refine Trl.of_code (known_none _) (ne_nil (by kernel_rfl)) (al_9 ro L _ v ttl now _ _) ⟨trivial, .inr rfl, trivial, ?_⟩
    rw [List.take_length]; rfl
theorem kall_ok {ro : Nat → Option (List Value)} : ∀ args H r H', data? (alP dsX) args H = some (r, H') → HSound1 Try.prog ro 38 args H r H' := by
  refine data_ok (has_fn (by kernel_rfl)) fun args r h => Fs.nrm ?_
  unfold alP at h
  split at h
  · rename_i xs t ttl now
    simp only [Option.some.injEq, Prod.mk.injEq] at h
    obtain ⟨rfl, hq⟩ := h
    obtain ⟨l, rfl, hl⟩ := d_out hq
    refine (fs_kall l ttl now (by omega)).mono ?_
    rintro r' H' hr
    rw [d_fl]; exact hr
  · cases h
theorem knownD {ro : Nat → Option (List Value)} : Known ro (prD dsX) := by
  intro g p h
  unfold prD at h
  split at h
  · cases h; exact find_ok
  · cases h; exact kall_ok
  · cases h; exact left_ok
  · cases h; exact tick_ok
  · cases h
def cutK (l : List Kno) (ttl to lv now : Int) : Bool := match (l.filter (freshK ttl now)).find? (fun x => x.to == to) with
  | some x => decide (lv < 0) || decide (x.th ≤ lv)
  | none => false
theorem fs_cuts {ro : Nat → Option (List Value)} (l : List Kno) (hl : l.length ≤ 1000) (ttl to lv now : Int) : Fs Try.prog ro 24 [knL l, gi ttl, gi to, gi lv, gi now] (hp [] []) fun r _ => r = .v (.bool (cutK l ttl to lv now)) := by
  have tree := fun Φ => cu_t ro dsX l ttl to lv now Φ
  have hl2 : (l.filter (freshK ttl now)).length ≤ 1000 := Nat.le_trans (List.length_filter_le _ _) hl
  simp only [d_fl, d_fk] at tree
  have c1 := cdb_iff.2 ⟨cdb_iff.2 ⟨trivial, d_kok hl⟩, d_kok hl2⟩
  refine Fs.of_call knownD (tree fun r _ => r = .v (.bool (cutK l ttl to lv now))) ?_
  rcases fk_cases2 (l.filter (freshK ttl now)) to with ⟨e1, e2⟩ | ⟨i, hi, e1, e2, e3⟩
  · rw [e1]
    refine holds_bif (fun h => absurd (of_decide_eq_true h) (by decide)) fun _ => ⟨c1, ?_⟩
    unfold cutK; rw [e2]
  · rw [e1, kn_get hi]
    have g1 := kn_el hi
    refine holds_bif (fun _ => holds_bif (fun h2 => ⟨c1, ?_⟩) fun h2 => ⟨cds_of c1 g1, ?_⟩) fun h => absurd (of_decide_eq_false h) (by omega)
    · unfold cutK; rw [e2]
      show AV.v (.bool true) = .v (.bool (decide (lv < 0) || _))
      rw [h2]; rfl
    · unfold cutK; rw [e2]
      show _ = AV.v (.bool (decide (lv < 0) || decide ((l.filter (freshK ttl now))[i].th ≤ lv)))
      rw [h2]; rfl
end Go.Proofs.Ytahahflpackiiaa.AE
namespace Go.Proofs.Ytahahflpackiiaa.AE
open Go.RowKit
def bldF (l : List Kno) (x : Kno) (n : Nat) : Option Kno := if (n : Int) = x.to then some x else l.find? (fun y => y.to == (n : Int))
def bldK (l : List Kno) (x : Kno) (k : Nat) : List Kno := (List.range k).filterMap (bldF l x)
theorem bld_some {l : List Kno} {x y : Kno} {k : Nat} (h : bldF l x k = some y) : bldK l x (k + 1) = bldK l x k ++ [y] := by
  unfold bldK; rw [List.range_succ, List.filterMap_append, List.filterMap_cons_some h]; rfl
theorem bld_none {l : List Kno} {x : Kno} {k : Nat} (h : bldF l x k = none) : bldK l x (k + 1) = bldK l x k := by
  unfold bldK; rw [List.range_succ, List.filterMap_append, List.filterMap_cons_none h]; exact List.append_nil _
theorem bld_len (l : List Kno) (x : Kno) (k : Nat) : (bldK l x k).length ≤ k := by
  unfold bldK; exact Nat.le_trans (List.length_filterMap_le _ _) (by simp)
def lrnK (l : List Kno) (to th ep now : Int) : List Kno × Bool :=
  if to < 0 ∨ 7 < to then (l, false) else match l.find? (fun y => y.to == to) with
  | none => (bldK l ⟨to, th, ep, Bd.kp now Bd.tMost⟩ 8, true)
  | some y => if ep < y.ep then (l, false) else (bldK l ⟨to, if y.ep = ep then y.th else th, ep, Bd.kp now Bd.tMost⟩ 8, true)
def leA0 (l : List Kno) (to : Int) : List AV := [knL l, gi to, .dead, .dead, .dead, .dead, .dead, .dead, .dead, .dead, nilV, .v (.bool false), .ptr 0 0, .dead, nilV, gi 0] ++ ded 70
theorem le_sl : slotsOf 17 = 86 := by kernel_rfl
theorem le_re : resultsOf 17 = [.tmp 10, .tmp 11] := by kernel_rfl
theorem le_fl : (flatten (bodyOf 17)).drop 11 = .block 0 (.loop (sub (bodyOf 17) [1, 1, 1, 1, 1, 1, 1, 0, 1, 0, 0])) :: (flatten (bodyOf 17)).drop 12 := by kernel_rfl
theorem app_acc (acc : List Kno) (y : Kno) (v : Nat) : AV.lst 4 (acc.map knA ++ [knA y]) (.tp 0 (v + 1)) = accK (acc ++ [y]) (v + 1) := by unfold accK; rw [List.map_append]; rfl
set_option maxHeartbeats 4000000 in
set_option maxRecDepth 100000 in
theorem le_loop {ro : Nat → Option (List Value)} (l : List Kno) (hl : l.length ≤ 1000) (x : Kno) : Trl Try.prog ro ((flatten (bodyOf 17)).drop 11) (leA0 l x.to) (leH x [])
    fun e a h => (e = .normal ∨ e = .ret) ∧ ansOk (fun r _ => clean r = some (.tuple [knL (bldK l x 8), .v (.bool true)])) (resOf Try.prog ro [.tmp 10, .tmp 11] a h) := by
  rw [le_fl]
  refine Trl.nilTip 14 4 rfl rfl ?_
  let I : Nat → List AV → AH → Prop := fun m act H => ∃ i v : Nat, i ≤ 8 ∧ m = 8 - i ∧ act = leA l x.to i (accK (bldK l x i) v) ∧ H = leH x [v]
  refine Tr.keepL [0, 1, 12, 14, 15] rfl (Tr.block (Tr.loop I ?_ (m := 8) ⟨0, 0, Nat.zero_le _, rfl, rfl, rfl⟩))
  rintro m act H ⟨i, v, hi, rfl, rfl, rfl⟩
  have hle := bld_len l x i
  have body := fun R => le_in ro dsX l (bldK l x i) v x x.to i R
  rw [inc64 i (by omega)] at body
  simp only [knl, d_fk] at body
  have c0 := cdb_iff.2 ⟨trivial, d_kok hl⟩
  have c2 : ∀ y : Kno, decide (((((bldK l x i).length + List.length [knA y]) * 32 ≤ 140737488355328) ∧ ((bldK l x i).length + List.length [knA y] ≤ 9223372036854775807)) ∧ True) = true := fun y => decide_eq_true ⟨⟨by simp only [List.length_cons, List.length_nil]; omega, by simp only [List.length_cons, List.length_nil]; omega⟩, trivial⟩
  have next : ∀ y, bldF l x i = some y → leA l x.to ((i + 1 : Nat) : Int) (.lst 4 ((bldK l x i).map knA ++ [knA y]) (.tp 0 (v + 1))) = leA l x.to ((i + 1 : Nat) : Int) (accK (bldK l x (i + 1)) (v + 1)) := fun y hy => by
    rw [bld_some hy, app_acc]
  refine Tr.of_code knownD (body _) (holds_bif (fun h1 => ?_) fun h1 => ⟨trivial, ?_⟩)
  · have h1 : i < 8 := by have := of_decide_eq_true h1; omega
    refine holds_bif (fun h2 => ?_) fun h2 => ?_
    · have e : bldF l x i = some x := if_pos (eq_of_beq h2)
      exact ⟨cdb_iff.2 ⟨c0, c2 x⟩, 8 - (i + 1), by omega, i + 1, v + 1, h1, rfl, next x e, rfl⟩
    · have hne : ¬ (i : Int) = x.to := by simpa using h2
      have e : bldF l x i = l.find? (fun y => y.to == (i : Int)) := if_neg hne
      rcases fk_cases2 l (i : Int) with ⟨e1, e2⟩ | ⟨j, hj, e1, e2, e3⟩
      · rw [e1]
        refine holds_bif (fun h => absurd (of_decide_eq_true h) (by decide)) fun _ => ⟨c0, 8 - (i + 1), by omega, i + 1, v, h1, rfl, ?_, rfl⟩
        rw [bld_none (e.trans e2)]; rfl
      · rw [e1, kn_get hj]
        have g1 := kn_el hj
        exact holds_bif (fun _ => ⟨cdb_iff.2 ⟨cds_of c0 g1, c2 l[j]⟩, 8 - (i + 1), by omega, i + 1, v + 1, h1, rfl, next l[j] (e.trans e2), rfl⟩) fun h => absurd (of_decide_eq_false h) (by omega)
  · have h1 : i = 8 := by have := of_decide_eq_false h1; omega
    subst h1
    show Trl _ _ ((flatten (bodyOf 17)).drop 12) _ _ _
    exact Trl.of_code (known_none _) (ne_nil (by kernel_rfl)) (le_9 ro l _ v x x.to _ _) ⟨trivial, .inr rfl, trivial, rfl⟩
set_option maxHeartbeats 4000000 in
set_option maxRecDepth 100000 in
theorem fs_klearn {ro : Nat → Option (List Value)} (l : List Kno) (hl : l.length ≤ 1000) (to th ep now : Int) : Fs Try.prog ro 17 [knL l, gi to, gi th, gi ep, gi now] (hp [] []) fun r _ => clean r = some (.tuple [knL (lrnK l to th ep now).1, .v (.bool (lrnK l to th ep now).2)]) := by
  refine Fs.of_body (has_fn (by kernel_rfl)) ?_
  rw [le_sl, le_re]
  have tree := fun R => le_pre ro dsX l to th ep now R
  simp only [d_fk] at tree
  have c0 := cdb_iff.2 ⟨trivial, d_kok hl⟩
  refine Tr.of_flat (Trl.split 11 (Trl.of_code knownD (ne_nil (by kernel_rfl)) (tree _) ?_))
  refine holds_bif (fun h1 => ⟨trivial, .inr rfl, trivial, ?_⟩) fun h1 => holds_bif (fun h2 => ⟨trivial, .inr rfl, trivial, ?_⟩) fun h2 => ?_
  · unfold lrnK; rw [if_pos (.inl (of_decide_eq_true h1))]; rfl
  · unfold lrnK; rw [if_pos (.inr (of_decide_eq_true h2))]; rfl
  have hto : ¬ (to < 0 ∨ 7 < to) := by
    have := of_decide_eq_false h1; have := of_decide_eq_false h2; omega
  rcases fk_cases2 l to with ⟨e1, e2⟩ | ⟨j, hj, e1, e2, e3⟩
  · rw [e1]
    have e0 : lrnK l to th ep now = (bldK l ⟨to, th, ep, Bd.kp now Bd.tMost⟩ 8, true) := by unfold lrnK; rw [if_neg hto, e2]
    rw [e0]
    refine holds_bif (fun h => absurd (of_decide_eq_true h) (by decide)) fun _ => holds_bif (fun h => absurd (of_decide_eq_true h) (by decide)) fun _ => ⟨c0, ?_⟩
    exact le_loop l hl ⟨to, th, ep, Bd.kp now Bd.tMost⟩
  · rw [e1, kn_get hj]
    have e0 : lrnK l to th ep now = if ep < l[j].ep then (l, false) else (bldK l ⟨to, if l[j].ep = ep then l[j].th else th, ep, Bd.kp now Bd.tMost⟩ 8, true) := by unfold lrnK; rw [if_neg hto, e2]
    have g1 := kn_el hj
    refine holds_bif (fun _ => holds_bif (fun h3 => ⟨cds_of c0 g1, .inr rfl, trivial, ?_⟩) fun h3 => holds_bif (fun _ => holds_bif (fun h4 => ⟨cds_of (cds_of (cds_of c0 g1) g1) g1, ?_⟩) fun h4 => ⟨cds_of (cds_of c0 g1) g1, ?_⟩) fun h => absurd (of_decide_eq_false h) (by omega)) fun h => absurd (of_decide_eq_false h) (by omega)
    · have h3 : ep < l[j].ep := of_decide_eq_true h3
      rw [e0, if_pos h3]; rfl
    · have h3 : ¬ ep < l[j].ep := of_decide_eq_false h3
      have h4 : l[j].ep = ep := eq_of_beq h4
      rw [e0, if_neg h3, if_pos h4]
      exact le_loop l hl ⟨to, l[j].th, ep, Bd.kp now Bd.tMost⟩
    · have h3 : ¬ ep < l[j].ep := of_decide_eq_false h3
      have h4 : (l[j].ep == ep) = false := h4
      have h4 : ¬ l[j].ep = ep := by rw [beq_eq_false_iff_ne] at h4; exact h4
      rw [e0, if_neg h3, if_neg h4]
      exact le_loop l hl ⟨to, th, ep, Bd.kp now Bd.tMost⟩
end Go.Proofs.Ytahahflpackiiaa.AE
namespace Go.Proofs.Ytahahflpackiiaa.AE
open Go.RowKit Tb
def tcV (made : Bool) (ttl : Int) (ns : Nat → Nt) : List Value := .bool made :: .int .i64 ttl :: (List.range 8).flatMap fun i => (List.range 5).map fun j => nv i (ns i) j
def tcA (ttl : Int) (ns : Nat → Nt) : List AV := (tcV true ttl ns).map .v
theorem tc_len (made : Bool) (ttl : Int) (ns : Nat → Nt) : (tcV made ttl ns).length = 42 := rfl
theorem tc_get (made : Bool) (ttl : Int) (ns : Nat → Nt) (i j : Nat) (hi : i < 8) (hj : j < 5) : (tcV made ttl ns)[2 + i * 5 + j]? = some (nv i (ns i) j) := by
  obtain rfl | rfl | rfl | rfl | rfl | rfl | rfl | rfl : i = 0 ∨ i = 1 ∨ i = 2 ∨ i = 3 ∨ i = 4 ∨ i = 5 ∨ i = 6 ∨ i = 7 := by omega
  all_goals
    obtain rfl | rfl | rfl | rfl | rfl : j = 0 ∨ j = 1 ∨ j = 2 ∨ j = 3 ∨ j = 4 := by omega
    all_goals rfl
theorem nv_one (i : Nat) (n : Nt) (j : Nat) : (nv i n j).oneCell' = true := by unfold nv; split <;> rfl
theorem tc_one (made : Bool) (ttl : Int) (ns : Nat → Nt) : (tcV made ttl ns).all (·.oneCell') = true := by
  rw [List.all_eq_true]
  intro x hx
  unfold tcV at hx
  rw [List.mem_cons, List.mem_cons, List.mem_flatMap] at hx
  rcases hx with rfl | rfl | ⟨i, _, hx⟩
  · rfl
  · rfl
  · obtain ⟨j, _, rfl⟩ := List.mem_map.1 hx
    exact nv_one _ _ _
theorem tbl_of {W : World} {b : Nat} {made : Bool} {ttl : Int} {ns : Nat → Nt} (h : W.heap[b]? = some (.cells (tcV made ttl ns).toArray 73 (0, 0))) : Tbl W b made ttl ns :=
  ⟨_, h, rfl, rfl, rfl, fun i j hi hj => by rw [List.getElem?_toArray]; exact tc_get _ _ _ i j hi hj⟩
theorem tbl_heap {W : World} {b : Nat} {made : Bool} {ttl : Int} {ns : Nat → Nt} (h : Tbl W b made ttl ns) : W.heap[b]? = some (.cells (tcV made ttl ns).toArray 73 (0, 0)) := by
  obtain ⟨cs, hb, hs, h0, h1, h2⟩ := h
  have e : cs = (tcV made ttl ns).toArray := by
    refine Array.ext_getElem? fun n => ?_
    have e2 : (tcV made ttl ns).toArray[n]? = (tcV made ttl ns)[n]? := by simp
    refine Eq.trans ?_ e2.symm
    by_cases hn : n < 42
    · by_cases h20 : n = 0
      · subst h20; exact h0
      · by_cases h21 : n = 1
        · subst h21; exact h1
        · have e3 : n = 2 + (n - 2) / 5 * 5 + (n - 2) % 5 := by omega
          have x1 := h2 ((n - 2) / 5) ((n - 2) % 5) (by omega) (by omega)
          have x2 := tc_get made ttl ns ((n - 2) / 5) ((n - 2) % 5) (by omega) (by omega)
          rw [← e3] at x1 x2
          exact x1.trans x2.symm
    · rw [Array.getElem?_eq_none (by omega), List.getElem?_eq_none (by rw [tc_len]; omega)]
  rw [← e]; exact hb
def nsOf (M : List AV) (i : Nat) : Nt := if i < 8 then (bif exBool (M.getD (2 + i * 5 + 0) .dead) then some (exInt (M.getD (2 + i * 5 + 2) .dead), exInt (M.getD (2 + i * 5 + 3) .dead), exInt (M.getD (2 + i * 5 + 4) .dead)) else none) else none
def ttlOf (M : List AV) : Int := exInt (M.getD 1 .dead)
theorem tca_get (ttl : Int) (ns : Nat → Nt) (i j : Nat) (hi : i < 8) (hj : j < 5) : (tcA ttl ns).getD (2 + i * 5 + j) .dead = .v (nv i (ns i) j) := by
  unfold tcA
  rw [List.getD_eq_getElem?_getD, List.getElem?_map, tc_get _ _ _ i j hi hj]; rfl
theorem nsOf_tc (ttl : Int) (ns : Nat → Nt) (i : Nat) (hi : i < 8) : nsOf (tcA ttl ns) i = ns i := by
  unfold nsOf
  rw [if_pos hi, tca_get _ _ i 0 hi (by decide), tca_get _ _ i 2 hi (by decide), tca_get _ _ i 3 hi (by decide), tca_get _ _ i 4 hi (by decide)]
  cases ns i with
  | none => rfl
  | some x => obtain ⟨t, e, a⟩ := x; rfl
theorem ttlOf_tc (ttl : Int) (ns : Nat → Nt) : ttlOf (tcA ttl ns) = ttl := rfl
theorem tc_congr {ttl : Int} {ns ns' : Nat → Nt} (h : ∀ i, i < 8 → ns i = ns' i) : tcA ttl ns = tcA ttl ns' := by
  unfold tcA tcV
  have : ((List.range 8).flatMap fun i => (List.range 5).map fun j => nv i (ns i) j) = (List.range 8).flatMap fun i => (List.range 5).map fun j => nv i (ns' i) j := by
    rw [List.flatMap_def, List.flatMap_def]
    refine congrArg List.flatten (List.map_congr_left fun i hi => ?_)
    rw [h i (List.mem_range.1 hi)]
  rw [this]
open Classical in
noncomputable def okX (t : TypeId) (M : List AV) : Bool := decide (t = 73 ∧ M = tcA (ttlOf M) (nsOf M))
open Classical in
theorem ok_tc (ttl : Int) (ns : Nat → Nt) : okX 73 (tcA ttl ns) = true := by
  unfold okX
  refine decide_eq_true ⟨rfl, ?_⟩
  rw [ttlOf_tc]
  exact tc_congr fun i hi => (nsOf_tc ttl ns i hi).symm
open Classical in
theorem ok_out {t : TypeId} {M : List AV} (h : okX t M = true) : t = 73 ∧ M = tcA (ttlOf M) (nsOf M) := of_decide_eq_true h
def lrbK (l : List Kno) (to ep : Int) : Bool := if to < 0 ∨ 7 < to then false else match l.find? (fun y => y.to == to) with
  | none => true
  | some y => !decide (ep < y.ep)
theorem lrb_eq (l : List Kno) (to th ep now : Int) : (lrnK l to th ep now).2 = lrbK l to ep := by
  unfold lrnK lrbK
  by_cases h : to < 0 ∨ 7 < to
  · rw [if_pos h, if_pos h]
  · rw [if_neg h, if_neg h]
    cases l.find? (fun y => y.to == to) with
    | none => rfl
    | some y =>
      by_cases h2 : ep < y.ep
      · show (if ep < y.ep then _ else _ : List Kno × Bool).2 = !decide (ep < y.ep)
        rw [if_pos h2, decide_eq_true h2]; rfl
      · show (if ep < y.ep then _ else _ : List Kno × Bool).2 = !decide (ep < y.ep)
        rw [if_neg h2, decide_eq_false h2]; rfl
noncomputable def fsX : FS where
  ok := okX
  cut M to l now := cutB (gq (nsOf M) (ttlOf M) to now) l
  lrn M to th ep now := tcA (ttlOf M) (lrnN (nsOf M) to th ep now)
  lrb M to ep := lrnB (nsOf M) to ep
  gv M to now := .agg (Go.Proofs.Ytahahflpackiiaa.gv (gq (nsOf M) (ttlOf M) to now))
  gb M to now := (gq (nsOf M) (ttlOf M) to now).isSome
  rok := dsX.kok
  rcut xs ttl to l now := cutK (knX xs) ttl to l now
  rlr xs to th ep now := (lrnK (knX xs) to th ep now).1.map knA
  rlb xs to ep := lrbK (knX xs) to ep
  cd now dl w m := Sp.callD now dl w m
  cw now dl w m := Sp.callW now dl w m
  co now dl w m := Sp.callOk now dl w m
section
variable {ro : Nat → Option (List Value)}
theorem tne : ¬ (73 : TypeId) = 999999 := by decide
theorem cuts_ok : ∀ args H r H', ownM? fsX.ok (cutF fsX) args H = some (r, H') → HSound1 Try.prog ro 14 args H r H' := by
  refine ownM_ok (has_fn (by kernel_rfl)) fun t M us c M' hok hf => ?_
  obtain ⟨rfl, hM⟩ := ok_out hok
  unfold cutF at hf
  split at hf
  · rename_i to l now
    simp only [Option.some.injEq, Prod.mk.injEq] at hf
    obtain ⟨rfl, rfl⟩ := hf
    refine ⟨tne, tcV true (ttlOf M) (nsOf M), tcV true (ttlOf M) (nsOf M), hM, hM, tc_one _ _ _, fun W b _ hb => ?_⟩
    refine (tcuts_any to l now W (asks_tbl (tbl_of hb))).mono ?_
    rintro e W' ⟨rfl, hB⟩
    exact ⟨rfl, only_below hB _, tbl_heap ((tbl_of hb).below hB)⟩
  · cases hf
theorem get_ok : ∀ args H r H', ownM? fsX.ok (getF fsX) args H = some (r, H') → HSound1 Try.prog ro 13 args H r H' := by
  refine ownM_ok (has_fn (by kernel_rfl)) fun t M us c M' hok hf => ?_
  obtain ⟨rfl, hM⟩ := ok_out hok
  unfold getF at hf
  split at hf
  · rename_i to now
    simp only [Option.some.injEq, Prod.mk.injEq] at hf
    obtain ⟨rfl, rfl⟩ := hf
    refine ⟨tne, tcV true (ttlOf M) (nsOf M), tcV true (ttlOf M) (nsOf M), hM, hM, tc_one _ _ _, fun W b _ hb => ?_⟩
    refine (asks_tbl (tbl_of hb) to now W (Below.refl _ _)).mono ?_
    rintro e W' ⟨rfl, hB⟩
    exact ⟨rfl, only_below hB _, tbl_heap ((tbl_of hb).below hB)⟩
  · cases hf
theorem learn_ok : ∀ args H r H', ownM? fsX.ok (lrnF fsX) args H = some (r, H') → HSound1 Try.prog ro 16 args H r H' := by
  refine ownM_ok (has_fn (by kernel_rfl)) fun t M us c M' hok hf => ?_
  obtain ⟨rfl, hM⟩ := ok_out hok
  unfold lrnF at hf
  split at hf
  · rename_i to th ep now
    simp only [Option.some.injEq, Prod.mk.injEq] at hf
    obtain ⟨rfl, rfl⟩ := hf
    refine ⟨tne, tcV true (ttlOf M) (nsOf M), tcV true (ttlOf M) (lrnN (nsOf M) to th ep now), hM, rfl, tc_one _ _ _, fun W b _ hb => ?_⟩
    refine (tlearn_any to th ep now W (tbl_of hb)).mono ?_
    rintro e W' ⟨rfl, hT, hg⟩
    exact ⟨rfl, hg, tbl_heap hT⟩
  · cases hf
theorem split_ok : ∀ args H r H', pure? (spP fsX) args H = some (r, H') → HSound1 Try.prog ro 19 args H r H' := by
  refine pure_of_calls (has_fn (by kernel_rfl)) fun us c h W _ => ?_
  unfold spP at h
  split at h
  · simp only [Option.some.injEq, Prod.mk.injEq, and_true] at h
    subst h
    exact call_any _ _ _ _ W
  · cases h
theorem rsplit_ok : ∀ args H r H', pure? (spP fsX) args H = some (r, H') → HSound1 Try.prog ro 23 args H r H' := by
  refine pure_of_calls (has_fn (by kernel_rfl)) fun us c h W _ => ?_
  unfold spP at h
  split at h
  · simp only [Option.some.injEq, Prod.mk.injEq, and_true] at h
    subst h
    refine (rcall_any _ _ _ _ W).mono ?_
    rintro e W' ⟨rfl, rfl⟩
    exact ⟨rfl, Below.refl _ _⟩
  · cases h
theorem rcut_ok : ∀ args H r H', data? (rcP fsX) args H = some (r, H') → HSound1 Try.prog ro 24 args H r H' := by
  refine data_ok (has_fn (by kernel_rfl)) fun args r h => Fs.nrm ?_
  unfold rcP at h
  split at h
  · rename_i xs t ttl to l now
    simp only [Option.some.injEq, Prod.mk.injEq] at h
    obtain ⟨rfl, hq⟩ := h
    obtain ⟨k, rfl, hl⟩ := d_out hq
    refine (fs_cuts k hl ttl to l now).mono ?_
    rintro r' H' rfl
    show _ = some (AV.v (.bool (cutK (knX (k.map knA)) ttl to l now)))
    rw [knX_map]; rfl
  · cases h
theorem rlearn_ok : ∀ args H r H', data? (rlP fsX) args H = some (r, H') → HSound1 Try.prog ro 17 args H r H' := by
  refine data_ok (has_fn (by kernel_rfl)) fun args r h => Fs.nrm ?_
  unfold rlP at h
  split at h
  · rename_i xs t to th ep now
    simp only [Option.some.injEq, Prod.mk.injEq] at h
    obtain ⟨rfl, hq⟩ := h
    obtain ⟨k, rfl, hl⟩ := d_out hq
    refine (fs_klearn k hl to th ep now).mono ?_
    rintro r' H' hr
    rw [hr, lrb_eq]
    show _ = some (AV.tuple [.lst 4 ((lrnK (knX (k.map knA)) to th ep now).1.map knA) .no, .v (.bool (lrbK (knX (k.map knA)) to ep))])
    rw [knX_map]; rfl
  · cases h
theorem knownFS : Known ro (prA fsX) := by
  intro g p h
  unfold prA at h
  split at h
  · cases h; exact cuts_ok
  · cases h; exact get_ok
  · cases h; exact learn_ok
  · cases h; exact split_ok
  · cases h; exact rsplit_ok
  · cases h; exact rcut_ok
  · cases h; exact rlearn_ok
  · cases h
end
end Go.Proofs.Ytahahflpackiiaa.AE
