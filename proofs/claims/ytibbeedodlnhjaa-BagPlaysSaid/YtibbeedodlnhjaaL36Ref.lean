/-
  The contracts of the plain answers of layer 36.
-/
import Derived.Test.YtibbeedodlnhjaaL36Law
namespace Go.Proofs.Ytibbeedodlnhjaa
open Go.RowKit
/-- A slice of texts in memory: its cells, its room. -/
structure Tx (w : World) (a : Option Addr) (cap : Nat) (l : List ByteArray) : Prop where
  r : RowAt w a (strs l)
  c : l.length ≤ cap
  m : cap ≤ maxLen
theorem Tx.below {w w' : World} {a : Option Addr} {cap : Nat} {l : List ByteArray} (h : Tx w a cap l) (k : Below w.heap.size w w') : Tx w' a cap l := ⟨RowAt.below h.r k, h.c, h.m⟩
theorem Tx.nil (w : World) : Tx w none 0 [] := ⟨RowAt.nil_ _ _, Nat.le_refl _, Nat.zero_le _⟩
theorem Row.tx {w : World} {B : Nat} {v : Value} {l : List ByteArray} (h : Row w B 1 v l.length (strs l)) : ∃ a cap, v = .slice a l.length cap ∧ Tx w a cap l ∧ ∀ x, a = some x → B ≤ x.block ∧ x.block < w.heap.size := by
  obtain ⟨a, cap, rfl, hr, hc, hm, hb⟩ := h.row
  exact ⟨a, cap, rfl, ⟨hr, hc, hm⟩, hb⟩
theorem Tx.src {w : World} {a : Option Addr} {cap : Nat} {l : List ByteArray} (h : Tx w a cap l) (c : Nat) (hn : a = none → l.length = 0) : Src Try.prog 1 29 (.slice a l.length c) l.length (strs l) w :=
  src_at Try.underlying29 h.r (by simp [strs]) (fun e => ⟨hn e, rfl⟩) (strs_one _)
theorem Tx.none_len {w : World} {cap : Nat} {l : List ByteArray} (h : Tx w none cap l) : l.length = 0 := by
  rcases l with _ | ⟨x, l⟩
  · rfl
  · obtain ⟨b, off, e, _⟩ := h.r (by simp [strs])
    cases e
theorem Tx.src' {w : World} {a : Option Addr} {cap : Nat} {l : List ByteArray} (h : Tx w a cap l) (c : Nat) : Src Try.prog 1 29 (.slice a l.length c) l.length (strs l) w :=
  h.src c (fun e => by subst e; exact h.none_len)
def RetPl (w : World) (l : List ByteArray) (b : Bool) (e : Ending) (w' : World) : Prop :=
  ∃ a cap, e = .returned (.tuple #[.slice a l.length cap, .bool b]) ∧ Tx w' a cap l ∧ Below w.heap.size w w' ∧ ∀ x, a = some x → w.heap.size ≤ x.block ∧ x.block < w'.heap.size
theorem rput_full (a : Option Addr) (n cap : Nat) (most : Int) (s : ByteArray) (hf : most ≤ n) (w : World) :
    Calls Try.prog 9 #[.slice a n cap, .int .i64 most, .string s] w fun e w' => e = .returned (.tuple #[.slice a n cap, .bool false]) ∧ w = w' := by
  have hd := dle_t hf
  clear hf
  go_enter Try.func9, Try.ntmps9
  go_wp2_with fail
  go_ret2
  exact ⟨rfl, rfl⟩
set_option maxHeartbeats 1000000 in
theorem rput_room (a : Option Addr) (n cap : Nat) (l : List ByteArray) (most : Int) (s : ByteArray) (hn : l.length = n) (hf : n < most) (hl : n ≤ 1000) (w : World) (h : Tx w a cap l) :
    Calls Try.prog 9 #[.slice a n cap, .int .i64 most, .string s] w (RetPl w (l ++ [s]) true) := by
  subst hn
  obtain ⟨i0, hi, hz0, hz1, hz2⟩ := info_parts info_str
  have hI := Lib.hid (And.intro hi (And.intro hz0 (And.intro hz1 hz2)))
  have HT := Lib.hid h
  have hd := dle_f hf
  clear hi hz0 hz1 hz2 hf h
  go_enter Try.func9, Try.ntmps9
  go_wp2_with (at_builtin; refine wpList_append_row rfl _ _ 29 29 rfl (Row.nil w w.heap.size 1) rfl (xv := (.slice a l.length cap)) (m := l.length) (news := (strs l)) rfl (HT.out.src' cap) Try.underlying29 hI.out.1 hI.out.2.1 hI.out.2.2.1 hI.out.2.2.2 rfl ?_ ?_ ?_ ?_)
  · unfold maxLen; omega
  · omega
  · exact Nat.le_refl _
  intro v1 w1 r1 g1 _
  have r1 : Row w1 w.heap.size 1 v1 l.length (strs l) := by simpa using r1
  have R1 := Lib.hid r1
  have B1 := Lib.hid (row_below (Below.refl w.heap.size w) (Row.nil w w.heap.size 1) g1 (Nat.le_refl _) (Nat.le_refl _))
  clear r1 g1
  have R2 := Lib.hid (R1.out.alloc (.cells #[.string s] 9))
  go_wp2_with (at_builtin; refine wpList_append_row rfl _ _ 29 29 rfl R2.out rfl (xv := (.slice (some ⟨w1.heap.size, 0, none⟩) 1 1)) (m := 1) (news := (strs [s])) rfl (src_at Try.underlying29 (lit_row w1 _ #[.string s]) rfl (fun h => by cases h) (strs_one _)) Try.underlying29 hI.out.1 hI.out.2.1 hI.out.2.2.1 hI.out.2.2.2 rfl ?_ ?_ ?_ ?_)
  · unfold maxLen; omega
  · omega
  · have := B1.out.size; simp; omega
  intro v2 w2 r2 g2 _
  have B2 := Lib.hid (row_below (B1.out.alloc B1.out.size (.cells #[.string s] 9)) R2.out g2 (Nat.le_refl _) (by have := B1.out.size; simp; omega))
  obtain ⟨a2, cap2, rfl, ht, hb⟩ := Row.tx (l := l ++ [s]) (by rw [List.length_append, strs_app]; exact r2)
  have HT2 := Lib.hid ht
  have HB2 := Lib.hid hb
  clear r2 g2 ht hb
  go_wp2_with fail
  go_ret2
  exact ⟨a2, cap2, rfl, HT2.out, B2.out, HB2.out⟩
theorem rtake_far (a : Option Addr) (n cap : Nat) (place : Int) (hp : place < 0 ∨ (n : Int) ≤ place) (w : World) :
    Calls Try.prog 12 #[.slice a n cap, .int .i64 place] w fun e w' => e = .returned (.tuple #[.slice a n cap, .string ⟨#[]⟩, .bool false]) ∧ w = w' := by
  have hd : decide (place < 0) = true ∨ (decide (place < 0) = false ∧ decide ((n : Int) ≤ place) = true) := by
    rcases (by omega : place < 0 ∨ (0 ≤ place ∧ (n : Int) ≤ place)) with h | ⟨h, h'⟩
    · exact Or.inl (dlt_t h)
    · exact Or.inr ⟨dlt_f h, dle_t h'⟩
  clear hp
  rcases hd with h1 | ⟨h1, h2⟩
  all_goals
    go_enter Try.func12, Try.ntmps12
    go_wp2_with fail
    go_ret3
    exact ⟨rfl, rfl⟩
def RetTk (w : World) (l : List ByteArray) (s : ByteArray) (e : Ending) (w' : World) : Prop :=
  ∃ a cap, e = .returned (.tuple #[.slice a l.length cap, .string s, .bool true]) ∧ Tx w' a cap l ∧ Below w.heap.size w w' ∧ ∀ x, a = some x → w.heap.size ≤ x.block ∧ x.block < w'.heap.size
theorem Tx.part {w : World} {b off : Nat} {cap : Nat} {l : List ByteArray} (h : Tx w (some ⟨b, off, none⟩) cap l) (k c : Nat) (hk : k ≤ l.length) : Src Try.prog 1 29 (.slice (some ⟨b, off, none⟩) k c) k (strs (l.take k)) w :=
  src_at Try.underlying29 (fun hne => ⟨b, off, rfl, fun j u hu => by
    rw [← strs_take, List.getElem?_take] at hu
    split at hu
    · obtain ⟨b', off', e, hc⟩ := RowAt.get h.r hu
      simp only [Option.some.injEq, Addr.mk.injEq, and_true] at e
      obtain ⟨rfl, rfl⟩ := e
      exact hc
    · cases hu⟩) (by simp [strs]; omega) (fun e => by cases e) (strs_one _)
theorem Tx.rest {w : World} {b off : Nat} {cap : Nat} {l : List ByteArray} (h : Tx w (some ⟨b, off, none⟩) cap l) (k c o : Nat) (ho : o = off + k ∨ l.length ≤ k) : Src Try.prog 1 29 (.slice (some ⟨b, o, none⟩) (l.length - k) c) (l.length - k) (strs (l.drop k)) w :=
  src_at Try.underlying29 (fun hne => ⟨b, o, rfl, fun j u hu => by
    have hj := (List.getElem?_eq_some_iff.1 hu).1
    simp [strs] at hj
    rw [← strs_drop, List.getElem?_drop] at hu
    obtain ⟨b', off', e, hc⟩ := RowAt.get h.r hu
    simp only [Option.some.injEq, Addr.mk.injEq, and_true] at e
    obtain ⟨rfl, rfl⟩ := e
    rcases ho with rfl | ho
    · rw [← hc, Nat.add_assoc]
    · omega⟩) (by simp [strs]) (fun e => by cases e) (strs_one _)
set_option maxHeartbeats 2000000 in
theorem rtake_in (a : Option Addr) (n cap : Nat) (l : List ByteArray) (k : Nat) (hn : l.length = n) (hk : k < n) (hl : n ≤ 1000) (w : World) (h : Tx w a cap l) :
    Calls Try.prog 12 #[.slice a n cap, .int .i64 k] w (RetTk w (l.eraseIdx k) (l[k]'(by omega))) := by
  subst hn
  obtain ⟨i0, hi, hz0, hz1, hz2⟩ := info_parts info_str
  have hI := Lib.hid (And.intro hi (And.intro hz0 (And.intro hz1 hz2)))
  obtain ⟨b, off, rfl, c0⟩ := RowAt.get h.r (k := k) (v := .string l[k]) (by simp [strs, List.getElem?_eq_getElem hk])
  have HT := Lib.hid h
  have h1 := dlt_f (a := (k : Int)) (b := 0) (by omega)
  have h2 := dle_f (a := (l.length : Int)) (b := k) (by omega)
  have hc := h.c
  have hm := h.m
  unfold maxLen at hm
  clear hi hz0 hz1 hz2 h
  go_enter Try.func12, Try.ntmps12
  go_wp2_with (at_builtin; refine wpList_append_row rfl _ _ 29 29 rfl (Row.nil w w.heap.size 1) rfl (xv := (.slice (some ⟨b, off, none⟩) k cap)) (m := k) (news := strs (l.take k)) ?_ (HT.out.part k cap (by omega)) Try.underlying29 hI.out.1 hI.out.2.1 hI.out.2.2.1 hI.out.2.2.2 rfl ?_ ?_ ?_ ?_)
  · rfl
  · unfold maxLen; omega
  · omega
  · exact Nat.le_refl _
  intro v1 w1 r1 g1 _
  have r1 : Row w1 w.heap.size 1 v1 k (strs (l.take k)) := by simpa using r1
  by_cases hkc : k + 1 = cap
  · obtain rfl : cap = k + 1 := by omega
    have R1 := Lib.hid r1
    have B1 := Lib.hid (row_below (Below.refl w.heap.size w) (Row.nil w w.heap.size 1) g1 (Nat.le_refl _) (Nat.le_refl _))
    clear r1 g1
    obtain ⟨a1, cap1, rfl, _⟩ := R1.out.row
    obtain ⟨v2, w2, hrun, r2, g2, k2⟩ := run_append_row 29 (R1.out.below (Below.refl _ _).drew) (show Src Try.prog 1 29 (.slice (some ⟨b, off, none⟩) (l.length - (k + 1)) 0) (l.length - (k + 1)) (strs (l.drop (k + 1))) w1.drew from (Tx.rest ⟨RowAt.below' HT.out.r (B1.out.drew) (Nat.le_refl _), HT.out.c, HT.out.m⟩ (k + 1) 0 off (Or.inr (by omega)))) Try.underlying29 hI.out.1 hI.out.2.1 hI.out.2.2.1 hI.out.2.2.2 rfl (by unfold maxLen; omega) (by omega) (show w.heap.size ≤ w1.drew.heap.size from B1.out.size)
    have E2 : strs (l.take k) ++ strs (l.drop (k + 1)) = strs (l.eraseIdx k) := by rw [← strs_app, ← eraseIdx_eq]
    have el : (l.eraseIdx k).length = k + (l.length - (k + 1)) := by rw [eraseIdx_eq]; simp; omega
    have B2 := Lib.hid (row_below B1.out.drew (R1.out.below (Below.refl _ _).drew) g2 (Nat.le_refl _) B1.out.size)
    rw [E2, ← el] at r2
    obtain ⟨a2, cap2, rfl, ht, hb⟩ := Row.tx r2
    have HT2 := Lib.hid ht
    have HB2 := Lib.hid hb
    have EL := Lib.hid el
    try rw [show l.length - (k + 1) = 0 by omega] at hrun
    have HRUN := Lib.hid hrun
    clear r2 g2 k2 ht hb E2 el hrun
    have CK := Lib.hid (fun (W : World) (h : Below w.heap.size w W) => (h.cell (p := ⟨b, off + k, none⟩) (cell_lt c0)).trans c0)
    go_wp2_with fail
    have hw1 : IntKind.i64.wrap ((k : Int) + 1) = (k : Int) + 1 := IntWalk.i64_in _ (by omega)
    have hw2 : (0 : Int) ≤ (k : Int) + 1 := by omega
    have hw3 : (k : Int) + 1 ≤ (l.length : Int) := by omega
    have hw4 : ((k : Int) + 1).toNat = k + 1 := by omega
    refine wp_region_held_drew (S := (fun W => W.cell? ⟨b, off + k, none⟩ = some (.string l[k]) ∧ Below w.heap.size w W)) (by kernel_rfl) ?_ (fun hHeld => ?_)
    · (try dsimp only); first | exact ⟨CK.out _ B1.out.drew, B1.out.drew⟩ | exact ⟨CK.out _ B2.out, B2.out⟩
    refine wpAnyH_take (i := 0) (oi := { dst := some 22, op := Op.move (Operand.tmp 7), type := 29, pos := "ref.go:15", after := #[], guard := none }) (v := ?_) rfl (by kernel_rfl) (by kernel_rfl) (by kernel_rfl) (fun _ _ _ h => h) (Or.inl ⟨by rfl, ?_⟩) (by assumption) ?_
    rotate_left
    · intro w0 hSw; (try dsimp only at hSw); go_simp; (try with_reducible rfl)
    try simp only [Act.put, List.setIfInBounds_toArray, List.set_cons_zero, List.set_cons_succ]
    refine wpAnyH_take (i := 1) (oi := { dst := some 23, op := Op.move (Operand.tmp 0), type := 29, pos := "ref.go:15", after := #[], guard := none }) (v := ?_) rfl (by kernel_rfl) (by kernel_rfl) (by kernel_rfl) (fun _ _ _ h => h) (Or.inl ⟨by rfl, ?_⟩) (by assumption) ?_
    rotate_left
    · intro w0 hSw; (try dsimp only at hSw); go_simp; (try with_reducible rfl)
    try simp only [Act.put, List.setIfInBounds_toArray, List.set_cons_zero, List.set_cons_succ]
    refine wpAnyH_take (i := 2) (oi := { dst := some 24, op := Op.move (Operand.tmp 1), type := 3, pos := "ref.go:15", after := #[], guard := none }) (v := ?_) rfl (by kernel_rfl) (by kernel_rfl) (by kernel_rfl) (fun _ _ _ h => h) (Or.inl ⟨by rfl, ?_⟩) (by assumption) ?_
    rotate_left
    · intro w0 hSw; (try dsimp only at hSw); go_simp; (try with_reducible rfl)
    try simp only [Act.put, List.setIfInBounds_toArray, List.set_cons_zero, List.set_cons_succ]
    refine wpAnyH_take (i := 3) (oi := { dst := some 25, op := Op.binOp BinOp.add 3 (Operand.tmp 24) (Operand.const (Value.int IntKind.i64 1)) 3, type := 3, pos := "ref.go:15", after := #[{ on := 2, ground := Ground.data }], guard := none }) (v := ?_) rfl (by kernel_rfl) (by kernel_rfl) (by kernel_rfl) (fun _ _ _ h => h) (Or.inl ⟨by rfl, ?_⟩) (by assumption) ?_
    rotate_left
    · intro w0 hSw; (try dsimp only at hSw); go_simp; (try with_reducible rfl)
    try simp only [Act.put, List.setIfInBounds_toArray, List.set_cons_zero, List.set_cons_succ]
    refine wpAnyH_take (i := 4) (oi := { dst := some 26, op := Op.slice 29 (Operand.tmp 23) (some (Operand.tmp 25)) none none, type := 29, pos := "ref.go:15", after := #[{ on := 1, ground := Ground.data }, { on := 3, ground := Ground.data }], guard := none }) (v := ?_) rfl (by kernel_rfl) (by kernel_rfl) (by kernel_rfl) (fun _ _ _ h => h) (Or.inl ⟨by rfl, ?_⟩) (by assumption) ?_
    rotate_left
    · intro w0 hSw; (try dsimp only at hSw); go_simp; (try with_reducible rfl)
    try simp only [Act.put, List.setIfInBounds_toArray, List.set_cons_zero, List.set_cons_succ]
    refine wpAnyH_take (i := 6) (oi := { dst := some 28, op := Op.move (Operand.tmp 0), type := 29, pos := "ref.go:15", after := #[{ on := 10, ground := Ground.gcOnly Departure.lateStores }], guard := none }) (v := ?_) rfl (by kernel_rfl) (by kernel_rfl) (by kernel_rfl) (fun _ _ _ h => h) (Or.inl ⟨by rfl, ?_⟩) (by assumption) ?_
    rotate_left
    · intro w0 hSw; (try dsimp only at hSw); go_simp; (try with_reducible rfl)
    try simp only [Act.put, List.setIfInBounds_toArray, List.set_cons_zero, List.set_cons_succ]
    refine wpAnyH_take (i := 7) (oi := { dst := some 29, op := Op.move (Operand.tmp 1), type := 3, pos := "ref.go:15", after := #[{ on := 10, ground := Ground.gcOnly Departure.lateStores }], guard := none }) (v := ?_) rfl (by kernel_rfl) (by kernel_rfl) (by kernel_rfl) (fun _ _ _ h => h) (Or.inl ⟨by rfl, ?_⟩) (by assumption) ?_
    rotate_left
    · intro w0 hSw; (try dsimp only at hSw); go_simp; (try with_reducible rfl)
    try simp only [Act.put, List.setIfInBounds_toArray, List.set_cons_zero, List.set_cons_succ]
    refine wpAnyH_take (i := 8) (oi := { dst := some 30, op := Op.indexAddr 29 (Operand.tmp 28) (Operand.tmp 29), type := 0, pos := "ref.go:15", after := #[{ on := 6, ground := Ground.data }, { on := 7, ground := Ground.data }, { on := 10, ground := Ground.gcOnly Departure.lateStores }], guard := none }) (v := ?_) rfl (by kernel_rfl) (by kernel_rfl) (by kernel_rfl) (fun _ _ _ h => h) (Or.inl ⟨by rfl, ?_⟩) (by assumption) ?_
    rotate_left
    · intro w0 hSw; (try dsimp only at hSw); go_simp; (try with_reducible rfl)
    try simp only [Act.put, List.setIfInBounds_toArray, List.set_cons_zero, List.set_cons_succ]
    refine wpAnyH_take (i := 9) (oi := { dst := some 31, op := Op.load 9 (Operand.tmp 30), type := 9, pos := "ref.go:15", after := #[{ on := 8, ground := Ground.data }, { on := 10, ground := Ground.gcOnly Departure.lateStores }], guard := none }) (v := ?_) rfl (by kernel_rfl) (by kernel_rfl) (by kernel_rfl) (fun _ _ _ h => h) (Or.inl ⟨by rfl, ?_⟩) (by assumption) ?_
    rotate_left
    · intro w0 hSw; (try dsimp only at hSw); go_simp; (try with_reducible rfl)
    try simp only [Act.put, List.setIfInBounds_toArray, List.set_cons_zero, List.set_cons_succ]
    refine wpAnyH_ready (rs := [5]) (by kernel_rfl) (by simp) ?_
    refine AllReadyH.cons (o := { dst := some 27, op := Op.call { callee := Callee.builtin Builtin.append, args := #[Operand.tmp 22, Operand.tmp 26], argTypes := #[29, 29] }, type := 29, pos := "ref.go:15", after := #[{ on := 0, ground := Ground.data }, { on := 4, ground := Ground.data }], guard := none }) rfl (fun K hK => ?_) AllReadyH.nil
    refine wp_append_run rfl rfl (by first | rfl | simp) HRUN.out ?_
    refine hK.out _ _ ?_ (fun hHeld => ?_)
    · (try dsimp only); first | exact ⟨CK.out _ B1.out.drew, B1.out.drew⟩ | exact ⟨CK.out _ B2.out, B2.out⟩
    clear hK K
    try simp only [Act.put, List.setIfInBounds_toArray, List.set_cons_zero, List.set_cons_succ]
    refine wpAnyH_take (i := 10) (oi := { dst := some 4, op := Op.assign (Operand.tmp 27), type := 29, pos := "ref.go:15", after := #[{ on := 5, ground := Ground.data }, { on := 5, ground := Ground.chain }, { on := 0, ground := Ground.phase }, { on := 1, ground := Ground.phase }, { on := 2, ground := Ground.phase }, { on := 3, ground := Ground.phase }, { on := 4, ground := Ground.phase }, { on := 5, ground := Ground.phase }, { on := 6, ground := Ground.textOnly Departure.lateStores }, { on := 7, ground := Ground.textOnly Departure.lateStores }, { on := 8, ground := Ground.textOnly Departure.lateStores }, { on := 9, ground := Ground.textOnly Departure.lateStores }], guard := none }) (v := ?_) rfl (by kernel_rfl) (by kernel_rfl) (by kernel_rfl) (fun _ _ _ h => h) (Or.inl ⟨by rfl, ?_⟩) (by assumption) ?_
    rotate_left
    · intro w0 hSw; (try dsimp only at hSw); go_simp; (try with_reducible rfl)
    try simp only [Act.put, List.setIfInBounds_toArray, List.set_cons_zero, List.set_cons_succ]
    refine wpAnyH_take (i := 11) (oi := { dst := some 5, op := Op.assign (Operand.tmp 31), type := 9, pos := "ref.go:15", after := #[{ on := 9, ground := Ground.data }, { on := 10, ground := Ground.chain }, { on := 0, ground := Ground.phase }, { on := 1, ground := Ground.phase }, { on := 2, ground := Ground.phase }, { on := 3, ground := Ground.phase }, { on := 4, ground := Ground.phase }, { on := 5, ground := Ground.phase }, { on := 6, ground := Ground.phase }, { on := 7, ground := Ground.phase }, { on := 8, ground := Ground.phase }, { on := 9, ground := Ground.phase }, { on := 10, ground := Ground.phase }], guard := none }) (v := ?_) rfl (by kernel_rfl) (by kernel_rfl) (by kernel_rfl) (fun _ _ _ h => h) (Or.inl ⟨by rfl, ?_⟩) (by assumption) ?_
    rotate_left
    · intro w0 hSw; (try dsimp only at hSw); go_simp; (try with_reducible rfl)
    try simp only [Act.put, List.setIfInBounds_toArray, List.set_cons_zero, List.set_cons_succ]
    refine wpAnyH_take (i := 12) (oi := { dst := some 6, op := Op.assign (Operand.const (Value.bool true)), type := 4, pos := "ref.go:15", after := #[{ on := 11, ground := Ground.chain }, { on := 0, ground := Ground.phase }, { on := 1, ground := Ground.phase }, { on := 2, ground := Ground.phase }, { on := 3, ground := Ground.phase }, { on := 4, ground := Ground.phase }, { on := 5, ground := Ground.phase }, { on := 6, ground := Ground.phase }, { on := 7, ground := Ground.phase }, { on := 8, ground := Ground.phase }, { on := 9, ground := Ground.phase }, { on := 10, ground := Ground.phase }, { on := 11, ground := Ground.phase }], guard := none }) (v := ?_) rfl (by kernel_rfl) (by kernel_rfl) (by kernel_rfl) (fun _ _ _ h => h) (Or.inl ⟨by rfl, ?_⟩) (by assumption) ?_
    rotate_left
    · intro w0 hSw; (try dsimp only at hSw); go_simp; (try with_reducible rfl)
    try simp only [Act.put, List.setIfInBounds_toArray, List.set_cons_zero, List.set_cons_succ]
    refine wpAnyH_done (by kernel_rfl) ?_ _
    clear hw1 hw2 hw3 hw4
    go_wp2_with fail
    go_ret3
    exact ⟨a2, cap2, rfl, HT2.out, B2.out, HB2.out⟩
  · have hkc : ¬ cap = k + 1 := by omega
    have R1 := Lib.hid r1
    have B1 := Lib.hid (row_below (Below.refl w.heap.size w) (Row.nil w w.heap.size 1) g1 (Nat.le_refl _) (Nat.le_refl _))
    clear r1 g1
    obtain ⟨a1, cap1, rfl, _⟩ := R1.out.row
    obtain ⟨v2, w2, hrun, r2, g2, k2⟩ := run_append_row 29 (R1.out.below (Below.refl _ _).drew) (show Src Try.prog 1 29 (.slice (some ⟨b, (off + (k + 1)), none⟩) (l.length - (k + 1)) (cap - (k + 1))) (l.length - (k + 1)) (strs (l.drop (k + 1))) w1.drew from (Tx.rest ⟨RowAt.below' HT.out.r (B1.out.drew) (Nat.le_refl _), HT.out.c, HT.out.m⟩ (k + 1) (cap - (k + 1)) (off + (k + 1)) (Or.inl rfl))) Try.underlying29 hI.out.1 hI.out.2.1 hI.out.2.2.1 hI.out.2.2.2 rfl (by unfold maxLen; omega) (by omega) (show w.heap.size ≤ w1.drew.heap.size from B1.out.size)
    have E2 : strs (l.take k) ++ strs (l.drop (k + 1)) = strs (l.eraseIdx k) := by rw [← strs_app, ← eraseIdx_eq]
    have el : (l.eraseIdx k).length = k + (l.length - (k + 1)) := by rw [eraseIdx_eq]; simp; omega
    have B2 := Lib.hid (row_below B1.out.drew (R1.out.below (Below.refl _ _).drew) g2 (Nat.le_refl _) B1.out.size)
    rw [E2, ← el] at r2
    obtain ⟨a2, cap2, rfl, ht, hb⟩ := Row.tx r2
    have HT2 := Lib.hid ht
    have HB2 := Lib.hid hb
    have EL := Lib.hid el
    try rw [show l.length - (k + 1) = 0 by omega] at hrun
    have HRUN := Lib.hid hrun
    clear r2 g2 k2 ht hb E2 el hrun
    have CK := Lib.hid (fun (W : World) (h : Below w.heap.size w W) => (h.cell (p := ⟨b, off + k, none⟩) (cell_lt c0)).trans c0)
    go_wp2_with fail
    have hw1 : IntKind.i64.wrap ((k : Int) + 1) = (k : Int) + 1 := IntWalk.i64_in _ (by omega)
    have hw2 : (0 : Int) ≤ (k : Int) + 1 := by omega
    have hw3 : (k : Int) + 1 ≤ (l.length : Int) := by omega
    have hw4 : ((k : Int) + 1).toNat = k + 1 := by omega
    refine wp_region_held_drew (S := (fun W => W.cell? ⟨b, off + k, none⟩ = some (.string l[k]) ∧ Below w.heap.size w W)) (by kernel_rfl) ?_ (fun hHeld => ?_)
    · (try dsimp only); first | exact ⟨CK.out _ B1.out.drew, B1.out.drew⟩ | exact ⟨CK.out _ B2.out, B2.out⟩
    refine wpAnyH_take (i := 0) (oi := { dst := some 22, op := Op.move (Operand.tmp 7), type := 29, pos := "ref.go:15", after := #[], guard := none }) (v := ?_) rfl (by kernel_rfl) (by kernel_rfl) (by kernel_rfl) (fun _ _ _ h => h) (Or.inl ⟨by rfl, ?_⟩) (by assumption) ?_
    rotate_left
    · intro w0 hSw; (try dsimp only at hSw); go_simp; (try with_reducible rfl)
    try simp only [Act.put, List.setIfInBounds_toArray, List.set_cons_zero, List.set_cons_succ]
    refine wpAnyH_take (i := 1) (oi := { dst := some 23, op := Op.move (Operand.tmp 0), type := 29, pos := "ref.go:15", after := #[], guard := none }) (v := ?_) rfl (by kernel_rfl) (by kernel_rfl) (by kernel_rfl) (fun _ _ _ h => h) (Or.inl ⟨by rfl, ?_⟩) (by assumption) ?_
    rotate_left
    · intro w0 hSw; (try dsimp only at hSw); go_simp; (try with_reducible rfl)
    try simp only [Act.put, List.setIfInBounds_toArray, List.set_cons_zero, List.set_cons_succ]
    refine wpAnyH_take (i := 2) (oi := { dst := some 24, op := Op.move (Operand.tmp 1), type := 3, pos := "ref.go:15", after := #[], guard := none }) (v := ?_) rfl (by kernel_rfl) (by kernel_rfl) (by kernel_rfl) (fun _ _ _ h => h) (Or.inl ⟨by rfl, ?_⟩) (by assumption) ?_
    rotate_left
    · intro w0 hSw; (try dsimp only at hSw); go_simp; (try with_reducible rfl)
    try simp only [Act.put, List.setIfInBounds_toArray, List.set_cons_zero, List.set_cons_succ]
    refine wpAnyH_take (i := 3) (oi := { dst := some 25, op := Op.binOp BinOp.add 3 (Operand.tmp 24) (Operand.const (Value.int IntKind.i64 1)) 3, type := 3, pos := "ref.go:15", after := #[{ on := 2, ground := Ground.data }], guard := none }) (v := ?_) rfl (by kernel_rfl) (by kernel_rfl) (by kernel_rfl) (fun _ _ _ h => h) (Or.inl ⟨by rfl, ?_⟩) (by assumption) ?_
    rotate_left
    · intro w0 hSw; (try dsimp only at hSw); go_simp; (try with_reducible rfl)
    try simp only [Act.put, List.setIfInBounds_toArray, List.set_cons_zero, List.set_cons_succ]
    refine wpAnyH_take (i := 4) (oi := { dst := some 26, op := Op.slice 29 (Operand.tmp 23) (some (Operand.tmp 25)) none none, type := 29, pos := "ref.go:15", after := #[{ on := 1, ground := Ground.data }, { on := 3, ground := Ground.data }], guard := none }) (v := ?_) rfl (by kernel_rfl) (by kernel_rfl) (by kernel_rfl) (fun _ _ _ h => h) (Or.inl ⟨by rfl, ?_⟩) (by assumption) ?_
    rotate_left
    · intro w0 hSw; (try dsimp only at hSw); go_simp; (try with_reducible rfl)
    try simp only [Act.put, List.setIfInBounds_toArray, List.set_cons_zero, List.set_cons_succ]
    refine wpAnyH_take (i := 6) (oi := { dst := some 28, op := Op.move (Operand.tmp 0), type := 29, pos := "ref.go:15", after := #[{ on := 10, ground := Ground.gcOnly Departure.lateStores }], guard := none }) (v := ?_) rfl (by kernel_rfl) (by kernel_rfl) (by kernel_rfl) (fun _ _ _ h => h) (Or.inl ⟨by rfl, ?_⟩) (by assumption) ?_
    rotate_left
    · intro w0 hSw; (try dsimp only at hSw); go_simp; (try with_reducible rfl)
    try simp only [Act.put, List.setIfInBounds_toArray, List.set_cons_zero, List.set_cons_succ]
    refine wpAnyH_take (i := 7) (oi := { dst := some 29, op := Op.move (Operand.tmp 1), type := 3, pos := "ref.go:15", after := #[{ on := 10, ground := Ground.gcOnly Departure.lateStores }], guard := none }) (v := ?_) rfl (by kernel_rfl) (by kernel_rfl) (by kernel_rfl) (fun _ _ _ h => h) (Or.inl ⟨by rfl, ?_⟩) (by assumption) ?_
    rotate_left
    · intro w0 hSw; (try dsimp only at hSw); go_simp; (try with_reducible rfl)
    try simp only [Act.put, List.setIfInBounds_toArray, List.set_cons_zero, List.set_cons_succ]
    refine wpAnyH_take (i := 8) (oi := { dst := some 30, op := Op.indexAddr 29 (Operand.tmp 28) (Operand.tmp 29), type := 0, pos := "ref.go:15", after := #[{ on := 6, ground := Ground.data }, { on := 7, ground := Ground.data }, { on := 10, ground := Ground.gcOnly Departure.lateStores }], guard := none }) (v := ?_) rfl (by kernel_rfl) (by kernel_rfl) (by kernel_rfl) (fun _ _ _ h => h) (Or.inl ⟨by rfl, ?_⟩) (by assumption) ?_
    rotate_left
    · intro w0 hSw; (try dsimp only at hSw); go_simp; (try with_reducible rfl)
    try simp only [Act.put, List.setIfInBounds_toArray, List.set_cons_zero, List.set_cons_succ]
    refine wpAnyH_take (i := 9) (oi := { dst := some 31, op := Op.load 9 (Operand.tmp 30), type := 9, pos := "ref.go:15", after := #[{ on := 8, ground := Ground.data }, { on := 10, ground := Ground.gcOnly Departure.lateStores }], guard := none }) (v := ?_) rfl (by kernel_rfl) (by kernel_rfl) (by kernel_rfl) (fun _ _ _ h => h) (Or.inl ⟨by rfl, ?_⟩) (by assumption) ?_
    rotate_left
    · intro w0 hSw; (try dsimp only at hSw); go_simp; (try with_reducible rfl)
    try simp only [Act.put, List.setIfInBounds_toArray, List.set_cons_zero, List.set_cons_succ]
    refine wpAnyH_ready (rs := [5]) (by kernel_rfl) (by simp) ?_
    refine AllReadyH.cons (o := { dst := some 27, op := Op.call { callee := Callee.builtin Builtin.append, args := #[Operand.tmp 22, Operand.tmp 26], argTypes := #[29, 29] }, type := 29, pos := "ref.go:15", after := #[{ on := 0, ground := Ground.data }, { on := 4, ground := Ground.data }], guard := none }) rfl (fun K hK => ?_) AllReadyH.nil
    refine wp_append_run rfl rfl (by first | rfl | simp) HRUN.out ?_
    refine hK.out _ _ ?_ (fun hHeld => ?_)
    · (try dsimp only); first | exact ⟨CK.out _ B1.out.drew, B1.out.drew⟩ | exact ⟨CK.out _ B2.out, B2.out⟩
    clear hK K
    try simp only [Act.put, List.setIfInBounds_toArray, List.set_cons_zero, List.set_cons_succ]
    refine wpAnyH_take (i := 10) (oi := { dst := some 4, op := Op.assign (Operand.tmp 27), type := 29, pos := "ref.go:15", after := #[{ on := 5, ground := Ground.data }, { on := 5, ground := Ground.chain }, { on := 0, ground := Ground.phase }, { on := 1, ground := Ground.phase }, { on := 2, ground := Ground.phase }, { on := 3, ground := Ground.phase }, { on := 4, ground := Ground.phase }, { on := 5, ground := Ground.phase }, { on := 6, ground := Ground.textOnly Departure.lateStores }, { on := 7, ground := Ground.textOnly Departure.lateStores }, { on := 8, ground := Ground.textOnly Departure.lateStores }, { on := 9, ground := Ground.textOnly Departure.lateStores }], guard := none }) (v := ?_) rfl (by kernel_rfl) (by kernel_rfl) (by kernel_rfl) (fun _ _ _ h => h) (Or.inl ⟨by rfl, ?_⟩) (by assumption) ?_
    rotate_left
    · intro w0 hSw; (try dsimp only at hSw); go_simp; (try with_reducible rfl)
    try simp only [Act.put, List.setIfInBounds_toArray, List.set_cons_zero, List.set_cons_succ]
    refine wpAnyH_take (i := 11) (oi := { dst := some 5, op := Op.assign (Operand.tmp 31), type := 9, pos := "ref.go:15", after := #[{ on := 9, ground := Ground.data }, { on := 10, ground := Ground.chain }, { on := 0, ground := Ground.phase }, { on := 1, ground := Ground.phase }, { on := 2, ground := Ground.phase }, { on := 3, ground := Ground.phase }, { on := 4, ground := Ground.phase }, { on := 5, ground := Ground.phase }, { on := 6, ground := Ground.phase }, { on := 7, ground := Ground.phase }, { on := 8, ground := Ground.phase }, { on := 9, ground := Ground.phase }, { on := 10, ground := Ground.phase }], guard := none }) (v := ?_) rfl (by kernel_rfl) (by kernel_rfl) (by kernel_rfl) (fun _ _ _ h => h) (Or.inl ⟨by rfl, ?_⟩) (by assumption) ?_
    rotate_left
    · intro w0 hSw; (try dsimp only at hSw); go_simp; (try with_reducible rfl)
    try simp only [Act.put, List.setIfInBounds_toArray, List.set_cons_zero, List.set_cons_succ]
    refine wpAnyH_take (i := 12) (oi := { dst := some 6, op := Op.assign (Operand.const (Value.bool true)), type := 4, pos := "ref.go:15", after := #[{ on := 11, ground := Ground.chain }, { on := 0, ground := Ground.phase }, { on := 1, ground := Ground.phase }, { on := 2, ground := Ground.phase }, { on := 3, ground := Ground.phase }, { on := 4, ground := Ground.phase }, { on := 5, ground := Ground.phase }, { on := 6, ground := Ground.phase }, { on := 7, ground := Ground.phase }, { on := 8, ground := Ground.phase }, { on := 9, ground := Ground.phase }, { on := 10, ground := Ground.phase }, { on := 11, ground := Ground.phase }], guard := none }) (v := ?_) rfl (by kernel_rfl) (by kernel_rfl) (by kernel_rfl) (fun _ _ _ h => h) (Or.inl ⟨by rfl, ?_⟩) (by assumption) ?_
    rotate_left
    · intro w0 hSw; (try dsimp only at hSw); go_simp; (try with_reducible rfl)
    try simp only [Act.put, List.setIfInBounds_toArray, List.set_cons_zero, List.set_cons_succ]
    refine wpAnyH_done (by kernel_rfl) ?_ _
    clear hw1 hw2 hw3 hw4
    go_wp2_with fail
    go_ret3
    exact ⟨a2, cap2, rfl, HT2.out, B2.out, HB2.out⟩
theorem rtwin_far (a : Option Addr) (n cap : Nat) (most place : Int) (hp : place < 0 ∨ (n : Int) ≤ place) (w : World) :
    Calls Try.prog 13 #[.slice a n cap, .int .i64 most, .int .i64 place] w fun e w' => e = .returned (.tuple #[.slice a n cap, .int .i64 7]) ∧ w = w' := by
  have hd : decide (place < 0) = true ∨ (decide (place < 0) = false ∧ decide ((n : Int) ≤ place) = true) := by
    rcases (by omega : place < 0 ∨ (0 ≤ place ∧ (n : Int) ≤ place)) with h | ⟨h, h'⟩
    · exact Or.inl (dlt_t h)
    · exact Or.inr ⟨dlt_f h, dle_t h'⟩
  clear hp
  rcases hd with h1 | ⟨h1, h2⟩
  all_goals
    go_enter Try.func13, Try.ntmps13
    go_wp2_with fail
    go_ret2
    exact ⟨rfl, rfl⟩
theorem rtwin_full (a : Option Addr) (n cap : Nat) (l : List ByteArray) (most : Int) (k : Nat) (hn : l.length = n) (hk : k < n) (hf : most ≤ n) (w : World) (h : Tx w a cap l) :
    Calls Try.prog 13 #[.slice a n cap, .int .i64 most, .int .i64 k] w fun e w' => e = .returned (.tuple #[.slice a n cap, .int .i64 6]) ∧ w = w' := by
  subst hn
  obtain ⟨b, off, rfl, c0⟩ := RowAt.get h.r (k := k) (v := .string l[k]) (by simp [strs, List.getElem?_eq_getElem hk])
  have h1 := dlt_f (a := (k : Int)) (b := 0) (by omega)
  have h2 := dle_f (a := (l.length : Int)) (b := k) (by omega)
  have HP := Lib.hid (rput_full (some ⟨b, off, none⟩) l.length cap most l[k] hf w)
  clear h hf
  go_enter Try.func13, Try.ntmps13
  go_wp2_with fail
  refine HP.out.mono ?_; rintro e w' ⟨rfl, rfl⟩
  go_wp2_with fail
  go_ret2
  exact ⟨rfl, rfl⟩
def RetTw (w : World) (l : List ByteArray) (e : Ending) (w' : World) : Prop :=
  ∃ a cap, e = .returned (.tuple #[.slice a l.length cap, .int .i64 0]) ∧ Tx w' a cap l ∧ Below w.heap.size w w' ∧ ∀ x, a = some x → w.heap.size ≤ x.block ∧ x.block < w'.heap.size
theorem rtwin_room (a : Option Addr) (n cap : Nat) (l : List ByteArray) (most : Int) (k : Nat) (hn : l.length = n) (hk : k < n) (hf : n < most) (hl : n ≤ 1000) (w : World) (h : Tx w a cap l) :
    Calls Try.prog 13 #[.slice a n cap, .int .i64 most, .int .i64 k] w (RetTw w (l ++ [l[k]'(by omega)])) := by
  subst hn
  obtain ⟨b, off, rfl, c0⟩ := RowAt.get h.r (k := k) (v := .string l[k]) (by simp [strs, List.getElem?_eq_getElem hk])
  have h1 := dlt_f (a := (k : Int)) (b := 0) (by omega)
  have h2 := dle_f (a := (l.length : Int)) (b := k) (by omega)
  have HP := Lib.hid (rput_room (some ⟨b, off, none⟩) l.length cap l most l[k] rfl hf hl w h)
  clear h hf
  go_enter Try.func13, Try.ntmps13
  go_wp2_with fail
  refine HP.out.mono ?_; rintro e w1 ⟨a2, cap2, rfl, t1, b1, n1⟩
  have T1 := Lib.hid t1
  have B1 := Lib.hid b1
  have N1 := Lib.hid n1
  clear t1 b1 n1
  go_wp2_with fail
  go_ret2
  exact ⟨a2, cap2, by rw [List.length_append]; rfl, T1.out, B1.out, N1.out⟩
end Go.Proofs.Ytibbeedodlnhjaa
