/-
  The contracts of Take and All of layer 36.
-/
import Derived.Test.YtibbeedodlnhjaaBag
namespace Go.Proofs.Ytibbeedodlnhjaa
open Go.RowKit
theorem strs_take (l : List ByteArray) (k : Nat) : (strs l).take k = strs (l.take k) := by simp [strs, List.map_take]
theorem strs_drop (l : List ByteArray) (k : Nat) : (strs l).drop k = strs (l.drop k) := by simp [strs, List.map_drop]
theorem eraseIdx_eq {α : Type} (l : List α) (k : Nat) : l.eraseIdx k = l.take k ++ l.drop (k + 1) := List.eraseIdx_eq_take_drop_succ ..
set_option maxHeartbeats 2000000 in
theorem btake_in {g : Nat} {v : Value} {most : Int} {l : List ByteArray} (k : Nat) (hk : k < l.length) (hl : l.length ≤ 1000) (w : World) (h : Bg w g v most l) :
    Calls Try.prog 11 #[.pointer (some ⟨g, 0, none⟩), .int .i64 k] w fun e w' => e = .returned (.tuple #[.string l[k], .bool true]) ∧ ∃ v', Bg w' g v' most (l.eraseIdx k) ∧ Oth (fp g v) w w' ∧ (∀ k, v'.ownBlock = some k → v.ownBlock = some k ∨ w.heap.size ≤ k) := by
  obtain ⟨i0, hi, hz0, hz1, hz2⟩ := info_parts info_str
  have hI := Lib.hid (And.intro hi (And.intro hz0 (And.intro hz1 hz2)))
  have HA := Lib.hid (bat_in k hk w h)
  clear hi hz0 hz1 hz2
  obtain ⟨a, cap, hv, hr, hnc, hcm, hab⟩ := h.r.row
  obtain ⟨b, off, rfl, hc⟩ := hr.get (k := k) (v := .string l[k]) (by simp [strs, List.getElem?_eq_getElem hk])
  have HF := Lib.hid (h.r.front hv (k := k) (by omega) (by simp))
  subst hv
  have c0 := h.b.cell 0
  have f0 := h.b.frozen 0
  have H := Lib.hid h
  have HR := Lib.hid hr
  have hcap : cap ≤ 9223372036854775807 := by unfold maxLen at hcm; exact hcm
  have SRC := Lib.hid (show ∀ (x : Option Addr) (c : Nat), (l.length - (k + 1) ≠ 0 → x = some ⟨b, off + (k + 1), none⟩) → (x = none → l.length - (k + 1) = 0) → Src Try.prog 1 29 (.slice x (l.length - (k + 1)) c) (l.length - (k + 1)) (strs (l.drop (k + 1))) w from fun x c hx hn => by
    refine src_at Try.underlying29 ?_ (by simp [strs]) (fun e => ⟨hn e, rfl⟩) (strs_one _)
    intro hne
    have h0 : l.length - (k + 1) ≠ 0 := by intro e; apply hne; have : (l.drop (k + 1)) = [] := List.drop_of_length_le (by omega); rw [this]; rfl
    refine ⟨b, off + (k + 1), hx h0, fun j u hu => ?_⟩
    rw [← strs_drop, List.getElem?_drop] at hu
    obtain ⟨b', off', e, hcell⟩ := RowAt.get HR.out hu
    simp only [Option.some.injEq, Addr.mk.injEq, and_true] at e
    obtain ⟨rfl, rfl⟩ := e
    rw [← hcell, Nat.add_assoc])
  clear h hr hc hcm hab HR
  by_cases hk1 : k + 1 = cap
  · have hn1 : l.length = k + 1 := by omega
    go_enter Try.func11, Try.ntmps11
    go_wp2_with fail
    refine HA.out.mono ?_; rintro e w' ⟨rfl, rfl⟩
    go_wp2_with fail
    go_ret2
    have hne : (Value.slice (some ⟨b, off, none⟩) k k).ownBlock ≠ some g := fun e => by have := (HF.out.lt g e).1; omega
    refine ⟨rfl, .slice (some ⟨b, off, none⟩) k k, ⟨H.out.b.set_ 0 _, ?_⟩, Oth.of_grown (only_set w g 0 _) (fun i hi => by injection hi with hi; exact Or.inl hi.symm), fun i hi => Or.inl hi⟩
    have e : l.eraseIdx k = l.take k := by rw [eraseIdx_eq, List.drop_of_length_le (by omega), List.append_nil]
    rw [e, ← strs_take, List.length_take, Nat.min_eq_left (by omega)]
    have := HF.out.kept (only_set w g 0 (.slice (some ⟨b, off, none⟩) k k)) (Or.inr hne)
    rwa [Nat.mul_one] at this
  · have hk2 : k + 1 < cap := by omega
    have hk3 : k + 1 ≤ l.length := by omega
    go_enter Try.func11, Try.ntmps11
    go_wp2_with fail
    refine HA.out.mono ?_; rintro e w' ⟨rfl, rfl⟩
    go_wp2_with (at_builtin; refine wpList_append_row rfl _ _ 29 29 rfl HF.out rfl (xv := .slice (some ⟨b, off + (k + 1), none⟩) (l.length - (k + 1)) (cap - (k + 1))) (m := l.length - (k + 1)) (news := strs (l.drop (k + 1))) ?_ (SRC.out _ _ (fun _ => rfl) (fun h => by cases h)) Try.underlying29 hI.out.1 hI.out.2.1 hI.out.2.2.1 hI.out.2.2.2 rfl ?_ ?_ ?_ ?_)
    · first | rfl | (simp <;> omega)
    · unfold maxLen; omega
    · omega
    · have := H.out.b.lt; omega
    intro v' w2 hr2 hg2 hk4
    obtain ⟨a2, cap2, rfl, _⟩ := hr2.row
    have hgr : (Value.slice (some ⟨b, off, none⟩) k k).ownBlock ≠ some g := fun e => by have := (HF.out.lt g e).1; omega
    have V2 := Lib.hid (show (Value.slice a2 (k + (l.length - (k + 1))) cap2).ownBlock ≠ some g from fun e => by have := (hr2.lt g e).1; omega)
    have K2 := Lib.hid (show Bk w2 g 48 #[.slice (some ⟨b, off, none⟩) l.length cap, .int .i64 most] from H.out.b.grown hg2 (fun e => hgr e.symm))
    have R2 := Lib.hid hr2
    have O2 := Lib.hid (show Oth (fp g (.slice (some ⟨b, off, none⟩) l.length cap)) w w2 from Oth.of_grown hg2 (fun k hk => Or.inr hk))
    have N2 := Lib.hid hk4
    clear hr2 hg2 hk4 hgr
    have c0 := K2.out.cell 0
    have f0 := K2.out.frozen 0
    go_wp2_with fail
    go_ret2
    refine ⟨rfl, _, ⟨K2.out.set_ 0 _, ?_⟩, O2.out.trans (Oth.of_grown (F := fp g (.slice (some ⟨b, off, none⟩) l.length cap)) (only_set w2 g 0 _) (fun k hk => by injection hk with hk; exact Or.inl hk.symm)) (fun i hi => Or.inl hi), fun i hi => by
      rcases N2.out i hi with h | h
      · exact Or.inl h
      · exact Or.inr (by omega)⟩
    have := R2.out.kept (only_set w2 g 0 (.slice a2 (k + (l.length - (k + 1))) cap2)) (Or.inr V2.out)
    have el : (l.eraseIdx k).length = k + (l.length - (k + 1)) := by rw [eraseIdx_eq]; simp; omega
    have e2 : (strs l).take k ++ strs (l.drop (k + 1)) = strs (l.eraseIdx k) := by rw [strs_take, ← strs_app, ← eraseIdx_eq]
    rw [el, ← e2]
    exact this
theorem ball_nil {p : Value} (w : World) (hl : Calls Try.prog 18 #[p] w fun e w' => e = .returned (.int .i64 0) ∧ w = w') :
    Calls Try.prog 17 #[p] w fun e w' => e = .returned (.slice none 0 0) ∧ w = w' := by
  have HL := Lib.hid hl
  clear hl
  go_enter Try.func17, Try.ntmps17
  go_wp2_with fail
  refine HL.out.mono ?_; rintro e w' ⟨rfl, rfl⟩
  go_wp2_with fail
  go_ret
  exact ⟨rfl, rfl⟩
/-- What a function hands back that returns texts in memory of its own. -/
def RetStrs (w : World) (l : List ByteArray) (e : Ending) (w' : World) : Prop :=
  ∃ a cap, e = .returned (.slice a l.length cap) ∧ RowAt w' a (strs l) ∧ Below w.heap.size w w' ∧ (∀ x, a = some x → w.heap.size ≤ x.block ∧ x.block < w'.heap.size) ∧ l.length ≤ cap ∧ cap ≤ maxLen
set_option maxHeartbeats 2000000 in
theorem ball_any {g : Nat} {v : Value} {most : Int} {l : List ByteArray} (hl : l.length ≤ 1000) (w : World) (h : Bg w g v most l) :
    Calls Try.prog 17 #[.pointer (some ⟨g, 0, none⟩)] w (RetStrs w l) := by
  by_cases h0 : l.length = 0
  · have hx : l = [] := List.eq_nil_of_length_eq_zero h0
    subst hx
    refine (ball_nil w (blen_any w h)).mono ?_
    rintro e w' ⟨rfl, rfl⟩
    exact ⟨none, 0, rfl, RowAt.nil_ _ _, Below.refl _ _, (fun x hx => by cases hx), Nat.le_refl _, Nat.zero_le _⟩
  · obtain ⟨i0, hi, hz0, hz1, hz2⟩ := info_parts info_str
    have hI := Lib.hid (And.intro hi (And.intro hz0 (And.intro hz1 hz2)))
    have HL := Lib.hid (blen_any w h)
    clear hi hz0 hz1 hz2
    obtain ⟨a, cap, rfl, hr, hnc, hcm, hab⟩ := h.r.row
    obtain ⟨b, off, rfl, _⟩ := hr.get (k := 0) (v := .string l[0]) (by simp [strs, List.getElem?_eq_getElem (show 0 < l.length by omega)])
    have c0 := h.b.cell 0
    have hne := deq_f (a := (l.length : Int)) (b := 0) (by omega)
    have H := Lib.hid h
    have HR := Lib.hid hr
    clear h hr hcm hab
    go_enter Try.func17, Try.ntmps17
    go_wp2_with fail
    refine HL.out.mono ?_; rintro e w' ⟨rfl, rfl⟩
    have hmk := run_make (P := Try.prog) w 29 9 i0 (.string ByteArray.empty) Try.underlying29 hI.out.1 hI.out.2.1 .i64 .i64 l.length l.length (by omega) (by omega) (by rw [hI.out.2.2.2]; omega) (by omega)
    rw [hI.out.2.2.1] at hmk
    simp only [Int.toNat_natCast] at hmk
    have c1 : ∀ o, (w.alloc o).cell? ⟨g, 0, none⟩ = some (.slice (some ⟨b, off, none⟩) l.length cap) := fun o => (((Below.refl _ w).alloc (Nat.le_refl _) o).cell (p := ⟨g, 0, none⟩) (cell_lt c0)).trans c0
    have A1 := Lib.hid ((Below.refl w.heap.size w).alloc (Nat.le_refl _) (.cells (madeCells #[.string ByteArray.empty] l.length) 9))
    have N1 := Lib.hid (Bk.new w 9 (madeCells #[.string ByteArray.empty] l.length))
    have hcp : ∀ ty, (Builtin.copy_ #[29, 29] ty #[.slice (some ⟨w.heap.size, 0, none⟩) l.length l.length, .slice (some ⟨b, off, none⟩) l.length cap]).run Try.prog (w.alloc (.cells (madeCells #[.string ByteArray.empty] l.length) 9)) = .ok (goInt (strs l).length) ((w.alloc (.cells (madeCells #[.string ByteArray.empty] l.length) 9)).setCells w.heap.size 0 (strs l)) := fun ty =>
      run_copy_cells _ _ _ ty 9 _ _ _ _ ⟨b, off, none⟩ _ _ (strs l) Try.underlying29 (by rw [hI.out.1]; simp [hI.out.2.2.1]) (by simp [strs])
        (fun j u hu => by
          obtain ⟨b', off', e, hc⟩ := RowAt.get (HR.out.below A1.out) hu
          injection e with e
          rw [e]
          simpa [Go.WideShapes.add_plain] using hc)
        (fun j hj => by rw [Nat.zero_add, N1.out.cell j, Array.getElem?_eq_getElem (by rw [size_madeCells]; simpa [strs] using hj)]; rfl) (fun j _ => N1.out.frozen _) (strs_one l)
    obtain ⟨cs', q1, q2, q3⟩ := Bk.setCells (strs l) 0 N1.out (by simp [size_madeCells, strs])
    have HQ := Lib.hid (show RowAt ((w.alloc (.cells (madeCells #[.string ByteArray.empty] l.length) 9)).setCells w.heap.size 0 (strs l)) (some ⟨w.heap.size, 0, none⟩) (strs l) from fun _ => ⟨_, 0, rfl, fun j u hu => by
      have hj := (List.getElem?_eq_some_iff.1 hu).1
      rw [Nat.zero_add, q1.cell j, q3, if_pos ⟨Nat.zero_le _, by omega⟩, Nat.sub_zero, hu]⟩)
    have HB := Lib.hid (below_only A1.out (only_setCells w.heap.size (strs l) 0 (w.alloc (.cells (madeCells #[.string ByteArray.empty] l.length) 9))) (by simp) (Nat.le_refl _))
    have HG := Lib.hid q1.lt
    clear q1 q2 q3 N1 A1
    go_wp2_with (simp only [hcp])
    go_ret
    exact ⟨_, _, rfl, HQ.out, HB.out, (fun x hx => by injection hx with hx; subst hx; exact ⟨Nat.le_refl _, HG.out⟩), Nat.le_refl _, by unfold maxLen; omega⟩
end Go.Proofs.Ytibbeedodlnhjaa
