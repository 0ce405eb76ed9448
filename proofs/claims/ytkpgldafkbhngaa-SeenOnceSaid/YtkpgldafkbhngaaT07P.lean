/-
  Layer 7: what noting, asking and clearing answer.
-/
import Derived.Test.YtkpgldafkbhngaaT07O
namespace Go.Proofs.Ytkpgldafkbhngaa.AE
open Go.RowKit
def seQ (r : AV) (H : AH) (r' : AV) (H' : AH) : Prop := r' = r ∧ H' = H
theorem sh_mcs (n : Nat) (b : Int) (x : List Int) (o : Nat) (h : mhas (.int .i64) (.int .i64 b) (mcs n o x) = true) : shape1 Try.prog 3 (mget (.int .i64) (.int .i64 b) (mcs n o x)) = true := by
  obtain ⟨p, hp⟩ := mget_mcs n b x o h
  rw [hp]; rfl
theorem sh_mcs2 (n : Nat) (b : Int) (x : List Int) (o : Nat) (h : decide (b ∈ x) = true) : shape1 Try.prog 3 (mget (.int .i64) (.int .i64 b) (mcs n o x)) = true := sh_mcs n b x o (by rw [mhas_mcs]; exact h)
theorem fs_has (n o : Nat) (L x : List Int) (id : Int) : Fs Try.prog nro 14 [.ptr 0 0, gi id] (seH n o L (mcs n o x) []) (seQ (.v (.bool (decide (id ∈ x)))) (seH n o L (mcs n o x) [])) := by
  refine Fs.of_call (known_none _) (hs_1 n (o : Int) L (mcs n o x) id (seQ _ _)) ⟨cds_of (cds_of trivial (mok_mcs ..)) (sh_mcs n id x o), ?_, rfl⟩
  rw [mhas_mcs]
theorem fs_len (n o : Nat) (L x : List Int) : Fs Try.prog nro 13 [.ptr 0 0] (seH n o L (mcs n o x) []) (seQ (gi x.length) (seH n o L (mcs n o x) [])) := by
  refine Fs.of_call (known_none _) (ln_1 n (o : Int) L (mcs n o x) (seQ _ _)) ⟨trivial, ?_, rfl⟩
  rw [mlen_mcs]; rfl
theorem fs_clear (n o : Nat) (L x : List Int) : Fs Try.prog nro 10 [.ptr 0 0] (seH n o L (mcs n o x) []) (seQ (.v (.tuple #[])) (seH n 0 L [] [])) :=
  Fs.of_call (known_none _) (cl_1 n (o : Int) L (mcs n o x) (seQ _ _)) ⟨trivial, rfl, rfl⟩
theorem ring_set {L : List Int} {p : Nat} (h : p < L.length) (id : Int) : (List.take p (L.map gi) ++ [AV.v (.int .i64 id)]) ++ List.drop (p + 1) (L.map gi) = (L.set p id).map gi := by
  rw [List.set_eq_take_append_cons_drop, if_pos h, List.map_append, List.map_cons, List.map_take, List.map_drop, List.append_assoc]; rfl
theorem fs_note0 (o : Nat) (L : List Int) (id : Int) : Fs Try.prog nro 9 [.ptr 0 0, gi id] (seH 0 o L [] []) (seQ (.v (.bool true)) (seH 0 o L [] [])) := by
  refine Fs.of_call (known_none _) (nt_0 (o : Int) L [] id (seQ _ _)) ?_
  exact ⟨cds_of (cds_of trivial rfl) (fun h => by cases h), rfl, rfl⟩
set_option maxRecDepth 100000 in
theorem fs_note1 (k o : Nat) (L x : List Int) (id : Int) (h : Win (k + 1) o L x) : Fs Try.prog nro 9 [.ptr 0 0, gi id] (seH (k + 1) o L (mcs (k + 1) o x) []) (seQ (.v (.bool (decide (id ∉ x)))) (seH (k + 1) (nO (k + 1) o x id) (nL (k + 1) o L x id) (mcs (k + 1) (nO (k + 1) o x id) (noteL x (k + 1) id)) [])) := by
  obtain ⟨h1, h2, h3, h4, h5, h6⟩ := h
  have body := fun Φ => nt_1 k (o : Int) L (mcs (k + 1) o x) id Φ
  have w1 : IntKind.wrap .i64 ((o : Int) + (x.length : Int)) = ((o + x.length : Nat) : Int) := by rw [IntKind.wrap_i64]; omega
  have w2 : IntKind.wrap .i64 ((o : Int) + (1 : Int)) = ((o + 1 : Nat) : Int) := by rw [IntKind.wrap_i64]; omega
  have tm : ∀ a : Nat, Int.tmod (a : Int) ((k : Int) + ((1 : Nat) : Int)) = ((a % (k + 1) : Nat) : Int) := fun a => by
    show Int.tmod (Int.ofNat a) (Int.ofNat (k + 1)) = _
    rfl
  obtain ⟨p, hp⟩ : ∃ p, p = (o + x.length) % (k + 1) := ⟨_, rfl⟩
  have hpk : p < k + 1 := by rw [hp]; exact Nat.mod_lt _ (Nat.succ_pos k)
  have hpL : p < L.length := by omega
  simp only [mhas_mcs, mlen_mcs, w1, w2, tm, ← hp, Int.toNat_natCast, Nat.zero_add, Nat.mul_one, Nat.add_zero, gi_exj hpL, gil, List.length_cons, List.length_nil, ring_set hpL] at body
  have c0 : cds (cds True (mok (.int .i64) (.int .i64 id) (mcs (k + 1) o x)) (mok (.int .i64) (.int .i64 id) (mcs (k + 1) o x) = true)) (!decide (id ∈ x) || shape1 Try.prog 3 (mget (.int .i64) (.int .i64 id) (mcs (k + 1) o x))) (decide (id ∈ x) = true → shape1 Try.prog 3 (mget (.int .i64) (.int .i64 id) (mcs (k + 1) o x)) = true) := cds_of (cds_of trivial (mok_mcs ..)) (sh_mcs2 (k + 1) id x o)
  have hin : decide ((0 : Int) ≤ (p : Int) ∧ (p : Int) < (k : Int) + ((1 : Nat) : Int)) = true := decide_eq_true ⟨by omega, by omega⟩
  refine Fs.of_call (known_none _) (body (seQ _ _)) (holds_bif (fun g1 => ⟨c0, ?_⟩) fun g1 => holds_bif (fun g2 => ?_) fun g2 => ⟨cds_of (cdb_iff.2 ⟨cdb_iff.2 ⟨c0, hin⟩, decide_eq_true (by omega)⟩) (mok_mcs ..), ?_⟩)
  · have g1 : id ∈ x := of_decide_eq_true g1
    rw [show nO (k + 1) o x id = o from if_pos (.inl g1), show nL (k + 1) o L x id = L from if_pos (.inl g1), show noteL x (k + 1) id = x from if_pos g1]
    exact ⟨by rw [decide_eq_false (fun hn => hn g1)], rfl⟩
  · have g1 : id ∉ x := of_decide_eq_false g1
    have g2 : x.length = k + 1 := by have := of_decide_eq_true g2; omega
    obtain ⟨a, y, rfl⟩ : ∃ a y, x = a :: y := by cases x with
      | nil => simp at g2
      | cons a y => exact ⟨a, y, rfl⟩
    have hy : id ∉ y := fun e => g1 (List.mem_cons_of_mem _ e)
    have hpo : p = (o + 0) % (k + 1) := by rw [hp, g2, Nat.add_mod_right, Nat.add_zero]; first | done | rfl
    have ha : L[p] = a := by
      have := h6 0 (by simp)
      rw [← hpo, List.getElem?_eq_getElem hpL] at this
      simpa using this
    rw [ha, mdel_mcs]
    refine ⟨cds_of (cdb_iff.2 ⟨cdb_iff.2 ⟨cds_of (cds_of (cdb_iff.2 ⟨c0, hin⟩) ?_) (mok_mcs ..), hin⟩, decide_eq_true (by omega)⟩) (mok_mcs ..), ?_⟩
    · rw [← ha]; exact drop_one hpL
    rw [mset_mcs _ _ _ _ _ hy]
    have e1 : mcs (k + 1) (o + 1) y ++ [gi id, gi (p : Int)] = mcs (k + 1) ((o + 1) % (k + 1)) (y ++ [id]) := by
      rw [mcs_mod (k + 1) (y ++ [id]) ((o + 1) % (k + 1)) (o + 1) (Nat.mod_mod ..), mcs_app, show o + 1 + y.length = o + (a :: y).length by rw [List.length_cons]; omega, ← hp]
    rw [show nO (k + 1) o (a :: y) id = (o + 1) % (k + 1) from if_neg (by rintro (h | h | h) <;> first | exact g1 h | omega), show nL (k + 1) o L (a :: y) id = L.set p id by unfold nL; rw [if_neg (by rintro (h | h) <;> first | exact g1 h | omega), hp], show noteL (a :: y) (k + 1) id = y ++ [id] by unfold noteL; rw [if_neg g1, if_pos (by omega)]; rfl, ← e1]
    exact ⟨by rw [decide_eq_true g1], rfl⟩
  · have g1 : id ∉ x := of_decide_eq_false g1
    have g2 : x.length < k + 1 := by
      have : ¬ ((x.length : Int) = (k : Int) + ((1 : Nat) : Int)) := of_decide_eq_false g2
      omega
    rw [mset_mcs _ _ _ _ _ g1, show nO (k + 1) o x id = o from if_pos (.inr (.inr g2)), show nL (k + 1) o L x id = L.set p id by unfold nL; rw [if_neg (by rintro (h | h) <;> first | exact g1 h | omega), hp], show noteL x (k + 1) id = x ++ [id] by unfold noteL; rw [if_neg g1, if_neg (by omega)], mcs_app, ← hp]
    exact ⟨by rw [decide_eq_true g1], rfl⟩
theorem fs_note (n o : Nat) (L x : List Int) (id : Int) (h : Win n o L x) : Fs Try.prog nro 9 [.ptr 0 0, gi id] (seH n o L (mcs n o x) []) (seQ (.v (.bool (decide (id ∉ x)))) (seH n (nO n o x id) (nL n o L x id) (mcs n (nO n o x id) (noteL x n id)) [])) := by
  cases n with
  | succ k => exact fs_note1 k o L x id h
  | zero =>
    obtain ⟨h1, h2, h3, h4, h5, h6⟩ := h
    obtain rfl : x = [] := List.eq_nil_of_length_eq_zero (by omega)
    exact fs_note0 o L id
theorem fs_all' (n o : Nat) (L x : List Int) (h : Win n o L x) : Fs Try.prog nro 12 [.ptr 0 0] (seH n o L (mcs n o x) []) fun r H' => (∃ y, clean r = some y ∧ Le y (.lst 1 (x.map gi) .no)) ∧ ∃ tips, H' = seH n o L (mcs n o x) tips := by
  have e := h.all
  obtain ⟨h1, h2, h3, h4, h5, h6⟩ := h
  cases n with
  | zero =>
    obtain rfl : x = [] := List.eq_nil_of_length_eq_zero (by omega)
    exact fs_all0 0 (o : Int) L (mcs 0 o []) rfl
  | succ k =>
    have := fs_all k o L (mcs (k + 1) o x) h1 (by omega) (by omega) (by rw [mlen_mcs]; omega)
    rw [mlen_mcs, e] at this
    exact this
end Go.Proofs.Ytkpgldafkbhngaa.AE
