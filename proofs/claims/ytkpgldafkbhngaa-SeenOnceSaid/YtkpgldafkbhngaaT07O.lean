/-
  Layer 7: a window's numbers and its map; what noting, asking and clearing do to it.
-/
import Derived.Test.YtkpgldafkbhngaaT07N
namespace Go.Proofs.Ytkpgldafkbhngaa.AE
open Go.RowKit
/-- Keys with their places, from the oldest on. -/
def mcs (n : Nat) : Nat → List Int → List AV
  | _, [] => []
  | o, a :: x => gi a :: gi ((o % n : Nat) : Int) :: mcs n (o + 1) x
def keysI : List AV → List Int
  | k :: _ :: l => exInt k :: keysI l
  | _ => []
def mcsOk (n : Nat) : Nat → List AV → Bool
  | o, .v (.int .i64 _) :: .v (.int .i64 p) :: l => decide (p = ((o % n : Nat) : Int)) && mcsOk n (o + 1) l
  | _, [] => true
  | _, _ => false
theorem keys_mcs (n : Nat) : ∀ (x : List Int) (o : Nat), keysI (mcs n o x) = x
  | [], _ => rfl
  | a :: x, o => by
    show exInt (gi a) :: keysI (mcs n (o + 1) x) = _
    rw [keys_mcs n x (o + 1)]; rfl
theorem mcsOk_of (n : Nat) : ∀ (x : List Int) (o : Nat), mcsOk n o (mcs n o x) = true
  | [], _ => rfl
  | a :: x, o => by
    show (decide (((o % n : Nat) : Int) = ((o % n : Nat) : Int)) && mcsOk n (o + 1) (mcs n (o + 1) x)) = true
    rw [mcsOk_of n x (o + 1)]; simp
theorem mcs_of (n : Nat) : ∀ (o : Nat) (M : List AV), mcsOk n o M = true → M = mcs n o (keysI M) := by
  intro o M
  fun_induction mcsOk n o M with
  | case1 o a p l ih =>
    intro h
    rw [Bool.and_eq_true] at h
    have h1 : p = ((o % n : Nat) : Int) := of_decide_eq_true h.1
    subst h1
    exact congrArg (fun z => gi a :: gi ((o % n : Nat) : Int) :: z) (ih h.2)
  | case2 => intro _; rfl
  | case3 => intro h; cases h
theorem mcs_mod (n : Nat) : ∀ (x : List Int) (o o' : Nat), o % n = o' % n → mcs n o x = mcs n o' x
  | [], _, _, _ => rfl
  | a :: x, o, o', h => by
    show gi a :: gi ((o % n : Nat) : Int) :: mcs n (o + 1) x = gi a :: gi ((o' % n : Nat) : Int) :: mcs n (o' + 1) x
    rw [h, mcs_mod n x (o + 1) (o' + 1) (by rw [Nat.add_mod, h, ← Nat.add_mod])]
theorem mcs_app (n : Nat) (b : Int) : ∀ (x : List Int) (o : Nat), mcs n o (x ++ [b]) = mcs n o x ++ [gi b, gi (((o + x.length) % n : Nat) : Int)]
  | [], _ => rfl
  | a :: x, o => by
    show gi a :: gi ((o % n : Nat) : Int) :: mcs n (o + 1) (x ++ [b]) = gi a :: gi ((o % n : Nat) : Int) :: (mcs n (o + 1) x ++ _)
    rw [mcs_app n b x (o + 1), List.length_cons, show o + 1 + x.length = o + (x.length + 1) by omega]
theorem keq_gi (a b : Int) : keq (.int .i64) (.int .i64 a) (.v (.int .i64 b)) = (a == b) := rfl
theorem kok_gi (a b : Int) : kok (.int .i64) (.int .i64 a) (.v (.int .i64 b)) = true := rfl
theorem mlen_mcs (n : Nat) : ∀ (x : List Int) (o : Nat), mlen (mcs n o x) = x.length
  | [], _ => rfl
  | _ :: x, o => by
    show mlen (mcs n (o + 1) x) + 1 = _
    rw [mlen_mcs n x]; rfl
theorem mok_mcs (n : Nat) (b : Int) : ∀ (x : List Int) (o : Nat), mok (.int .i64) (.int .i64 b) (mcs n o x) = true
  | [], _ => rfl
  | a :: x, o => by
    show (kok (.int .i64) (.int .i64 b) (.v (.int .i64 a)) && mok _ _ (mcs n (o + 1) x)) = true
    rw [mok_mcs n b x, kok_gi]; rfl
theorem mhas_mcs (n : Nat) (b : Int) : ∀ (x : List Int) (o : Nat), mhas (.int .i64) (.int .i64 b) (mcs n o x) = decide (b ∈ x)
  | [], _ => by simp [mcs, mhas]
  | a :: x, o => by
    show (keq (.int .i64) (.int .i64 b) (.v (.int .i64 a)) || mhas _ _ (mcs n (o + 1) x)) = _
    rw [mhas_mcs n b x, keq_gi]
    by_cases h : b = a <;> simp [h]
theorem mset_mcs (n : Nat) (b : Int) (v : AV) : ∀ (x : List Int) (o : Nat), b ∉ x → mset (.int .i64) (.int .i64 b) v (mcs n o x) = mcs n o x ++ [gi b, v]
  | [], _, _ => rfl
  | a :: x, o, h => by
    have h1 : ¬ b = a := fun e => h (by simp [e])
    have h2 : b ∉ x := fun e => h (by simp [e])
    show (bif keq (.int .i64) (.int .i64 b) (.v (.int .i64 a)) then _ else gi a :: gi ((o % n : Nat) : Int) :: mset _ _ _ (mcs n (o + 1) x)) = _
    rw [keq_gi, beq_false_of_ne h1, mset_mcs n b v x (o + 1) h2]; rfl
theorem mdel_mcs (n : Nat) (a : Int) (x : List Int) (o : Nat) : mdel (.int .i64) (.int .i64 a) (mcs n o (a :: x)) = mcs n (o + 1) x := by
  show (bif keq (.int .i64) (.int .i64 a) (.v (.int .i64 a)) then mcs n (o + 1) x else _) = _
  rw [keq_gi, beq_self_eq_true]; rfl
theorem mget_mcs (n : Nat) (b : Int) : ∀ (x : List Int) (o : Nat), mhas (.int .i64) (.int .i64 b) (mcs n o x) = true → ∃ p : Int, mget (.int .i64) (.int .i64 b) (mcs n o x) = gi p
  | [], _, h => by cases h
  | a :: x, o, h => by
    show ∃ p, (bif keq (.int .i64) (.int .i64 b) (.v (.int .i64 a)) then gi ((o % n : Nat) : Int) else mget _ _ (mcs n (o + 1) x)) = gi p
    cases hk : keq (.int .i64) (.int .i64 b) (.v (.int .i64 a)) with
    | true => exact ⟨_, rfl⟩
    | false =>
      refine mget_mcs n b x (o + 1) ?_
      have : (keq (.int .i64) (.int .i64 b) (.v (.int .i64 a)) || mhas (.int .i64) (.int .i64 b) (mcs n (o + 1) x)) = true := h
      rw [hk] at this; exact this
theorem plainC_mcs (n : Nat) : ∀ (x : List Int) (o : Nat), plainC (mcs n o x) = true
  | [], _ => rfl
  | a :: x, o => by
    show (mcs n o (a :: x)).all isV = true
    have := plainC_mcs n x (o + 1)
    unfold plainC at this
    show (gi a :: gi ((o % n : Nat) : Int) :: mcs n (o + 1) x).all isV = true
    rw [List.all_cons, List.all_cons, this]; rfl
/-- Numbers behind a Note, with room for m. -/
def noteL (x : List Int) (m : Nat) (id : Int) : List Int := if id ∈ x then x else if m < x.length + 1 then (x ++ [id]).drop 1 else x ++ [id]
theorem noteL_len (x : List Int) (m : Nat) (id : Int) : (noteL x m id).length ≤ x.length + 1 := by
  unfold noteL; split <;> (try split) <;> simp <;> omega
/-- A window that is well made: room n, the oldest at o, the ring L, the numbers x. -/
def Win (n o : Nat) (L x : List Int) : Prop := L.length = n ∧ n ≤ 100000 ∧ o ≤ 100000 ∧ x.Nodup ∧ x.length ≤ n ∧ ∀ i, i < x.length → L[(o + i) % n]? = x[i]?
instance (n o : Nat) (L x : List Int) : Decidable (Win n o L x) := by unfold Win; infer_instance
theorem Win.all {n o : Nat} {L x : List Int} (h : Win n o L x) : allX n o L x.length = x := by
  obtain ⟨h1, h2, h3, h4, h5, h6⟩ := h
  refine List.ext_getElem (allX_len ..) fun i k1 k2 => ?_
  have := h6 i k2
  simp only [allX, List.getElem_map, List.getElem_range]
  rw [List.getD_eq_getElem?_getD, this, List.getElem?_eq_getElem k2]; rfl
theorem mod_ne {n o i j : Nat} (h : i < j) (hj : j < i + n) : (o + i) % n ≠ (o + j) % n := by
  intro e
  have h1 : ((o + j) - (o + i)) % n = 0 := Nat.sub_mod_eq_zero_of_mod_eq e.symm
  rw [show (o + j) - (o + i) = j - i by omega, Nat.mod_eq_of_lt (by omega)] at h1
  omega
def nO (n o : Nat) (x : List Int) (id : Int) : Nat := if id ∈ x ∨ n = 0 ∨ x.length < n then o else (o + 1) % n
def nL (n o : Nat) (L x : List Int) (id : Int) : List Int := if id ∈ x ∨ n = 0 then L else L.set ((o + x.length) % n) id
theorem Win.note {n o : Nat} {L x : List Int} (h : Win n o L x) (id : Int) : Win n (nO n o x id) (nL n o L x id) (noteL x n id) := by
  obtain ⟨h1, h2, h3, h4, h5, h6⟩ := h
  unfold nO nL noteL
  by_cases hi : id ∈ x
  · rw [if_pos (.inl hi), if_pos (.inl hi), if_pos hi]; exact ⟨h1, h2, h3, h4, h5, h6⟩
  by_cases hn : n = 0
  · subst hn
    have : x = [] := List.eq_nil_of_length_eq_zero (by omega)
    subst this
    rw [if_pos (.inr (.inl rfl)), if_pos (.inr rfl), if_neg hi, if_pos (by simp)]
    exact ⟨h1, h2, h3, by simp, by simp, by simp⟩
  have hp : (o + x.length) % n < L.length := by rw [h1]; exact Nat.mod_lt _ (by omega)
  by_cases hl : x.length < n
  · rw [if_pos (.inr (.inr hl)), if_neg (by simp [hi, hn]), if_neg hi, if_neg (by omega)]
    refine ⟨by rw [List.length_set]; exact h1, h2, h3, ?_, by simp; omega, fun i hx => ?_⟩
    · rw [List.nodup_append]
      exact ⟨h4, by simp, fun a ha b hb => by simp at hb; subst hb; exact fun e => hi (e ▸ ha)⟩
    · rw [List.length_append] at hx
      simp at hx
      by_cases hxi : i = x.length
      · subst hxi
        rw [List.getElem?_set_self hp]; simp
      · rw [List.getElem?_set_ne (Ne.symm (mod_ne (by omega) (by omega))), h6 i (by omega), List.getElem?_append_left (by omega)]
  · have hl : x.length = n := by omega
    rw [if_neg (by simp [hi, hn, hl]), if_neg (by simp [hi, hn]), if_neg hi, if_pos (by omega)]
    obtain ⟨a, y, rfl⟩ : ∃ a y, x = a :: y := by cases x with
      | nil => simp at hl; omega
      | cons a y => exact ⟨a, y, rfl⟩
    show Win n ((o + 1) % n) _ (y ++ [id])
    rw [List.nodup_cons] at h4
    rw [List.length_cons] at hl
    have ho : (o + 1) % n < n := Nat.mod_lt _ (by omega)
    refine ⟨by rw [List.length_set]; exact h1, h2, by omega, ?_, by simp; omega, fun i hx => ?_⟩
    · rw [List.nodup_append]
      exact ⟨h4.2, by simp, fun a ha b hb => by simp at hb; subst hb; exact fun e => hi (by simp [← e, ha])⟩
    · rw [List.length_append] at hx
      simp at hx
      have e1 : ((o + 1) % n + i) % n = (o + (i + 1)) % n := by
        rw [Nat.mod_add_mod]; congr 1; omega
      rw [e1, List.length_cons]
      by_cases hxi : i = y.length
      · subst hxi
        rw [List.length_cons] at hp
        rw [List.getElem?_set_self hp]; simp
      · rw [List.getElem?_set_ne (Ne.symm (mod_ne (by omega) (by omega))), h6 (i + 1) (by simp; omega), List.getElem?_cons_succ, List.getElem?_append_left (by omega)]
theorem Win.clear {n o : Nat} {L x : List Int} (h : Win n o L x) : Win n 0 L [] := ⟨h.1, h.2.1, by omega, by simp, by simp, by simp⟩
end Go.Proofs.Ytkpgldafkbhngaa.AE
