/-
  Layer 7: what is known of a window's calls.
-/
import Derived.Test.YtkpgldafkbhngaaT07P
namespace Go.Proofs.Ytkpgldafkbhngaa.AE
open Go.RowKit
/-- What the calls answer; a variable in the trees. -/
structure WS where
  ok : TypeId → TypeId → Nat → Nat → Int → List AV → List AV → Bool
  all : List AV → List Int
  has : List AV → Int → Bool
  len : List AV → Nat
  nb : List AV → Int → Bool
  no : Nat → Int → List AV → Int → Int
  nr : Nat → Int → List AV → List AV → Int → List AV
  nm : Nat → Int → List AV → Int → List AV
  rh : AV → AV → Bool
  rn : AV → AV → AV → List Int
  rb : AV → AV → Bool
  si : AV → AV → Bool
def wSpec (S : WS) (f : Nat → Int → List AV → List AV → AV × Int × List AV × List AV) (bs : List (TypeId × List AV)) : Option (AV × List (TypeId × List AV) × Bool) := match bs with
  | [(ts, [.sl 1 0 n n2, .v (.int .i64 o), .mp 2]), (ti, ring), (999998, M)] => some ((f n o ring M).1, [(ts, [.sl 1 0 n n2, .v (.int .i64 (f n o ring M).2.1), .mp 2]), (ti, (f n o ring M).2.2.1), (999998, (f n o ring M).2.2.2)], S.ok ts ti n n2 o ring M)
  | _ => none
def wObj (f : List AV → List (TypeId × List AV) → Option (AV × List (TypeId × List AV) × Bool)) : ObjS := ⟨seenPick, [false, true, true], [false, true, true], f⟩
def wAll (S : WS) : ObjS := wObj fun args bs => match args with
  | [.ptr 0 0] => wSpec S (fun _ o ring M => (.lst 1 ((S.all M).map gi) .no, o, ring, M)) bs
  | _ => none
def wLen (S : WS) : ObjS := wObj fun args bs => match args with
  | [.ptr 0 0] => wSpec S (fun _ o ring M => (.v (.int .i64 ((S.len M : Nat) : Int)), o, ring, M)) bs
  | _ => none
def wClear (S : WS) : ObjS := wObj fun args bs => match args with
  | [.ptr 0 0] => wSpec S (fun _ _ ring _ => (.v (.tuple #[]), 0, ring, [])) bs
  | _ => none
def wHas (S : WS) : ObjS := wObj fun args bs => match args with
  | [.ptr 0 0, .v (.int .i64 id)] => wSpec S (fun _ o ring M => (.v (.bool (S.has M id)), o, ring, M)) bs
  | _ => none
def wNote (S : WS) : ObjS := wObj fun args bs => match args with
  | [.ptr 0 0, .v (.int .i64 id)] => wSpec S (fun n o ring M => (.v (.bool (S.nb M id)), S.no n o M id, S.nr n o ring M id, S.nm n o M id)) bs
  | _ => none
def wokX (ts ti n n2 : Nat) (o : Int) (ring M : List AV) : Bool := decide (ts = 42 ∧ ti = 3 ∧ n2 = n) && (mcsOk n o.toNat M && (match intsA? (.lst 1 ring .no) with
  | some L => decide (0 ≤ o ∧ Win n o.toNat L (keysI M))
  | none => false))
def wsG (rn : AV → AV → AV → List Int) (rb si : AV → AV → Bool) : WS where
  ok := wokX
  all := keysI
  has M id := decide (id ∈ keysI M)
  len M := (keysI M).length
  nb M id := decide (id ∉ keysI M)
  no n o M id := ((nO n o.toNat (keysI M) id : Nat) : Int)
  nr n o ring M id := (nL n o.toNat (rowI ring) (keysI M) id).map gi
  nm n o M id := mcs n (nO n o.toNat (keysI M) id) (noteL (keysI M) n id)
  rh := rhX
  rn := rn
  rb := rb
  si := si
theorem wok_of {n o : Nat} {L x : List Int} (h : Win n o L x) : wokX 42 3 n n (o : Int) (L.map gi) (mcs n o x) = true := by
  unfold wokX
  rw [intsA_lst, Int.toNat_natCast, mcsOk_of, keys_mcs]
  simp only [Bool.and_eq_true, decide_eq_true_eq]
  exact ⟨by simp, trivial, Int.natCast_nonneg _, h⟩
theorem wok_out {ts ti n n2 : Nat} {o : Int} {ring M : List AV} (h : wokX ts ti n n2 o ring M = true) : ∃ (oN : Nat) (L x : List Int), ts = 42 ∧ ti = 3 ∧ n2 = n ∧ o = (oN : Int) ∧ ring = L.map gi ∧ M = mcs n oN x ∧ Win n oN L x := by
  unfold wokX at h
  rw [Bool.and_eq_true, Bool.and_eq_true] at h
  obtain ⟨h1, h2, h3⟩ := h
  obtain ⟨rfl, rfl, rfl⟩ := of_decide_eq_true h1
  split at h3
  · rename_i L hL
    obtain ⟨k1, k2⟩ := of_decide_eq_true h3
    have hr : ring = L.map gi := by
      have := (intsA_nrm hL).2
      simpa [nrm] using this
    exact ⟨o.toNat, L, keysI M, rfl, rfl, rfl, (Int.toNat_of_nonneg k1).symm, hr, mcs_of _ _ _ h2, k2⟩
  · cases h3
theorem wSpec_out {S : WS} {f} {bs bs2 : List (TypeId × List AV)} {r : AV} (hS : S.ok = wokX) (h : wSpec S f bs = some (r, bs2, true)) : ∃ (n o : Nat) (L x : List Int), bs = [(42, [.sl 1 0 n n, .v (.int .i64 (o : Int)), .mp 2]), (3, L.map gi), (999998, mcs n o x)] ∧ Win n o L x ∧ r = (f n o (L.map gi) (mcs n o x)).1 ∧ bs2 = [(42, [.sl 1 0 n n, .v (.int .i64 (f n o (L.map gi) (mcs n o x)).2.1), .mp 2]), (3, (f n o (L.map gi) (mcs n o x)).2.2.1), (999998, (f n o (L.map gi) (mcs n o x)).2.2.2)] := by
  unfold wSpec at h
  split at h
  · simp only [Option.some.injEq, Prod.mk.injEq] at h
    obtain ⟨h1, h2, h3⟩ := h
    rw [hS] at h3
    obtain ⟨oN, L, x, rfl, rfl, rfl, rfl, rfl, rfl, hw⟩ := wok_out h3
    exact ⟨_, oN, L, x, rfl, hw, h1.symm, h2.symm⟩
  · cases h
theorem seq_ok {r r0 : AV} {n o : Nat} {L x : List Int} {g : FuncId} {args : List AV} {H : AH} {bs2 : List (TypeId × List AV)} (e : H = hp bs2 []) (er : r0 = r)
    (h : Fs Try.prog nro g args (seH n o L (mcs n o x) []) (seQ r0 H)) : Fs Try.prog nro g args (seH n o L (mcs n o x) []) fun r' H' => (r' = r ∨ ∃ y, clean r' = some y ∧ Le y r) ∧ ∃ tips more, H' = hp (bs2 ++ more) tips :=
  h.mono fun r' H' ⟨q1, q2⟩ => ⟨.inl (q1.trans er), [], [], by rw [q2, e, List.append_nil]⟩
theorem wall_ok (rn : AV → AV → AV → List Int) (rb si : AV → AV → Bool) : ∀ args H r H', obj? (wAll (wsG rn rb si)) args H = some (r, H') → HSound1 Try.prog nro 12 args H r H' := by
  refine obj_ok (has_fn (by kernel_rfl)) fun args bs r bs2 h => ?_
  unfold wAll wObj at h
  simp only at h
  split at h
  · obtain ⟨n, o, L, x, rfl, hw, rfl, rfl⟩ := wSpec_out rfl h
    refine (fs_all' n o L x hw).mono fun r H' ⟨q1, tips, q2⟩ => ⟨.inr ?_, tips, [], by rw [q2]; rfl⟩
    show ∃ y, clean r = some y ∧ Le y (.lst 1 ((keysI (mcs n o x)).map gi) .no)
    rw [keys_mcs]; exact q1
  · cases h
theorem wlen_ok (rn : AV → AV → AV → List Int) (rb si : AV → AV → Bool) : ∀ args H r H', obj? (wLen (wsG rn rb si)) args H = some (r, H') → HSound1 Try.prog nro 13 args H r H' := by
  refine obj_ok (has_fn (by kernel_rfl)) fun args bs r bs2 h => ?_
  unfold wLen wObj at h
  simp only at h
  split at h
  · obtain ⟨n, o, L, x, rfl, hw, rfl, rfl⟩ := wSpec_out rfl h
    refine seq_ok rfl ?_ (fs_len n o L x)
    show gi x.length = gi (keysI (mcs n o x)).length
    rw [keys_mcs]
  · cases h
theorem wclear_ok (rn : AV → AV → AV → List Int) (rb si : AV → AV → Bool) : ∀ args H r H', obj? (wClear (wsG rn rb si)) args H = some (r, H') → HSound1 Try.prog nro 10 args H r H' := by
  refine obj_ok (has_fn (by kernel_rfl)) fun args bs r bs2 h => ?_
  unfold wClear wObj at h
  simp only at h
  split at h
  · obtain ⟨n, o, L, x, rfl, hw, rfl, rfl⟩ := wSpec_out rfl h
    exact seq_ok rfl rfl (fs_clear n o L x)
  · cases h
theorem whas_ok (rn : AV → AV → AV → List Int) (rb si : AV → AV → Bool) : ∀ args H r H', obj? (wHas (wsG rn rb si)) args H = some (r, H') → HSound1 Try.prog nro 14 args H r H' := by
  refine obj_ok (has_fn (by kernel_rfl)) fun args bs r bs2 h => ?_
  unfold wHas wObj at h
  simp only at h
  split at h
  · rename_i id
    obtain ⟨n, o, L, x, rfl, hw, rfl, rfl⟩ := wSpec_out rfl h
    refine seq_ok rfl ?_ (fs_has n o L x id)
    show AV.v (.bool (decide (id ∈ x))) = .v (.bool (decide (id ∈ keysI (mcs n o x))))
    rw [keys_mcs]
  · cases h
theorem wnote_ok (rn : AV → AV → AV → List Int) (rb si : AV → AV → Bool) : ∀ args H r H', obj? (wNote (wsG rn rb si)) args H = some (r, H') → HSound1 Try.prog nro 9 args H r H' := by
  refine obj_ok (has_fn (by kernel_rfl)) fun args bs r bs2 h => ?_
  unfold wNote wObj at h
  simp only at h
  split at h
  · rename_i id
    obtain ⟨n, o, L, x, rfl, hw, rfl, rfl⟩ := wSpec_out rfl h
    refine seq_ok ?_ ?_ (fs_note n o L x id hw)
    · show _ = hp [(42, [.sl 1 0 n n, gi ((nO n (o : Int).toNat (keysI (mcs n o x)) id : Nat) : Int), .mp 2]), (3, (nL n (o : Int).toNat (rowI (L.map gi)) (keysI (mcs n o x)) id).map gi), (999998, mcs n (nO n (o : Int).toNat (keysI (mcs n o x)) id) (noteL (keysI (mcs n o x)) n id))] []
      rw [keys_mcs, rowI_gi, Int.toNat_natCast]; rfl
    · show AV.v (.bool (decide (id ∉ x))) = .v (.bool (decide (id ∉ keysI (mcs n o x))))
      rw [keys_mcs]
  · cases h
end Go.Proofs.Ytkpgldafkbhngaa.AE
