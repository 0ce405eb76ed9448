/-
  The contract of the plain answer Learn of layer 21.
-/
import Derived.Test.YtbfimnlffjkokaaL21Ref
namespace Go.Proofs.Ytbfimnlffjkokaa
open Go.RowKit Bd Tb
def RetLearn (w : World) (l : List Kq) (b : Bool) (e : Ending) (w' : World) : Prop :=
  ∃ a cap, e = .returned (.tuple #[.slice a l.length cap, .bool b]) ∧ Kns w' a l ∧ Below w.heap.size w w' ∧ ∀ x, a = some x → w.heap.size ≤ x.block
theorem own_row2 {w : World} {base : Nat} {e : TypeId} {size : Nat} {v : Value} {n : Nat} {xs : List Value} (h : w.ownsRow base e size v n xs) : ∃ a cap, v = .slice a n cap ∧ RowAt w a xs ∧ ∀ x, a = some x → base ≤ x.block := by
  obtain ⟨a, cap, rfl, hr⟩ := own_row' h
  refine ⟨a, cap, rfl, hr, fun x hx => ?_⟩
  subst hx
  exact (h.lt x.block rfl).1
theorem atStart0 (w : World) (o : Obj) : w.heap.size + 1 ≤ (w.alloc o).heap.size := by simp
theorem rlearn_far (a : Option Addr) (n cap : Nat) (ns : Nat → Nt) (to th ep now : Int) (hto : to < 0 ∨ 8 ≤ to) (w : World) :
    Calls Try.prog 8 #[.slice a n cap, .int .i64 to, .int .i64 th, .int .i64 ep, .int .i64 now] w fun e w' => e = .returned (.tuple #[.slice a n cap, .bool false]) ∧ w = w' := by
  have hd : (decide (to < 0) = true) ∨ (decide (to < 0) = false ∧ decide (7 < to) = true) := by
    rcases (by omega : to < 0 ∨ 0 ≤ to) with h | h
    · exact Or.inl (dlt_t h)
    · exact Or.inr ⟨dlt_f h, dlt_t (by omega)⟩
  clear hto
  rcases hd with h1 | ⟨h1, h2⟩
  all_goals
    go_enter Try.func8, Try.ntmps8
    go_wp2_with fail
    go_ret2
    exact ⟨rfl, rfl⟩
set_option maxHeartbeats 2000000 in
theorem rlearn_new (a : Option Addr) (n cap : Nat) (ns : Nat → Nt) (k : Nat) (hk : k < 8) (th ep now : Int) (w : World) (h : Kns w a (xl ns 8)) (hn : (xl ns 8).length = n) (hns : ns k = none) :
    Calls Try.prog 8 #[.slice a n cap, .int .i64 k, .int .i64 th, .int .i64 ep, .int .i64 now] w (RetLearn w (xl (upd ns k (some (th, ep, kp now tMost))) 8) true) := by
  subst hn
  obtain ⟨i0, hi, hz0, hz1, hz2⟩ := info_parts info_known
  have hI := Lib.hid (And.intro hi (And.intro hz0 (And.intro hz1 hz2)))
  have HK := Lib.hid h
  have hk0 := dlt_f (a := (k : Int)) (b := 0) (by omega)
  have hk7 := dlt_f (a := 7) (b := (k : Int)) (by omega)
  have HL := xl_len ns 8
  clear hi hz0 hz1 hz2 h
  have hfk := Lib.hid (fk_xl_none hns)
  go_enter Try.func8, Try.ntmps8
  go_wp2_with fail
  refine (rtick_any _ _).mono ?_; rintro e w' ⟨rfl, rfl⟩
  go_wp2_with fail
  refine (rfind_any _ _ cap (xl ns 8) k _ (HK.out.below ((Below.refl _ w).alloc (Nat.le_refl _) _)) rfl (by omega)).mono ?_; rintro e w' ⟨rfl, rfl⟩
  rw [hfk.out]
  go_wp2_with fail
  have X0 := Lib.hid (Bk.new w 36 #[.int .i64 k, .int .i64 th, .int .i64 ep, .int .i64 (kp now tMost)])
  have B0 := Lib.hid ((Below.refl w.heap.size w).alloc (Nat.le_refl _) (.cells #[.int .i64 k, .int .i64 th, .int .i64 ep, .int .i64 (kp now tMost)] 36))
  go_loopw [14, 15] (fun v i wr => ∃ m : Nat, m ≤ 8 ∧ i = .int .i64 m ∧ wr.ownsRow (w.heap.size + 1) 36 4 v (xl (upd ns k (some (th, ep, kp now tMost))) m).length ((xl (upd ns k (some (th, ep, kp now tMost))) m).flatMap kl) ∧ Bk wr w.heap.size 36 #[.int .i64 k, .int .i64 th, .int .i64 ep, .int .i64 (kp now tMost)] ∧ Below w.heap.size w wr) (fun _ i _ => 8 - (intOf i).toNat)
  case atStart => exact ⟨0, by decide, rfl, World.ownsRow_nil _ _ _ _, X0.out, B0.out⟩
  case round =>
    obtain ⟨m, hm, rfl, hown, hx, hb⟩ := hrel
    have HO := Lib.hid hown
    have HX := Lib.hid hx
    have HB := Lib.hid hb
    have hlen := xl_len (upd ns k (some (th, ep, kp now tMost))) m
    clear hown hx hb X0 B0
    by_cases hlt : m < 8
    · by_cases hmk : m = k
      · subst hmk
        have E := Lib.hid (xl_some (upd_same ns m (some (th, ep, kp now tMost))))
        have c0 := HX.out.cell 0
        have c1 := HX.out.cell 1
        have c2 := HX.out.cell 2
        have c3 := HX.out.cell 3
        go_wp2_with fail
        refine (rfind_any _ _ cap (xl ns 8) m _ (HK.out.below HB.out) rfl (by omega)).mono ?_; rintro e w' ⟨rfl, rfl⟩
        go_wp2_with (at_builtin; refine wpList_append_own _ rfl _ _ 28 rfl (w.heap.size + 1) 36 i0 (.agg #[.int .i64 0, .int .i64 0, .int .i64 0, .int .i64 0]) 4 32 Try.underlying28 hI.out.1 hI.out.2.1 hI.out.2.2.1 hI.out.2.2.2 rfl (by decide) _ _ _ rfl (HO.out.alloc _) ⟨wr.heap.size, 0, none⟩ 1 1 [.int .i64 m, .int .i64 th, .int .i64 ep, .int .i64 (kp now tMost)] rfl rfl ?_ ?_ ?_ ?_ ?_ ?_)
        · exact news_all (Bk.new wr 36 #[.int .i64 m, .int .i64 th, .int .i64 ep, .int .i64 (kp now tMost)])
        · intro u hu
          simp at hu
          rcases hu with rfl | rfl | rfl | rfl <;> rfl
        · unfold maxLen; omega
        · omega
        · have := HX.out.lt; simp; omega
        intro v' w2 hown' hgr _
        have HB2 := Lib.hid (show Below w.heap.size w w2 from (HB.out.alloc HB.out.size _).grown hgr (by have := HB.out.size; simp; omega) (fun j hj => by have := (HO.out.lt j hj).1; omega))
        have HX2 := Lib.hid ((HX.out.below ((Below.refl _ wr).alloc (Nat.le_refl _) (.cells #[.int .i64 m, .int .i64 th, .int .i64 ep, .int .i64 (kp now tMost)] 36))).grown hgr (fun hc => by have := (HO.out.lt _ hc.symm).1; omega))
        have hown2 := Lib.hid hown'
        clear hown' hgr
        go_wp2_with fail
        go_roundw
        case rel => exact ⟨m + 1, by omega, by go_num, by rw [E.out, List.length_append, List.flatMap_append]; exact hown2.out, HX2.out, HB2.out⟩
        case measure => simp [intOf]; omega
      · have hne := deq_f (a := (m : Int)) (b := (k : Int)) (by omega)
        rcases hnm : ns m with _ | ⟨t, e, a'⟩
        · have E := Lib.hid (xl_none (ns := upd ns k (some (th, ep, kp now tMost))) (k := m) (by rw [upd_other _ _ _ hmk]; exact hnm))
          have F := Lib.hid (fk_xl_none hnm)
          clear hnm hmk
          go_wp2_with fail
          refine (rfind_any _ _ cap (xl ns 8) m _ (HK.out.below HB.out) rfl (by omega)).mono ?_; rintro e w' ⟨rfl, rfl⟩
          rw [F.out]
          go_wp2_with fail
          go_roundw
          case rel => exact ⟨m + 1, by omega, by go_num, by rw [E.out]; exact HO.out, HX.out, HB.out⟩
          case measure => simp [intOf]; omega
        · have E := Lib.hid (xl_some (ns := upd ns k (some (th, ep, kp now tMost))) (k := m) (by rw [upd_other _ _ _ hmk]; exact hnm))
          obtain ⟨j, hj, F, hx⟩ := fk_xl_some hlt hnm
          have F := Lib.hid F
          obtain ⟨b, off, ha, c0, c1, c2, c3⟩ := (HK.out.below HB.out).get hj
          rw [hx] at c0 c1 c2 c3
          simp only at c0 c1 c2 c3
          first
            | subst ha
            | (simp only [Option.some.injEq, Addr.mk.injEq, and_true] at ha
               obtain ⟨rfl, rfl⟩ := ha)
          clear hnm hmk hx
          go_wp2_with fail
          refine (rfind_any _ _ cap (xl ns 8) m _ (HK.out.below HB.out) rfl (by omega)).mono ?_; rintro e' w' ⟨rfl, rfl⟩
          rw [F.out]
          go_wp2_with (at_builtin; refine wpList_append_own _ rfl _ _ 28 rfl (w.heap.size + 1) 36 i0 (.agg #[.int .i64 0, .int .i64 0, .int .i64 0, .int .i64 0]) 4 32 Try.underlying28 hI.out.1 hI.out.2.1 hI.out.2.2.1 hI.out.2.2.2 rfl (by decide) _ _ _ rfl (HO.out.alloc _) ⟨wr.heap.size, 0, none⟩ 1 1 [.int .i64 m, .int .i64 t, .int .i64 e, .int .i64 a'] rfl rfl ?_ ?_ ?_ ?_ ?_ ?_)
          · exact news_all (Bk.new wr 36 #[.int .i64 m, .int .i64 t, .int .i64 e, .int .i64 a'])
          · intro u hu
            simp at hu
            rcases hu with rfl | rfl | rfl | rfl <;> rfl
          · unfold maxLen; omega
          · omega
          · have := HX.out.lt; simp; omega
          intro v' w2 hown' hgr _
          have HB2 := Lib.hid (show Below w.heap.size w w2 from (HB.out.alloc HB.out.size _).grown hgr (by have := HB.out.size; simp; omega) (fun j hj => by have := (HO.out.lt j hj).1; omega))
          have HX2 := Lib.hid ((HX.out.below ((Below.refl _ wr).alloc (Nat.le_refl _) (.cells #[.int .i64 m, .int .i64 t, .int .i64 e, .int .i64 a'] 36))).grown hgr (fun hc => by have := (HO.out.lt _ hc.symm).1; omega))
          have hown2 := Lib.hid hown'
          clear hown' hgr
          go_wp2_with fail
          go_roundw
          case rel => exact ⟨m + 1, by omega, by go_num, by rw [E.out, List.length_append, List.flatMap_append]; exact hown2.out, HX2.out, HB2.out⟩
          case measure => simp [intOf]; omega
    · obtain rfl : m = 8 := by omega
      go_wp2_with fail
      go_ret2
      obtain ⟨a2, cap2, rfl, hr, hbl⟩ := own_row2 HO.out
      exact ⟨a2, cap2, rfl, hr, HB.out, fun x hx => Nat.le_of_succ_le (hbl x hx)⟩
set_option maxHeartbeats 2000000 in
theorem rlearn_old (a : Option Addr) (n cap : Nat) (ns : Nat → Nt) (k : Nat) (hk : k < 8) (th ep now t0 e0 a0 : Int) (he : ep < e0) (w : World) (h : Kns w a (xl ns 8)) (hn : (xl ns 8).length = n) (hns : ns k = some (t0, e0, a0)) :
    Calls Try.prog 8 #[.slice a n cap, .int .i64 k, .int .i64 th, .int .i64 ep, .int .i64 now] w fun e w' => e = .returned (.tuple #[.slice a n cap, .bool false]) ∧ Below w.heap.size w w' := by
  subst hn
  obtain ⟨i0, hi, hz0, hz1, hz2⟩ := info_parts info_known
  have hI := Lib.hid (And.intro hi (And.intro hz0 (And.intro hz1 hz2)))
  have HK := Lib.hid h
  have hk0 := dlt_f (a := (k : Int)) (b := 0) (by omega)
  have hk7 := dlt_f (a := 7) (b := (k : Int)) (by omega)
  have HL := xl_len ns 8
  clear hi hz0 hz1 hz2 h
  obtain ⟨j, hj, F, hx⟩ := fk_xl_some hk hns
  have hfk := Lib.hid F
  obtain ⟨b, off, ha, d0, d1, d2, d3⟩ := (HK.out.below ((Below.refl _ w).alloc (Nat.le_refl _) (.cells #[.int .i64 k, .int .i64 th, .int .i64 ep, .int .i64 (kp now tMost)] 36))).get hj
  rw [hx] at d0 d1 d2 d3
  simp only at d0 d1 d2 d3
  subst ha
  clear hx F
  go_enter Try.func8, Try.ntmps8
  go_wp2_with fail
  refine (rtick_any _ _).mono ?_; rintro e w' ⟨rfl, rfl⟩
  go_wp2_with fail
  refine (rfind_any _ _ cap (xl ns 8) k _ (HK.out.below ((Below.refl _ w).alloc (Nat.le_refl _) _)) rfl (by omega)).mono ?_; rintro e w' ⟨rfl, rfl⟩
  rw [hfk.out]
  go_wp2_with fail
  go_ret2
  exact ⟨rfl, (Below.refl _ w).alloc (Nat.le_refl _) _⟩
set_option maxHeartbeats 2000000 in
theorem rlearn_up (a : Option Addr) (n cap : Nat) (ns : Nat → Nt) (k : Nat) (hk : k < 8) (th ep now t0 e0 a0 : Int) (he : e0 < ep) (w : World) (h : Kns w a (xl ns 8)) (hn : (xl ns 8).length = n) (hns : ns k = some (t0, e0, a0)) :
    Calls Try.prog 8 #[.slice a n cap, .int .i64 k, .int .i64 th, .int .i64 ep, .int .i64 now] w (RetLearn w (xl (upd ns k (some (th, ep, kp now tMost))) 8) true) := by
  subst hn
  obtain ⟨i0, hi, hz0, hz1, hz2⟩ := info_parts info_known
  have hI := Lib.hid (And.intro hi (And.intro hz0 (And.intro hz1 hz2)))
  have HK := Lib.hid h
  have hk0 := dlt_f (a := (k : Int)) (b := 0) (by omega)
  have hk7 := dlt_f (a := 7) (b := (k : Int)) (by omega)
  have HL := xl_len ns 8
  clear hi hz0 hz1 hz2 h
  obtain ⟨j, hj, F, hx⟩ := fk_xl_some hk hns
  have hfk := Lib.hid F
  obtain ⟨b, off, ha, d0, d1, d2, d3⟩ := (HK.out.below ((Below.refl _ w).alloc (Nat.le_refl _) (.cells #[.int .i64 k, .int .i64 th, .int .i64 ep, .int .i64 (kp now tMost)] 36))).get hj
  rw [hx] at d0 d1 d2 d3
  simp only at d0 d1 d2 d3
  subst ha
  clear hx F
  have hne0 := deq_f (a := e0) (b := ep) (by omega)
  go_enter Try.func8, Try.ntmps8
  go_wp2_with fail
  refine (rtick_any _ _).mono ?_; rintro e w' ⟨rfl, rfl⟩
  go_wp2_with fail
  refine (rfind_any _ _ cap (xl ns 8) k _ (HK.out.below ((Below.refl _ w).alloc (Nat.le_refl _) _)) rfl (by omega)).mono ?_; rintro e w' ⟨rfl, rfl⟩
  rw [hfk.out]
  go_wp2_with fail
  have X0 := Lib.hid (Bk.new w 36 #[.int .i64 k, .int .i64 th, .int .i64 ep, .int .i64 (kp now tMost)])
  have B0 := Lib.hid ((Below.refl w.heap.size w).alloc (Nat.le_refl _) (.cells #[.int .i64 k, .int .i64 th, .int .i64 ep, .int .i64 (kp now tMost)] 36))
  clear d0 d1 d2 d3 hfk hne0
  go_loopw [14, 15] (fun v i wr => ∃ m : Nat, m ≤ 8 ∧ i = .int .i64 m ∧ wr.ownsRow (w.heap.size + 1) 36 4 v (xl (upd ns k (some (th, ep, kp now tMost))) m).length ((xl (upd ns k (some (th, ep, kp now tMost))) m).flatMap kl) ∧ Bk wr w.heap.size 36 #[.int .i64 k, .int .i64 th, .int .i64 ep, .int .i64 (kp now tMost)] ∧ Below w.heap.size w wr) (fun _ i _ => 8 - (intOf i).toNat)
  case atStart => exact ⟨0, by decide, rfl, World.ownsRow_nil _ _ _ _, X0.out, B0.out⟩
  case round =>
    obtain ⟨m, hm, rfl, hown, hx, hb⟩ := hrel
    have HO := Lib.hid hown
    have HX := Lib.hid hx
    have HB := Lib.hid hb
    have hlen := xl_len (upd ns k (some (th, ep, kp now tMost))) m
    clear hown hx hb X0 B0
    by_cases hlt : m < 8
    · by_cases hmk : m = k
      · subst hmk
        have E := Lib.hid (xl_some (upd_same ns m (some (th, ep, kp now tMost))))
        have c0 := HX.out.cell 0
        have c1 := HX.out.cell 1
        have c2 := HX.out.cell 2
        have c3 := HX.out.cell 3
        go_wp2_with fail
        refine (rfind_any _ _ cap (xl ns 8) m _ (HK.out.below HB.out) rfl (by omega)).mono ?_; rintro e w' ⟨rfl, rfl⟩
        go_wp2_with (at_builtin; refine wpList_append_own _ rfl _ _ 28 rfl (w.heap.size + 1) 36 i0 (.agg #[.int .i64 0, .int .i64 0, .int .i64 0, .int .i64 0]) 4 32 Try.underlying28 hI.out.1 hI.out.2.1 hI.out.2.2.1 hI.out.2.2.2 rfl (by decide) _ _ _ rfl (HO.out.alloc _) ⟨wr.heap.size, 0, none⟩ 1 1 [.int .i64 m, .int .i64 th, .int .i64 ep, .int .i64 (kp now tMost)] rfl rfl ?_ ?_ ?_ ?_ ?_ ?_)
        · exact news_all (Bk.new wr 36 #[.int .i64 m, .int .i64 th, .int .i64 ep, .int .i64 (kp now tMost)])
        · intro u hu
          simp at hu
          rcases hu with rfl | rfl | rfl | rfl <;> rfl
        · unfold maxLen; omega
        · omega
        · have := HX.out.lt; simp; omega
        intro v' w2 hown' hgr _
        have HB2 := Lib.hid (show Below w.heap.size w w2 from (HB.out.alloc HB.out.size _).grown hgr (by have := HB.out.size; simp; omega) (fun j hj => by have := (HO.out.lt j hj).1; omega))
        have HX2 := Lib.hid ((HX.out.below ((Below.refl _ wr).alloc (Nat.le_refl _) (.cells #[.int .i64 m, .int .i64 th, .int .i64 ep, .int .i64 (kp now tMost)] 36))).grown hgr (fun hc => by have := (HO.out.lt _ hc.symm).1; omega))
        have hown2 := Lib.hid hown'
        clear hown' hgr
        go_wp2_with fail
        go_roundw
        case rel => exact ⟨m + 1, by omega, by go_num, by rw [E.out, List.length_append, List.flatMap_append]; exact hown2.out, HX2.out, HB2.out⟩
        case measure => simp [intOf]; omega
      · have hne := deq_f (a := (m : Int)) (b := (k : Int)) (by omega)
        rcases hnm : ns m with _ | ⟨t, e, a'⟩
        · have E := Lib.hid (xl_none (ns := upd ns k (some (th, ep, kp now tMost))) (k := m) (by rw [upd_other _ _ _ hmk]; exact hnm))
          have F := Lib.hid (fk_xl_none hnm)
          clear hnm hmk
          go_wp2_with fail
          refine (rfind_any _ _ cap (xl ns 8) m _ (HK.out.below HB.out) rfl (by omega)).mono ?_; rintro e w' ⟨rfl, rfl⟩
          rw [F.out]
          go_wp2_with fail
          go_roundw
          case rel => exact ⟨m + 1, by omega, by go_num, by rw [E.out]; exact HO.out, HX.out, HB.out⟩
          case measure => simp [intOf]; omega
        · have E := Lib.hid (xl_some (ns := upd ns k (some (th, ep, kp now tMost))) (k := m) (by rw [upd_other _ _ _ hmk]; exact hnm))
          obtain ⟨j, hj, F, hx⟩ := fk_xl_some hlt hnm
          have F := Lib.hid F
          obtain ⟨b, off, ha, c0, c1, c2, c3⟩ := (HK.out.below HB.out).get hj
          rw [hx] at c0 c1 c2 c3
          simp only at c0 c1 c2 c3
          first
            | subst ha
            | (simp only [Option.some.injEq, Addr.mk.injEq, and_true] at ha
               obtain ⟨rfl, rfl⟩ := ha)
          clear hnm hmk hx
          go_wp2_with fail
          refine (rfind_any _ _ cap (xl ns 8) m _ (HK.out.below HB.out) rfl (by omega)).mono ?_; rintro e' w' ⟨rfl, rfl⟩
          rw [F.out]
          go_wp2_with (at_builtin; refine wpList_append_own _ rfl _ _ 28 rfl (w.heap.size + 1) 36 i0 (.agg #[.int .i64 0, .int .i64 0, .int .i64 0, .int .i64 0]) 4 32 Try.underlying28 hI.out.1 hI.out.2.1 hI.out.2.2.1 hI.out.2.2.2 rfl (by decide) _ _ _ rfl (HO.out.alloc _) ⟨wr.heap.size, 0, none⟩ 1 1 [.int .i64 m, .int .i64 t, .int .i64 e, .int .i64 a'] rfl rfl ?_ ?_ ?_ ?_ ?_ ?_)
          · exact news_all (Bk.new wr 36 #[.int .i64 m, .int .i64 t, .int .i64 e, .int .i64 a'])
          · intro u hu
            simp at hu
            rcases hu with rfl | rfl | rfl | rfl <;> rfl
          · unfold maxLen; omega
          · omega
          · have := HX.out.lt; simp; omega
          intro v' w2 hown' hgr _
          have HB2 := Lib.hid (show Below w.heap.size w w2 from (HB.out.alloc HB.out.size _).grown hgr (by have := HB.out.size; simp; omega) (fun j hj => by have := (HO.out.lt j hj).1; omega))
          have HX2 := Lib.hid ((HX.out.below ((Below.refl _ wr).alloc (Nat.le_refl _) (.cells #[.int .i64 m, .int .i64 t, .int .i64 e, .int .i64 a'] 36))).grown hgr (fun hc => by have := (HO.out.lt _ hc.symm).1; omega))
          have hown2 := Lib.hid hown'
          clear hown' hgr
          go_wp2_with fail
          go_roundw
          case rel => exact ⟨m + 1, by omega, by go_num, by rw [E.out, List.length_append, List.flatMap_append]; exact hown2.out, HX2.out, HB2.out⟩
          case measure => simp [intOf]; omega
    · obtain rfl : m = 8 := by omega
      go_wp2_with fail
      go_ret2
      obtain ⟨a2, cap2, rfl, hr, hbl⟩ := own_row2 HO.out
      exact ⟨a2, cap2, rfl, hr, HB.out, fun x hx => Nat.le_of_succ_le (hbl x hx)⟩
set_option maxHeartbeats 2000000 in
theorem rlearn_same (a : Option Addr) (n cap : Nat) (ns : Nat → Nt) (k : Nat) (hk : k < 8) (th ep now t0 a0 : Int) (w : World) (h : Kns w a (xl ns 8)) (hn : (xl ns 8).length = n) (hns : ns k = some (t0, ep, a0)) :
    Calls Try.prog 8 #[.slice a n cap, .int .i64 k, .int .i64 th, .int .i64 ep, .int .i64 now] w (RetLearn w (xl (upd ns k (some (t0, ep, kp now tMost))) 8) true) := by
  subst hn
  obtain ⟨i0, hi, hz0, hz1, hz2⟩ := info_parts info_known
  have hI := Lib.hid (And.intro hi (And.intro hz0 (And.intro hz1 hz2)))
  have HK := Lib.hid h
  have hk0 := dlt_f (a := (k : Int)) (b := 0) (by omega)
  have hk7 := dlt_f (a := 7) (b := (k : Int)) (by omega)
  have HL := xl_len ns 8
  clear hi hz0 hz1 hz2 h
  obtain ⟨j, hj, F, hx⟩ := fk_xl_some hk hns
  have hfk := Lib.hid F
  obtain ⟨b, off, ha, d0, d1, d2, d3⟩ := (HK.out.below ((Below.refl _ w).alloc (Nat.le_refl _) (.cells #[.int .i64 k, .int .i64 th, .int .i64 ep, .int .i64 (kp now tMost)] 36))).get hj
  rw [hx] at d0 d1 d2 d3
  simp only at d0 d1 d2 d3
  subst ha
  clear hx F
  go_enter Try.func8, Try.ntmps8
  go_wp2_with fail
  refine (rtick_any _ _).mono ?_; rintro e w' ⟨rfl, rfl⟩
  go_wp2_with fail
  refine (rfind_any _ _ cap (xl ns 8) k _ (HK.out.below ((Below.refl _ w).alloc (Nat.le_refl _) _)) rfl (by omega)).mono ?_; rintro e w' ⟨rfl, rfl⟩
  rw [hfk.out]
  go_wp2_with fail
  have X0 := Lib.hid (Bk.new w 36 #[.int .i64 k, .int .i64 t0, .int .i64 ep, .int .i64 (kp now tMost)])
  have B0 := Lib.hid ((Below.refl w.heap.size w).alloc (Nat.le_refl _) (.cells #[.int .i64 k, .int .i64 t0, .int .i64 ep, .int .i64 (kp now tMost)] 36))
  clear d0 d1 d2 d3 hfk
  go_loopw [14, 15] (fun v i wr => ∃ m : Nat, m ≤ 8 ∧ i = .int .i64 m ∧ wr.ownsRow (w.heap.size + 1) 36 4 v (xl (upd ns k (some (t0, ep, kp now tMost))) m).length ((xl (upd ns k (some (t0, ep, kp now tMost))) m).flatMap kl) ∧ Bk wr w.heap.size 36 #[.int .i64 k, .int .i64 t0, .int .i64 ep, .int .i64 (kp now tMost)] ∧ Below w.heap.size w wr) (fun _ i _ => 8 - (intOf i).toNat)
  case atStart => exact ⟨0, by decide, rfl, World.ownsRow_nil _ _ _ _, X0.out, B0.out⟩
  case round =>
    obtain ⟨m, hm, rfl, hown, hx, hb⟩ := hrel
    have HO := Lib.hid hown
    have HX := Lib.hid hx
    have HB := Lib.hid hb
    have hlen := xl_len (upd ns k (some (t0, ep, kp now tMost))) m
    clear hown hx hb X0 B0
    by_cases hlt : m < 8
    · by_cases hmk : m = k
      · subst hmk
        have E := Lib.hid (xl_some (upd_same ns m (some (t0, ep, kp now tMost))))
        have c0 := HX.out.cell 0
        have c1 := HX.out.cell 1
        have c2 := HX.out.cell 2
        have c3 := HX.out.cell 3
        go_wp2_with fail
        refine (rfind_any _ _ cap (xl ns 8) m _ (HK.out.below HB.out) rfl (by omega)).mono ?_; rintro e w' ⟨rfl, rfl⟩
        go_wp2_with (at_builtin; refine wpList_append_own _ rfl _ _ 28 rfl (w.heap.size + 1) 36 i0 (.agg #[.int .i64 0, .int .i64 0, .int .i64 0, .int .i64 0]) 4 32 Try.underlying28 hI.out.1 hI.out.2.1 hI.out.2.2.1 hI.out.2.2.2 rfl (by decide) _ _ _ rfl (HO.out.alloc _) ⟨wr.heap.size, 0, none⟩ 1 1 [.int .i64 m, .int .i64 t0, .int .i64 ep, .int .i64 (kp now tMost)] rfl rfl ?_ ?_ ?_ ?_ ?_ ?_)
        · exact news_all (Bk.new wr 36 #[.int .i64 m, .int .i64 t0, .int .i64 ep, .int .i64 (kp now tMost)])
        · intro u hu
          simp at hu
          rcases hu with rfl | rfl | rfl | rfl <;> rfl
        · unfold maxLen; omega
        · omega
        · have := HX.out.lt; simp; omega
        intro v' w2 hown' hgr _
        have HB2 := Lib.hid (show Below w.heap.size w w2 from (HB.out.alloc HB.out.size _).grown hgr (by have := HB.out.size; simp; omega) (fun j hj => by have := (HO.out.lt j hj).1; omega))
        have HX2 := Lib.hid ((HX.out.below ((Below.refl _ wr).alloc (Nat.le_refl _) (.cells #[.int .i64 m, .int .i64 t0, .int .i64 ep, .int .i64 (kp now tMost)] 36))).grown hgr (fun hc => by have := (HO.out.lt _ hc.symm).1; omega))
        have hown2 := Lib.hid hown'
        clear hown' hgr
        go_wp2_with fail
        go_roundw
        case rel => exact ⟨m + 1, by omega, by go_num, by rw [E.out, List.length_append, List.flatMap_append]; exact hown2.out, HX2.out, HB2.out⟩
        case measure => simp [intOf]; omega
      · have hne := deq_f (a := (m : Int)) (b := (k : Int)) (by omega)
        rcases hnm : ns m with _ | ⟨t, e, a'⟩
        · have E := Lib.hid (xl_none (ns := upd ns k (some (t0, ep, kp now tMost))) (k := m) (by rw [upd_other _ _ _ hmk]; exact hnm))
          have F := Lib.hid (fk_xl_none hnm)
          clear hnm hmk
          go_wp2_with fail
          refine (rfind_any _ _ cap (xl ns 8) m _ (HK.out.below HB.out) rfl (by omega)).mono ?_; rintro e w' ⟨rfl, rfl⟩
          rw [F.out]
          go_wp2_with fail
          go_roundw
          case rel => exact ⟨m + 1, by omega, by go_num, by rw [E.out]; exact HO.out, HX.out, HB.out⟩
          case measure => simp [intOf]; omega
        · have E := Lib.hid (xl_some (ns := upd ns k (some (t0, ep, kp now tMost))) (k := m) (by rw [upd_other _ _ _ hmk]; exact hnm))
          obtain ⟨j, hj, F, hx⟩ := fk_xl_some hlt hnm
          have F := Lib.hid F
          obtain ⟨b, off, ha, c0, c1, c2, c3⟩ := (HK.out.below HB.out).get hj
          rw [hx] at c0 c1 c2 c3
          simp only at c0 c1 c2 c3
          first
            | subst ha
            | (simp only [Option.some.injEq, Addr.mk.injEq, and_true] at ha
               obtain ⟨rfl, rfl⟩ := ha)
          clear hnm hmk hx
          go_wp2_with fail
          refine (rfind_any _ _ cap (xl ns 8) m _ (HK.out.below HB.out) rfl (by omega)).mono ?_; rintro e' w' ⟨rfl, rfl⟩
          rw [F.out]
          go_wp2_with (at_builtin; refine wpList_append_own _ rfl _ _ 28 rfl (w.heap.size + 1) 36 i0 (.agg #[.int .i64 0, .int .i64 0, .int .i64 0, .int .i64 0]) 4 32 Try.underlying28 hI.out.1 hI.out.2.1 hI.out.2.2.1 hI.out.2.2.2 rfl (by decide) _ _ _ rfl (HO.out.alloc _) ⟨wr.heap.size, 0, none⟩ 1 1 [.int .i64 m, .int .i64 t, .int .i64 e, .int .i64 a'] rfl rfl ?_ ?_ ?_ ?_ ?_ ?_)
          · exact news_all (Bk.new wr 36 #[.int .i64 m, .int .i64 t, .int .i64 e, .int .i64 a'])
          · intro u hu
            simp at hu
            rcases hu with rfl | rfl | rfl | rfl <;> rfl
          · unfold maxLen; omega
          · omega
          · have := HX.out.lt; simp; omega
          intro v' w2 hown' hgr _
          have HB2 := Lib.hid (show Below w.heap.size w w2 from (HB.out.alloc HB.out.size _).grown hgr (by have := HB.out.size; simp; omega) (fun j hj => by have := (HO.out.lt j hj).1; omega))
          have HX2 := Lib.hid ((HX.out.below ((Below.refl _ wr).alloc (Nat.le_refl _) (.cells #[.int .i64 m, .int .i64 t, .int .i64 e, .int .i64 a'] 36))).grown hgr (fun hc => by have := (HO.out.lt _ hc.symm).1; omega))
          have hown2 := Lib.hid hown'
          clear hown' hgr
          go_wp2_with fail
          go_roundw
          case rel => exact ⟨m + 1, by omega, by go_num, by rw [E.out, List.length_append, List.flatMap_append]; exact hown2.out, HX2.out, HB2.out⟩
          case measure => simp [intOf]; omega
    · obtain rfl : m = 8 := by omega
      go_wp2_with fail
      go_ret2
      obtain ⟨a2, cap2, rfl, hr, hbl⟩ := own_row2 HO.out
      exact ⟨a2, cap2, rfl, hr, HB.out, fun x hx => Nat.le_of_succ_le (hbl x hx)⟩
def RetLearn2 (w : World) (a : Option Addr) (l : List Kq) (b : Bool) (e : Ending) (w' : World) : Prop :=
  ∃ a' cap', e = .returned (.tuple #[.slice a' l.length cap', .bool b]) ∧ Kns w' a' l ∧ Below w.heap.size w w' ∧ (a' = a ∨ ∀ x, a' = some x → w.heap.size ≤ x.block)
theorem rlearn_any (a : Option Addr) (n cap : Nat) (ns : Nat → Nt) (to th ep now : Int) (w : World) (h : Kns w a (xl ns 8)) (hn : (xl ns 8).length = n) :
    Calls Try.prog 8 #[.slice a n cap, .int .i64 to, .int .i64 th, .int .i64 ep, .int .i64 now] w (RetLearn2 w a (xl (lrnN ns to th ep now) 8) (lrnB ns to ep)) := by
  by_cases hto : 0 ≤ to ∧ to < 8
  · obtain ⟨k, rfl⟩ : ∃ k : Nat, to = k := ⟨to.toNat, by omega⟩
    have hk : k < 8 := by omega
    unfold lrnB lrnN
    rw [if_pos hto, if_pos hto, Int.toNat_natCast]
    rcases hns : ns k with _ | ⟨t0, e0, a0⟩
    · refine (rlearn_new a n cap ns k hk th ep now w h hn hns).mono ?_
      rintro e w' ⟨a', cap', rfl, h1, h2, h3⟩
      exact ⟨a', cap', rfl, h1, h2, Or.inr h3⟩
    · rcases (by omega : ep < e0 ∨ e0 = ep ∨ e0 < ep) with he | he | he
      · refine (rlearn_old a n cap ns k hk th ep now t0 e0 a0 he w h hn hns).mono ?_
        rintro e w' ⟨rfl, hb⟩
        rw [show lrn (some (t0, e0, a0)) th ep now = ns k by rw [hns]; simp only [lrn]; rw [if_pos he], upd_id]
        subst hn
        exact ⟨a, cap, by rw [show lok (some (t0, e0, a0)) ep = false by simp [lok]; omega], h.below hb, hb, Or.inl rfl⟩
      · subst he
        refine (rlearn_same a n cap ns k hk th e0 now t0 a0 w h hn hns).mono ?_
        rintro e w' ⟨a', cap', rfl, h1, h2, h3⟩
        rw [show lrn (some (t0, e0, a0)) th e0 now = some (t0, e0, kp now tMost) by unfold lrn; dsimp only; rw [if_neg (by omega), if_pos rfl]]
        exact ⟨a', cap', by rw [show lok (some (t0, e0, a0)) e0 = true by simp [lok]], h1, h2, Or.inr h3⟩
      · refine (rlearn_up a n cap ns k hk th ep now t0 e0 a0 he w h hn hns).mono ?_
        rintro e w' ⟨a', cap', rfl, h1, h2, h3⟩
        rw [show lrn (some (t0, e0, a0)) th ep now = some (th, ep, kp now tMost) by simp only [lrn]; rw [if_neg (by omega), if_neg (by omega)]]
        exact ⟨a', cap', by rw [show lok (some (t0, e0, a0)) ep = true by simp [lok]; omega], h1, h2, Or.inr h3⟩
  · unfold lrnB lrnN
    rw [if_neg hto, if_neg hto]
    refine (rlearn_far a n cap ns to th ep now (by omega) w).mono ?_
    rintro e w' ⟨rfl, rfl⟩
    subst hn
    exact ⟨a, cap, rfl, h, Below.refl _ _, Or.inl rfl⟩
end Go.Proofs.Ytbfimnlffjkokaa
