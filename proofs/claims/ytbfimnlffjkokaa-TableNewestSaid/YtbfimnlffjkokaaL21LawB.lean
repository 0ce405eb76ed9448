/-
  The walk of the law TableNewest of layer 21.
-/
import Derived.Test.YtbfimnlffjkokaaL21Law
import Derived.Test.YtbfimnlffjkokaaFld
namespace Go.Proofs.Ytbfimnlffjkokaa
open Go.RowKit Bd Tb
/-- What a table knows behind something that was told. -/
def lrnN (ns : Nat → Nt) (to th ep now : Int) : Nat → Nt := if 0 ≤ to ∧ to < 8 then upd ns to.toNat (lrn (ns to.toNat) th ep now) else ns
def lrnB (ns : Nat → Nt) (to ep : Int) : Bool := if 0 ≤ to ∧ to < 8 then lok (ns to.toNat) ep else false
theorem upd_id (ns : Nat → Nt) (k : Nat) : upd ns k (ns k) = ns := by
  funext i; unfold upd; split
  · subst_vars; rfl
  · rfl
theorem tlearn_far {g : Nat} {ttl : Int} {ns : Nat → Nt} (to th ep now : Int) (hto : to < 0 ∨ 8 ≤ to) (w : World) (h : Tbl w g true ttl ns) :
    Calls Try.prog 9 #[.pointer (some ⟨g, 0, none⟩), .int .i64 to, .int .i64 th, .int .i64 ep, .int .i64 now] w fun e w' => e = .returned (.bool false) ∧ w = w' := by
  have hd : (decide (to < 0) = true) ∨ (decide (to < 0) = false ∧ decide (8 ≤ to) = true) := by
    rcases (by omega : to < 0 ∨ 0 ≤ to) with h | h
    · exact Or.inl (dlt_t h)
    · exact Or.inr ⟨dlt_f h, dle_t (by omega)⟩
  clear hto
  rcases hd with h1 | ⟨h1, h2⟩
  all_goals
    go_enter Try.func9, Try.ntmps9
    go_wp2_with fail
    refine (tnone_any _ h.c0).mono ?_; rintro e w' ⟨rfl, rfl⟩
    go_wp2_with fail
    go_ret
    exact ⟨rfl, rfl⟩
theorem tlearn_any {g : Nat} {ttl : Int} {ns : Nat → Nt} (to th ep now : Int) (w : World) (h : Tbl w g true ttl ns) :
    Calls Try.prog 9 #[.pointer (some ⟨g, 0, none⟩), .int .i64 to, .int .i64 th, .int .i64 ep, .int .i64 now] w fun e w' => e = .returned (.bool (lrnB ns to ep)) ∧ Tbl w' g true ttl (lrnN ns to th ep now) ∧ w.grownBy w' (some g) := by
  by_cases hto : 0 ≤ to ∧ to < 8
  · obtain ⟨k, rfl⟩ : ∃ k : Nat, to = k := ⟨to.toNat, by omega⟩
    have hk : k < 8 := by omega
    unfold lrnB lrnN
    rw [if_pos hto, if_pos hto, Int.toNat_natCast]
    rcases hn : ns k with _ | ⟨t0, e0, a0⟩
    · exact tlearn_new k hk th ep now w h hn
    · rcases (by omega : ep < e0 ∨ e0 = ep ∨ e0 < ep) with he | he | he
      · refine (tlearn_old k hk th ep now t0 e0 a0 he w h hn).mono ?_
        rintro e w' ⟨rfl, hb⟩
        refine ⟨ret_bool (by simp [lok]; omega), ?_, only_below hb _⟩
        rw [show lrn (some (t0, e0, a0)) th ep now = ns k by rw [hn]; simp only [lrn]; rw [if_pos he], upd_id]
        exact h.below hb
      · subst he
        refine (tlearn_same k hk th e0 now t0 a0 w h hn).mono ?_
        rintro e w' ⟨rfl, ht, ho⟩
        refine ⟨ret_bool (by simp [lok]), ?_, ho⟩
        rw [show lrn (some (t0, e0, a0)) th e0 now = some (t0, e0, kp now tMost) by unfold lrn; dsimp only; rw [if_neg (by omega), if_pos rfl]]
        exact ht
      · refine (tlearn_up k hk th ep now t0 e0 a0 he w h hn).mono ?_
        rintro e w' ⟨rfl, ht, ho⟩
        refine ⟨ret_bool (by simp [lok]; omega), ?_, ho⟩
        rw [show lrn (some (t0, e0, a0)) th ep now = some (th, ep, kp now tMost) by simp only [lrn]; rw [if_neg (by omega), if_neg (by omega)]]
        exact ht
  · unfold lrnB lrnN
    rw [if_neg hto, if_neg hto]
    refine (tlearn_far to th ep now (by omega) w h).mono ?_
    rintro e w' ⟨rfl, rfl⟩
    exact ⟨rfl, h, only_refl _ _⟩
/-- The newest that was told of one, among the first k: epoch and threshold. -/
def sc (f : Nat → Nat → Int) (to : Int) : Nat → Option (Int × Int)
  | 0 => none
  | k + 1 => if f k 1 = to ∧ 0 ≤ to ∧ to < 8 ∧ (∀ x ∈ sc f to k, x.1 < f k 3) then some (f k 3, f k 2) else sc f to k
def nsN (f : Nat → Nat → Int) : Nat → Nat → Nt
  | 0 => fun _ => none
  | k + 1 => lrnN (nsN f k) (f k 1) (f k 2) (f k 3) 5
theorem sc_far (f : Nat → Nat → Int) (to : Int) (h : ¬ (0 ≤ to ∧ to < 8)) (k : Nat) : sc f to k = none := by
  induction k with
  | zero => rfl
  | succ k ih => rw [sc, if_neg (by rintro ⟨_, a, b, _⟩; exact h ⟨a, b⟩), ih]
theorem nsN_sc (f : Nat → Nat → Int) (i : Nat) (hi : i < 8) (k : Nat) : nsN f k i = (sc f i k).map fun x => (x.2, x.1, 5) := by
  induction k with
  | zero => rfl
  | succ k ih =>
    have k5 : kp 5 tMost = 5 := by decide
    rw [nsN, lrnN]
    by_cases ht : f k 1 = i
    · rw [if_pos (by omega), ht, Int.toNat_natCast, upd_same, ih, sc]
      rcases hq : sc f i k with _ | ⟨e0, t0⟩
      · rw [if_pos ⟨ht, by omega, by omega, by simp⟩]
        simp [lrn, k5]
      · simp only [Option.map_some, lrn, Option.mem_def, Option.some.injEq, forall_eq', k5]
        by_cases h1 : f k 3 < e0
        · rw [if_pos h1, if_neg (by omega)]; rfl
        · by_cases h2 : e0 = f k 3
          · rw [if_neg h1, if_pos h2, if_neg (by omega), h2]; rfl
          · rw [if_neg h1, if_neg h2, if_pos (by omega)]; rfl
    · have es : sc f i (k + 1) = sc f i k := by rw [sc, if_neg (by rintro ⟨a, _⟩; exact ht a)]
      rw [es, ← ih]
      by_cases hr : 0 ≤ f k 1 ∧ f k 1 < 8
      · rw [if_pos hr, upd_other _ _ _ (by omega)]
      · rw [if_neg hr]
theorem gq_sc (f : Nat → Nat → Int) (to : Int) (k : Nat) : gq (nsN f k) 0 to 5 = (sc f to k).map fun x => (to, x.2, x.1, 5) := by
  have l5 : leftT 5 5 ≤ 0 := by decide
  unfold gq
  by_cases hto : 0 ≤ to ∧ to < 8
  · obtain ⟨i, rfl⟩ : ∃ i : Nat, to = i := ⟨to.toNat, by omega⟩
    rw [if_pos hto, Int.toNat_natCast, nsN_sc f i (by omega)]
    rcases sc f i k with _ | ⟨e0, t0⟩
    · rfl
    · simp only [Option.map_some]
      rw [if_pos l5]
  · rw [if_neg hto, sc_far f to hto]; rfl
theorem sc_take (f : Nat → Nat → Int) (to : Int) (k : Nat) (h : f k 1 = to ∧ 0 ≤ to ∧ to < 8 ∧ (∀ x ∈ sc f to k, x.1 < f k 3)) : sc f to (k + 1) = some (f k 3, f k 2) := by rw [sc, if_pos h]
theorem sc_keep (f : Nat → Nat → Int) (to : Int) (k : Nat) (h : ¬ (f k 1 = to ∧ 0 ≤ to ∧ to < 8 ∧ (∀ x ∈ sc f to k, x.1 < f k 3))) : sc f to (k + 1) = sc f to k := by rw [sc, if_neg h]
/-- The three variables of the inner loop. -/
def scE : Option (Int × Int) → Int | none => 0 | some x => x.1
def scT : Option (Int × Int) → Int | none => 0 | some x => x.2
/-- What is known of all that TableNewest holds. -/
structure Nw21 (w0 : World) (ns : Nat → Nt) (W : World) : Prop where
  bl : Below w0.heap.size w0 W
  t : Tbl W w0.heap.size true 0 ns
section
variable {w0 W W' : World} {ns ns' : Nat → Nt}
theorem Nw21.below (h : Nw21 w0 ns W) (k : Below W.heap.size W W') : Nw21 w0 ns W' := ⟨h.bl.trans (k.mono h.bl.size), h.t.below k⟩
theorem Nw21.on (h : Nw21 w0 ns W) (t : Tbl W' w0.heap.size true 0 ns') (o : W.grownBy W' (some w0.heap.size)) : Nw21 w0 ns' W' := ⟨below_only h.bl o h.bl.size (Nat.le_refl _), t⟩
theorem Nw21.drewN (h : Nw21 w0 ns W) (n : Nat) : Nw21 w0 ns (W.drewN n) := h.below (bl_drewN (Below.refl _ _) n)
theorem Nw21.alloc (h : Nw21 w0 ns W) (o : Obj) : Nw21 w0 ns (W.alloc o) := h.below ((Below.refl _ _).alloc (Nat.le_refl _) o)
end
set_option maxRecDepth 100000 in
set_option maxHeartbeats 4000000 in
theorem w_TableNewest (w : World) (a : Option Addr) (len cap : Nat) (f : Nat → Nat → Int) (hF : Fld w a len 6 f) (hl : len ≤ maxLen) (_ : ∀ i j, i < len → j < 6 → (Lit.int .i64 (f i j)).wf = true) :
    Calls Try.prog 4 #[.slice a len cap] w fun e w' => e = .returned (.bool true) ∧ Below w.heap.size w w' := by
  unfold maxLen at hl
  have HF := Lib.hid hF
  clear hF
  by_cases hg : 100 < len
  · have hd := dlt_t (a := 100) (b := (len : Int)) (by omega)
    go_enter Try.func4, Try.ntmps4
    go_wp2_with fail
    refine (awake21 _).mono ?_; rintro e w1 ⟨rfl, b1⟩
    go_wp2_with fail
    go_ret
    exact ⟨rfl, b1⟩
  · have hd2 := dlt_f (a := 100) (b := (len : Int)) (by omega)
    go_enter Try.func4, Try.ntmps4
    go_wp2_with fail
    refine (tnew_ok 0 (by decide) (by decide) _).mono ?_; rintro e w1 ⟨rfl, t1, b1⟩
    have A0 := Lib.hid (show Nw21 w (fun _ => none) w1 from ⟨b1, t1⟩)
    clear t1 b1
    go_wp2_with fail
    go_loopw [5] (fun i wr => ∃ k : Nat, k ≤ len ∧ i = .int .i64 k ∧ Nw21 w (nsN f k) wr) (fun i _ => len - (intOf i).toNat)
    case atStart => exact ⟨0, Nat.zero_le _, rfl, A0.out⟩
    case round =>
      obtain ⟨k, hk, rfl, hA⟩ := hrel
      have HA := Lib.hid hA
      clear A0 hA
      by_cases hlt : k < len
      · obtain ⟨b, off, ha, hc⟩ := (HF.out.below HA.out.bl).get hlt
        subst ha
        have c0 := hc 0 (by decide)
        have c1 := hc 1 (by decide)
        have c2 := hc 2 (by decide)
        have c3 := hc 3 (by decide)
        have c4 := hc 4 (by decide)
        have c5 := hc 5 (by decide)
        clear hc
        simp only [Nat.add_zero] at c0
        generalize f k 0 = x0 at c0
        generalize f k 4 = x4 at c4
        generalize f k 5 = x5 at c5
        go_wp2_with fail
        refine (tlearn_any (f k 1) (f k 2) (f k 3) 5 _ (HA.out.alloc _).t).mono ?_; rintro e w2 ⟨rfl, t2, o2⟩
        have H2 := Lib.hid ((HA.out.alloc _).on t2 o2)
        clear t2 o2 c0 c1 c2 c3 c4 c5
        go_wp2_with fail
        go_roundw
        case rel => exact ⟨k + 1, by omega, by go_num, H2.out⟩
        case measure => simp [intOf]; omega
      · obtain rfl : k = len := by omega
        go_wp2_with fail
        go_loopw [7] (fun i wr => ∃ m : Nat, m ≤ 10 ∧ i = .int .i64 ((m : Int) - 1) ∧ Nw21 w (nsN f k) wr) (fun i _ => (9 - intOf i).toNat)
        case atStart => exact ⟨0, by decide, rfl, HA.out⟩
        case round =>
          obtain ⟨m, hm, rfl, hB⟩ := hrel
          have HB := Lib.hid hB
          clear HA hB
          obtain ⟨wo, rfl⟩ : ∃ wo : World, wo = wr := ⟨_, rfl⟩
          by_cases hm2 : m < 10
          · have hto : ∃ to : Int, (m : Int) - 1 = to := ⟨_, rfl⟩
            obtain ⟨to, hto⟩ := hto
            have hto1 : -1 ≤ to := by omega
            have hto2 : to < 9 := by omega
            rw [hto]
            have HTO := Lib.hid hto
            clear hto
            go_wp2_with fail
            go_loopw [8, 9, 10, 11] (fun b t s i wr => ∃ j : Nat, j ≤ k ∧ i = .int .i64 j ∧ b = .int .i64 (scE (sc f to j)) ∧ t = .int .i64 (scT (sc f to j)) ∧ s = .bool (sc f to j).isSome ∧ Nw21 w (nsN f k) wr) (fun _ _ _ i _ => k - (intOf i).toNat)
            case atStart => exact ⟨0, Nat.zero_le _, rfl, rfl, rfl, rfl, HB.out⟩
            case round =>
              obtain ⟨j, hj, rfl, rfl, rfl, rfl, hC⟩ := hrel
              have HC := Lib.hid hC
              clear hC HB
              by_cases hj2 : j < k
              · obtain ⟨b, off, ha, hc⟩ := (HF.out.below HC.out.bl).get hj2
                subst ha
                have c1 := hc 1 (by decide)
                have c2 := hc 2 (by decide)
                have c3 := hc 3 (by decide)
                clear hc
                have ST := Lib.hid (sc_take f to j)
                have SK := Lib.hid (sc_keep f to j)
                rcases hq : sc f to j with _ | ⟨e0, t0⟩
                · rw [hq] at ST SK
                  simp only [scE, scT, Option.isSome]
                  by_cases h1 : f j 1 = to
                  · by_cases h2 : 0 ≤ to
                    · by_cases h3 : to < 8
                      · have E := Lib.hid (ST.out ⟨h1, h2, h3, by simp⟩)
                        clear ST SK hq
                        have h1 := deq_t h1
                        go_wp2_with fail
                        go_quiet (fail)
                        go_wp2_with fail
                        go_roundw
                        case rel => exact ⟨j + 1, by omega, by go_num, by rw [E.out]; try rfl, by rw [E.out]; try rfl, by rw [E.out]; try rfl, HC.out.drewN _⟩
                        case measure => simp [intOf]; omega
                      · have E := Lib.hid ((SK.out (by omega)).trans hq.symm)
                        have E2 := Lib.hid hq
                        clear ST SK hq
                        have h1 := deq_t h1
                        go_wp2_with fail
                        go_roundw
                        case rel => exact ⟨j + 1, by omega, by go_num, by rw [E.out, E2.out]; try rfl, by rw [E.out, E2.out]; try rfl, by rw [E.out, E2.out]; try rfl, HC.out⟩
                        case measure => simp [intOf]; omega
                    · have E := Lib.hid ((SK.out (by omega)).trans hq.symm)
                      have E2 := Lib.hid hq
                      clear ST SK hq
                      have h1 := deq_t h1
                      have h2 := dle_f (a := 0) (b := to) (by omega)
                      go_wp2_with fail
                      go_roundw
                      case rel => exact ⟨j + 1, by omega, by go_num, by rw [E.out, E2.out]; try rfl, by rw [E.out, E2.out]; try rfl, by rw [E.out, E2.out]; try rfl, HC.out⟩
                      case measure => simp [intOf]; omega
                  · have E := Lib.hid ((SK.out (by rintro ⟨a, _⟩; exact h1 a)).trans hq.symm)
                    have E2 := Lib.hid hq
                    clear ST SK hq
                    have h1 := deq_f h1
                    go_wp2_with fail
                    go_roundw
                    case rel => exact ⟨j + 1, by omega, by go_num, by rw [E.out, E2.out]; try rfl, by rw [E.out, E2.out]; try rfl, by rw [E.out, E2.out]; try rfl, HC.out⟩
                    case measure => simp [intOf]; omega
                · rw [hq] at ST SK
                  simp only [scE, scT, Option.isSome]
                  by_cases h1 : f j 1 = to ∧ 0 ≤ to ∧ to < 8
                  · obtain ⟨h1, h2, h3⟩ := h1
                    by_cases h4 : e0 < f j 3
                    · have E := Lib.hid (ST.out ⟨h1, h2, h3, by simpa using h4⟩)
                      clear ST SK hq
                      have h1 := deq_t h1
                      go_wp2_with fail
                      go_quiet (fail)
                      go_wp2_with fail
                      go_roundw
                      case rel => exact ⟨j + 1, by omega, by go_num, by rw [E.out]; try rfl, by rw [E.out]; try rfl, by rw [E.out]; try rfl, HC.out.drewN _⟩
                      case measure => simp [intOf]; omega
                    · have E := Lib.hid ((SK.out (by simp; omega)).trans hq.symm)
                      have E2 := Lib.hid hq
                      clear ST SK hq
                      have h1 := deq_t h1
                      have h4 := dlt_f (a := e0) (b := f j 3) (by omega)
                      go_wp2_with fail
                      go_roundw
                      case rel => exact ⟨j + 1, by omega, by go_num, by rw [E.out, E2.out]; try rfl, by rw [E.out, E2.out]; try rfl, by rw [E.out, E2.out]; try rfl, HC.out⟩
                      case measure => simp [intOf]; omega
                  · have E := Lib.hid ((SK.out (by rintro ⟨a, b, c, _⟩; exact h1 ⟨a, b, c⟩)).trans hq.symm)
                    have E2 := Lib.hid hq
                    clear ST SK hq
                    rcases (by omega : f j 1 ≠ to ∨ (f j 1 = to ∧ to < 0) ∨ (f j 1 = to ∧ 0 ≤ to ∧ 8 ≤ to)) with h1 | ⟨h1, h2⟩ | ⟨h1, h2, h3⟩
                    · have h1 := deq_f h1
                      go_wp2_with fail
                      go_roundw
                      case rel => exact ⟨j + 1, by omega, by go_num, by rw [E.out, E2.out]; try rfl, by rw [E.out, E2.out]; try rfl, by rw [E.out, E2.out]; try rfl, HC.out⟩
                      case measure => simp [intOf]; omega
                    · have h1 := deq_t h1
                      have h2 := dle_f (a := 0) (b := to) (by omega)
                      go_wp2_with fail
                      go_roundw
                      case rel => exact ⟨j + 1, by omega, by go_num, by rw [E.out, E2.out]; try rfl, by rw [E.out, E2.out]; try rfl, by rw [E.out, E2.out]; try rfl, HC.out⟩
                      case measure => simp [intOf]; omega
                    · have h1 := deq_t h1
                      go_wp2_with fail
                      go_roundw
                      case rel => exact ⟨j + 1, by omega, by go_num, by rw [E.out, E2.out]; try rfl, by rw [E.out, E2.out]; try rfl, by rw [E.out, E2.out]; try rfl, HC.out⟩
                      case measure => simp [intOf]; omega
              · obtain rfl : j = k := by omega
                have G := Lib.hid (gq_sc f to j)
                have GT := asks_tbl HC.out.t to 5 _ (Below.refl _ _)
                have GC := Lib.hid (fun (W : World) (h : Nw21 w (nsN f j) W) => tcuts_any to 200 5 W (asks_tbl h.t))
                rcases hq : sc f to j with _ | ⟨e0, t0⟩
                · rw [G.out, hq] at GT
                  have GC2 := Lib.hid (show ∀ (W : World), Nw21 w (nsN f j) W → Calls Try.prog 16 #[.pointer (some ⟨w.heap.size, 0, none⟩), .int .i64 to, .int .i64 200, .int .i64 5] W fun e w' => e = .returned (.bool false) ∧ Below W.heap.size W w' by
                    intro W h; have := GC.out W h; rw [G.out, hq] at this; exact this)
                  simp only [Option.map_none] at GT
                  rw [gv_none] at GT
                  change Calls _ _ _ _ fun e w' => e = .returned (.tuple #[_, .bool false]) ∧ _ at GT
                  have GT := Lib.hid GT
                  clear G GC hq
                  simp only [scE, scT, Option.isSome]
                  go_wp2_with fail
                  refine GT.out.mono ?_; rintro e w2 ⟨rfl, b2⟩
                  have H2 := Lib.hid (HC.out.below b2)
                  clear b2 HC
                  go_wp2_with fail
                  refine (GC2.out _ (H2.out.alloc _)).mono ?_; rintro e w3 ⟨rfl, b3⟩
                  have H3 := Lib.hid ((H2.out.alloc _).below b3)
                  clear b3 H2
                  go_wp2_with fail
                  go_roundw
                  case rel => exact ⟨m + 1, by omega, by have := HTO.out; rw [show ((m + 1 : Nat) : Int) - 1 = to + 1 by omega], H3.out⟩
                  case measure => have := HTO.out; simp [intOf]; omega
                · rw [G.out, hq] at GT
                  simp only [Option.map_some] at GT
                  rw [gv_some] at GT
                  change Calls _ _ _ _ fun e w' => e = .returned (.tuple #[_, .bool true]) ∧ _ at GT
                  have GT := Lib.hid GT
                  clear G GC hq
                  simp only [scE, scT, Option.isSome]
                  go_wp2_with fail
                  refine GT.out.mono ?_; rintro e w2 ⟨rfl, b2⟩
                  have H2 := Lib.hid (HC.out.below b2)
                  clear b2 HC
                  go_wp2_with fail
                  go_roundw
                  case rel => exact ⟨m + 1, by omega, by have := HTO.out; rw [show ((m + 1 : Nat) : Int) - 1 = to + 1 by omega], H2.out.alloc _⟩
                  case measure => have := HTO.out; simp [intOf]; omega
          · obtain rfl : m = 10 := by omega
            go_wp2_with fail
            go_wp2_with fail
            refine (awake21 _).mono ?_; rintro e w2 ⟨rfl, b2⟩
            have H2 := HB.out.bl.trans (b2.mono HB.out.bl.size)
            go_wp2_with fail
            go_ret
            exact ⟨rfl, H2⟩
end Go.Proofs.Ytbfimnlffjkokaa
