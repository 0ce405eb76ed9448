/-
  The contracts of New, Cuts, All and Clear of layer 21.
-/
import Derived.Test.YtbfimnlffjkokaaTabGet
import Derived.Laws.AppendOwn
import Derived.Test.YtbfimnlffjkokaaBks
namespace Go.Proofs.Ytbfimnlffjkokaa
open Go.RowKit Bd Tb
theorem rowAt_cell {w : World} {a : Option Addr} {xs : List Value} (h : RowAt w a xs) {b off : Nat} (ha : a = some ⟨b, off, none⟩) {j : Nat} {u : Value} (hu : xs[j]? = some u) : w.cell? ⟨b, off + j, none⟩ = some u := by
  obtain ⟨b', off', e, hc⟩ := RowAt.get h hu
  obtain ⟨b'', off'', e2, hc2⟩ := h (by rintro rfl; simp at hu)
  rw [ha] at e2
  injection e2 with e2
  injection e2 with e3 e4
  subst e3 e4
  exact hc2 j u hu
abbrev Kq := Int × Int × Int × Int
def gv : Option Kq → Array Value
  | some (a, b, c, d) => #[.int .i64 a, .int .i64 b, .int .i64 c, .int .i64 d]
  | none => #[.int .i64 0, .int .i64 0, .int .i64 0, .int .i64 0]
theorem gv_none : gv none = #[.int .i64 0, .int .i64 0, .int .i64 0, .int .i64 0] := rfl
theorem gv_some (a b c d : Int) : gv (some (a, b, c, d)) = #[.int .i64 a, .int .i64 b, .int .i64 c, .int .i64 d] := rfl
def kl : Kq → List Value := fun (a, b, c, d) => [.int .i64 a, .int .i64 b, .int .i64 c, .int .i64 d]
/-- What Get answers of a table. -/
def gq (ns : Nat → Nt) (ttl to now : Int) : Option Kq :=
  if 0 ≤ to ∧ to < 8 then
    match ns to.toNat with
    | some (t, e, a) => if leftT now a ≤ ttl then some (to, t, e, a) else none
    | none => none
  else none
/-- The pointer p is asked as q tells, in each world behind w. -/
def Asks (w : World) (p : Value) (q : Int → Int → Option Kq) : Prop :=
  ∀ (to now : Int) (W : World), Below w.heap.size w W → Calls Try.prog 12 #[p, .int .i64 to, .int .i64 now] W fun e w' => e = .returned (.tuple #[.agg (gv (q to now)), .bool (q to now).isSome]) ∧ Below W.heap.size W w'
theorem Asks.below {w w' : World} {p : Value} {q : Int → Int → Option Kq} (h : Asks w p q) (k : Below w.heap.size w w') : Asks w' p q := fun to now W hb => h to now W (k.trans (hb.mono k.size))
theorem asks_nil (w : World) : Asks w (.pointer none) (fun _ _ => none) := fun to now W _ => tget_nil to now W
theorem asks_odd {w : World} {g : Nat} (h : w.cell? ⟨g, 0, none⟩ = some (.bool false)) : Asks w (.pointer (some ⟨g, 0, none⟩)) (fun _ _ => none) := fun to now W hb => tget_odd to now W ((hb.cell (p := ⟨g, 0, none⟩) (cell_lt h)).trans h)
theorem asks_tbl {w : World} {g : Nat} {ttl : Int} {ns : Nat → Nt} (h : Tbl w g true ttl ns) : Asks w (.pointer (some ⟨g, 0, none⟩)) (gq ns ttl) := by
  intro to now W hb
  have H := h.below hb
  by_cases hto : 0 ≤ to ∧ to < 8
  · obtain ⟨k, rfl⟩ : ∃ k : Nat, to = k := ⟨to.toNat, by omega⟩
    have hk : k < 8 := by omega
    unfold gq
    rw [if_pos hto, Int.toNat_natCast]
    rcases hn : ns k with _ | ⟨t, e, a⟩
    · exact tget_none k hk now W H hn
    · by_cases hl : leftT now a ≤ ttl
      · have := tget_some k hk now t e a W H hn
        rw [decide_eq_true hl] at this
        simp only [hl, if_true]
        exact this
      · have := tget_some k hk now t e a W H hn
        rw [decide_eq_false hl] at this
        simp only [hl, if_false]
        exact this
  · unfold gq
    rw [if_neg hto]
    exact tget_far to now W H.c0 (by omega)
/-- Does it cut? -/
def cutB (q : Option Kq) (l : Int) : Bool :=
  match q with
  | none => false
  | some (_, t, _, _) => !(decide (0 ≤ l) && decide (l < t))
theorem tcuts_any {p : Value} {q : Int → Int → Option Kq} (to l now : Int) (w : World) (h : Asks w p q) :
    Calls Try.prog 16 #[p, .int .i64 to, .int .i64 l, .int .i64 now] w fun e w' => e = .returned (.bool (cutB (q to now) l)) ∧ Below w.heap.size w w' := by
  have G := h to now w (Below.refl _ _)
  clear h
  rcases hq : q to now with _ | ⟨a, t, e, at'⟩
  · rw [hq] at G
    rw [gv_none] at G
    have E := Lib.hid (show false = cutB none l from rfl)
    clear hq
    change Calls _ _ _ _ fun e w' => e = .returned (.tuple #[_, .bool false]) ∧ _ at G
    have G := Lib.hid G
    go_enter Try.func16, Try.ntmps16
    go_wp2_with fail
    refine G.out.mono ?_; rintro e w1 ⟨rfl, b1⟩
    go_wp2_with fail
    go_ret
    exact ⟨ret_bool E.out, b1.alloc b1.size _⟩
  · rw [hq] at G
    rw [gv_some] at G
    have E := Lib.hid (show (!decide (0 ≤ l) || !decide (l < t)) = cutB (some (a, t, e, at')) l by simp only [cutB]; rw [Bool.not_and])
    clear hq
    change Calls _ _ _ _ fun e w' => e = .returned (.tuple #[_, .bool true]) ∧ _ at G
    have G := Lib.hid G
    go_enter Try.func16, Try.ntmps16
    go_wp2_with fail
    refine G.out.mono ?_; rintro e' w1 ⟨rfl, b1⟩
    go_wp2_with fail
    refine (passes_any l t _).mono ?_; rintro e' w' ⟨rfl, rfl⟩
    go_wp2_with fail
    go_ret
    exact ⟨ret_bool E.out, b1.alloc b1.size _⟩
/-- All that is known, up to a number. -/
def allQ (q : Int → Int → Option Kq) (now : Int) (k : Nat) : List Kq := (List.range k).filterMap fun (i : Nat) => q i now
theorem allQ_len (q : Int → Int → Option Kq) (now : Int) (k : Nat) : (allQ q now k).length ≤ k := by
  unfold allQ; exact Nat.le_trans (List.length_filterMap_le _ _) (by simp)
theorem allQ_none {q : Int → Int → Option Kq} {now : Int} {k : Nat} (h : q k now = none) : allQ q now (k + 1) = allQ q now k := by
  unfold allQ; rw [List.range_succ, List.filterMap_append]; simp [h]
theorem allQ_some {q : Int → Int → Option Kq} {now : Int} {k : Nat} {x : Kq} (h : q k now = some x) : allQ q now (k + 1) = allQ q now k ++ [x] := by
  unfold allQ; rw [List.range_succ, List.filterMap_append]; simp [h]
/-- A slice of entries in memory. -/
def Kns (w : World) (a : Option Addr) (l : List Kq) : Prop := RowAt w a (l.flatMap kl)
theorem Kns.below {w w' : World} {a : Option Addr} {l : List Kq} (h : Kns w a l) (hb : Below w.heap.size w w') : Kns w' a l := RowAt.below h hb
def RetKns (w : World) (l : List Kq) (e : Ending) (w' : World) : Prop :=
  ∃ a cap, e = .returned (.slice a l.length cap) ∧ Kns w' a l ∧ Below w.heap.size w w'
theorem own_row' {w : World} {base : Nat} {e : TypeId} {size : Nat} {v : Value} {n : Nat} {xs : List Value} (h : w.ownsRow base e size v n xs) : ∃ a cap, v = .slice a n cap ∧ RowAt w a xs := by
  rcases h.2 with ⟨rfl, rfl⟩ | ⟨g, cap, cur, rfl, _, hh, hn, _, hs, ht⟩
  · have : xs = [] := List.eq_nil_of_length_eq_zero (by simpa using h.1)
    subst this
    exact ⟨none, 0, rfl, RowAt.nil_ _ _⟩
  · refine ⟨some ⟨g, 0, none⟩, cap, rfl, fun _ => ⟨g, 0, rfl, fun j u hu => ?_⟩⟩
    have := h.cells (g := g) rfl j u hu
    simpa [Go.WideShapes.add_plain] using this
theorem news_all {w : World} {g : Nat} {t : TypeId} {cs : Array Value} (h : Bk w g t cs) : ∀ (j : Nat) (u : Value), cs.toList[j]? = some u → w.cell? ((⟨g, 0, none⟩ : Addr).add j) = some u := fun j u hu => by
  have := (h.cell j).trans (by simpa using hu)
  simpa [Go.WideShapes.add_plain] using this
theorem info_known : (Try.prog.info? 36).map (fun i => (i.zero, i.size, i.bytes)) = some (some (.agg #[.int .i64 0, .int .i64 0, .int .i64 0, .int .i64 0]), 4, 32) := by kernel_rfl
set_option maxHeartbeats 1000000 in
theorem tall_any {p : Value} {q : Int → Int → Option Kq} (now : Int) (w : World) (h : Asks w p q) :
    Calls Try.prog 15 #[p, .int .i64 now] w (RetKns w (allQ q now 8)) := by
  obtain ⟨i0, hi, hz0, hz1, hz2⟩ := info_parts info_known
  have hI := Lib.hid (And.intro hi (And.intro hz0 (And.intro hz1 hz2)))
  have HQ := Lib.hid h
  clear hi hz0 hz1 hz2 h
  go_enter Try.func15, Try.ntmps15
  go_wp2_with fail
  go_loopw [5, 9] (fun v i wr => ∃ k : Nat, k ≤ 8 ∧ i = .int .i64 k ∧ wr.ownsRow w.heap.size 36 4 v (allQ q now k).length ((allQ q now k).flatMap kl) ∧ Below w.heap.size w wr) (fun _ i _ => 8 - (intOf i).toNat)
  case atStart => exact ⟨0, by decide, rfl, World.ownsRow_nil _ _ _ _, Below.refl _ _⟩
  case round =>
    obtain ⟨k, hk, rfl, hown, hb⟩ := hrel
    have HO := Lib.hid hown
    have HB := Lib.hid hb
    clear hown hb
    have hlen := allQ_len q now k
    by_cases hlt : k < 8
    · rcases hqk : q k now with _ | ⟨x0, x1, x2, x3⟩
      · have G := HQ.out k now wr HB.out
        have E := Lib.hid (allQ_none hqk)
        rw [hqk] at G
        rw [gv_none] at G
        change Calls _ _ _ _ fun e w' => e = .returned (.tuple #[_, .bool false]) ∧ _ at G
        have G := Lib.hid G
        clear hqk
        go_wp2_with fail
        refine G.out.mono ?_; rintro e w1 ⟨rfl, b1⟩
        have HO1 := Lib.hid (own_move HO.out b1)
        have HB1 := Lib.hid (HB.out.trans (b1.mono HB.out.size))
        have b2 := Lib.hid ((Below.refl _ w1).alloc (Nat.le_refl _) (.cells #[.int .i64 0, .int .i64 0, .int .i64 0, .int .i64 0] 36))
        clear b1
        go_wp2_with fail
        go_roundw
        case rel => exact ⟨k + 1, by omega, by go_num, by rw [E.out]; exact own_move HO1.out b2.out, HB1.out.trans (b2.out.mono HB1.out.size)⟩
        case measure => simp [intOf]; omega
      · have G := HQ.out k now wr HB.out
        have E := Lib.hid (allQ_some hqk)
        rw [hqk] at G
        rw [gv_some] at G
        change Calls _ _ _ _ fun e w' => e = .returned (.tuple #[_, .bool true]) ∧ _ at G
        have G := Lib.hid G
        clear hqk
        go_wp2_with fail
        refine G.out.mono ?_; rintro e w1 ⟨rfl, b1⟩
        have HO1 := Lib.hid (own_move HO.out b1)
        have HB1 := Lib.hid (HB.out.trans (b1.mono HB.out.size))
        have O2 := Lib.hid ((HO1.out.alloc (.cells #[.int .i64 x0, .int .i64 x1, .int .i64 x2, .int .i64 x3] 36)).alloc (.cells #[.int .i64 x0, .int .i64 x1, .int .i64 x2, .int .i64 x3] 36))
        clear b1
        go_wp2_with (at_builtin; refine wpList_append_own _ rfl _ _ 28 rfl w.heap.size 36 i0 (.agg #[.int .i64 0, .int .i64 0, .int .i64 0, .int .i64 0]) 4 32 Try.underlying28 hI.out.1 hI.out.2.1 hI.out.2.2.1 hI.out.2.2.2 rfl (by decide) _ _ _ rfl O2.out ⟨w1.heap.size + 1, 0, none⟩ 1 1 [.int .i64 x0, .int .i64 x1, .int .i64 x2, .int .i64 x3] rfl rfl ?_ ?_ ?_ ?_ ?_ ?_)
        · have := news_all (Bk.new (w1.alloc (.cells #[.int .i64 x0, .int .i64 x1, .int .i64 x2, .int .i64 x3] 36)) 36 #[.int .i64 x0, .int .i64 x1, .int .i64 x2, .int .i64 x3])
          simpa using this
        · intro u hu
          simp at hu
          rcases hu with rfl | rfl | rfl | rfl <;> rfl
        · unfold maxLen; omega
        · omega
        · have := HB1.out.size; simp; omega
        intro v' w2 hown' hgr _
        have HB2 := Lib.hid (show Below w.heap.size w w2 from (((HB1.out.alloc HB1.out.size _).alloc (by have := HB1.out.size; simp; omega) _).grown hgr (by have := HB1.out.size; simp; omega) (fun j hj => (HO.out.lt j hj).1)))
        have hown2 := Lib.hid hown'
        clear hown' hgr
        go_wp2_with fail
        go_roundw
        case rel => exact ⟨k + 1, by omega, by go_num, by rw [E.out, List.length_append, List.flatMap_append]; exact hown2.out, HB2.out⟩
        case measure => simp [intOf]; omega
    · obtain rfl : k = 8 := by omega
      go_wp2_with fail
      go_ret
      obtain ⟨a, cap, rfl, hr⟩ := own_row' HO.out
      exact ⟨a, cap, rfl, hr, HB.out⟩
theorem tnew_ok (ttl : Int) (h : 0 ≤ ttl) (h2 : ttl ≤ 1099511627776) (w : World) :
    Calls Try.prog 7 #[.int .i64 ttl] w fun e w' => e = .returned (.tuple #[.pointer (some ⟨w.heap.size, 0, none⟩), .int .i64 0]) ∧ Tbl w' w.heap.size true ttl (fun _ => none) ∧ Below w.heap.size w w' := by
  go_enter Try.func7, Try.ntmps7
  go_wp2_with fail
  go_ret2
  refine ⟨rfl, ⟨_, Bk.new _ _ _, rfl, rfl, rfl, fun i j hi hj => ?_⟩, (Below.refl _ _).alloc (Nat.le_refl _) _⟩
  obtain rfl | rfl | rfl | rfl | rfl | rfl | rfl | rfl : i = 0 ∨ i = 1 ∨ i = 2 ∨ i = 3 ∨ i = 4 ∨ i = 5 ∨ i = 6 ∨ i = 7 := by omega
  all_goals
    obtain rfl | rfl | rfl | rfl | rfl : j = 0 ∨ j = 1 ∨ j = 2 ∨ j = 3 ∨ j = 4 := by omega
    all_goals rfl
theorem tnew_no (ttl : Int) (h : ttl < 0 ∨ 1099511627776 < ttl) (w : World) :
    Calls Try.prog 7 #[.int .i64 ttl] w fun e w' => e = .returned (.tuple #[.pointer none, .int .i64 1]) ∧ w = w' := by
  have hd : decide (ttl < 0) = true ∨ (decide (ttl < 0) = false ∧ decide (1099511627776 < ttl) = true) := by
    rcases h with h | h
    · exact Or.inl (dlt_t h)
    · exact Or.inr ⟨dlt_f (by omega), dlt_t h⟩
  clear h
  rcases hd with h1 | ⟨h1, h2⟩
  all_goals
    go_enter Try.func7, Try.ntmps7
    go_wp2_with fail
    go_ret2
    exact ⟨rfl, rfl⟩
theorem tclear_nil (w : World) : Calls Try.prog 10 #[.pointer none] w fun e w' => e = .returned (.tuple #[]) ∧ w = w' := by
  go_enter Try.func10, Try.ntmps10
  go_wp2_with fail
  go_end0
  exact ⟨rfl, rfl⟩
theorem tclear_any {g : Nat} {made : Bool} {ttl : Int} {ns : Nat → Nt} (w : World) (h : Tbl w g made ttl ns) :
    Calls Try.prog 10 #[.pointer (some ⟨g, 0, none⟩)] w fun e w' => e = .returned (.tuple #[]) ∧ Tbl w' g made ttl (fun _ => none) ∧ w.grownBy w' (some g) := by
  obtain ⟨cs, hb, hs, h0, h1, h2⟩ := h
  have hz : ∀ w, (zeroValue 47).run Try.prog w = .ok (.agg #[.bool false, .int .i64 0, .int .i64 0, .int .i64 0, .int .i64 0]) w := fun w => by kernel_rfl
  have hL : ∃ L, (Builtin.zeroCells (Value.agg #[.bool false, .int .i64 0, .int .i64 0, .int .i64 0, .int .i64 0]).cells 8).toList = L ∧ L.length = 40 ∧ (∀ v ∈ L, v.oneCell' = true) ∧ ∀ i j, i < 8 → j < 5 → L[i * 5 + j]? = some (nv i none j) := by
    refine ⟨[.bool false, .int .i64 0, .int .i64 0, .int .i64 0, .int .i64 0, .bool false, .int .i64 0, .int .i64 0, .int .i64 0, .int .i64 0, .bool false, .int .i64 0, .int .i64 0, .int .i64 0, .int .i64 0, .bool false, .int .i64 0, .int .i64 0, .int .i64 0, .int .i64 0, .bool false, .int .i64 0, .int .i64 0, .int .i64 0, .int .i64 0, .bool false, .int .i64 0, .int .i64 0, .int .i64 0, .int .i64 0, .bool false, .int .i64 0, .int .i64 0, .int .i64 0, .int .i64 0, .bool false, .int .i64 0, .int .i64 0, .int .i64 0, .int .i64 0], by kernel_rfl, rfl, by simp [Value.oneCell'], fun i j hi hj => ?_⟩
    obtain rfl | rfl | rfl | rfl | rfl | rfl | rfl | rfl : i = 0 ∨ i = 1 ∨ i = 2 ∨ i = 3 ∨ i = 4 ∨ i = 5 ∨ i = 6 ∨ i = 7 := by omega
    all_goals
      obtain rfl | rfl | rfl | rfl | rfl : j = 0 ∨ j = 1 ∨ j = 2 ∨ j = 3 ∨ j = 4 := by omega
      all_goals rfl
  obtain ⟨L, hL, hl, ho, hc⟩ := hL
  have hcl : ∀ ty, (Builtin.clear_ #[54] ty #[.slice (some ⟨g, 2, none⟩) 8 8]).run Try.prog w = .ok (.tuple #[]) (w.setCells g 2 L) :=
    fun ty => run_clear_bk hb _ _ ty _ L Try.underlying54 hz 8 8 2 hL ho (by decide) (by omega)
  obtain ⟨cs', q1, q2, q3⟩ := Bk.setCells L 2 hb (by omega)
  have Q := Lib.hid (show Tbl (w.setCells g 2 L) g made ttl (fun _ => none) from
    ⟨cs', q1, by omega, by rw [q3, if_neg (by omega)]; exact h0, by rw [q3, if_neg (by omega)]; exact h1, fun i j hi hj => by
      rw [q3, if_pos (by omega), ← hc i j hi hj]; congr 1; omega⟩)
  clear hb hs h0 h1 h2 hL hl ho hc q1 q2 q3
  go_enter Try.func10, Try.ntmps10
  go_wp2_with (simp only [hcl])
  go_end0
  exact ⟨rfl, Q.out, only_setCells _ _ _ _⟩
end Go.Proofs.Ytbfimnlffjkokaa
