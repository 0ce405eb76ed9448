/-
  The contracts of the plain answers of layer 21.
-/
import Derived.Test.YtbfimnlffjkokaaL21LawB
import Derived.Test.YtbfimnlffjkokaaRef01
namespace Go.Proofs.Ytbfimnlffjkokaa
open Go.RowKit Bd Tb
theorem flat_get : ∀ (l : List Kq) (i j : Nat) (hi : i < l.length), j < 4 → (l.flatMap kl)[i * 4 + j]? = (kl l[i])[j]?
  | x :: l, 0, j, _, hj => by
    rw [List.flatMap_cons, List.getElem?_append_left (by simp [kl]; omega)]; simp
  | x :: l, i + 1, j, hi, hj => by
    rw [List.flatMap_cons, List.getElem?_append_right (by simp [kl]; omega)]
    have := flat_get l i j (by simpa using hi) hj
    rw [show (i + 1) * 4 + j - (kl x).length = i * 4 + j by simp [kl]; omega, this]; simp
theorem Kns.get {w : World} {a : Option Addr} {l : List Kq} (h : Kns w a l) {i : Nat} (hi : i < l.length) :
    ∃ b off, a = some ⟨b, off, none⟩ ∧ w.cell? ⟨b, off + i * 4, none⟩ = some (.int .i64 l[i].1) ∧ w.cell? ⟨b, off + i * 4 + 1, none⟩ = some (.int .i64 l[i].2.1) ∧ w.cell? ⟨b, off + i * 4 + 2, none⟩ = some (.int .i64 l[i].2.2.1) ∧ w.cell? ⟨b, off + i * 4 + 3, none⟩ = some (.int .i64 l[i].2.2.2) := by
  obtain ⟨b, off, e, hc⟩ := h (by intro h0; have := flat_get l i 0 hi (by decide); rw [h0] at this; simp [kl] at this)
  refine ⟨b, off, e, ?_, ?_, ?_, ?_⟩
  · exact hc (i * 4) _ (flat_get l i 0 hi (by decide))
  · exact hc (i * 4 + 1) _ (flat_get l i 1 hi (by decide))
  · exact hc (i * 4 + 2) _ (flat_get l i 2 hi (by decide))
  · exact hc (i * 4 + 3) _ (flat_get l i 3 hi (by decide))
/-- The place of one; -1: none. -/
def fk (l : List Kq) (to : Int) : Int := match l.findIdx? (fun x => x.1 == to) with | some i => i | none => -1
theorem fk_none {l : List Kq} {to : Int} (h : ∀ i (hi : i < l.length), l[i].1 ≠ to) : fk l to = -1 := by
  unfold fk
  rw [List.findIdx?_eq_none_iff.2 (fun x hx => by obtain ⟨i, hi, rfl⟩ := List.getElem_of_mem hx; simpa using h i hi)]
theorem fk_some {l : List Kq} {to : Int} {k : Nat} (hk : k < l.length) (he : l[k].1 = to) (h : ∀ i (hi : i < k), l[i].1 ≠ to) : fk l to = k := by
  unfold fk
  rw [List.findIdx?_eq_some_iff_getElem.2 ⟨hk, by simpa using he, fun j hj => by simpa using h j hj⟩]
theorem fk_cases (l : List Kq) (to : Int) : (fk l to = -1 ∧ ∀ x ∈ l, x.1 ≠ to) ∨ ∃ i, ∃ hi : i < l.length, fk l to = i ∧ l[i].1 = to := by
  unfold fk
  rcases h : l.findIdx? (fun x => x.1 == to) with _ | i
  · left
    exact ⟨by first | rfl | rw [h], fun x hx => by simpa using List.findIdx?_eq_none_iff.1 h x hx⟩
  · right
    obtain ⟨hi, he, _⟩ := List.findIdx?_eq_some_iff_getElem.1 h
    exact ⟨i, hi, by first | rfl | rw [h], by simpa using he⟩
set_option maxHeartbeats 1000000 in
theorem rfind_any (a : Option Addr) (n cap : Nat) (l : List Kq) (to : Int) (w : World) (h : Kns w a l) (hn : l.length = n) (hl : n ≤ 100) :
    Calls Try.prog 13 #[.slice a n cap, .int .i64 to] w fun e w' => e = .returned (.int .i64 (fk l to)) ∧ w = w' := by
  subst hn
  have HK := Lib.hid h
  clear h
  go_enter Try.func13, Try.ntmps13
  go_wp2_with fail
  go_loop [5] (fun i => ∃ k : Nat, k ≤ l.length ∧ i = .int .i64 k ∧ ∀ j (hj : j < l.length), j < k → l[j].1 ≠ to) (fun i => l.length - (intOf i).toNat)
  case atStart => exact ⟨0, Nat.zero_le _, rfl, fun j _ hj => absurd hj (by omega)⟩
  case round =>
    obtain ⟨k, hk, rfl, hno⟩ := hrel
    have HN := Lib.hid hno
    clear hno
    by_cases hlt : k < l.length
    · obtain ⟨b, off, ha, c0, _⟩ := HK.out.get hlt
      subst ha
      by_cases he : l[k].1 = to
      · have E := Lib.hid (fk_some hlt he (fun i hi => HN.out i (by omega) hi))
        have he := deq_t he
        go_wp2_with fail
        go_ret
        exact ⟨ret_int E.out.symm, rfl⟩
      · have E := Lib.hid he
        have he := deq_f he
        go_wp2_with fail
        go_round
        case rel => exact ⟨k + 1, by omega, by go_num, fun j hj hjk => by
          rcases (by omega : j < k ∨ j = k) with h | h
          · exact HN.out j hj h
          · subst h; exact E.out⟩
        case measure => simp [intOf]; omega
    · have E := Lib.hid (fk_none (to := to) (fun i hi => HN.out i hi (by omega)))
      go_wp2_with fail
      go_ret
      exact ⟨ret_int E.out.symm, rfl⟩
/-- All that a table holds. -/
def en (ns : Nat → Nt) (i : Nat) : Option Kq := (ns i).map fun x => ((i : Int), x.1, x.2.1, x.2.2)
def xl (ns : Nat → Nt) (k : Nat) : List Kq := (List.range k).filterMap (en ns)
theorem xl_len (ns : Nat → Nt) (k : Nat) : (xl ns k).length ≤ k := by unfold xl; exact Nat.le_trans (List.length_filterMap_le _ _) (by simp)
theorem xl_none {ns : Nat → Nt} {k : Nat} (h : ns k = none) : xl ns (k + 1) = xl ns k := by
  unfold xl; rw [List.range_succ, List.filterMap_append]; simp [en, h]
theorem xl_some {ns : Nat → Nt} {k : Nat} {t e a : Int} (h : ns k = some (t, e, a)) : xl ns (k + 1) = xl ns k ++ [((k : Int), t, e, a)] := by
  unfold xl; rw [List.range_succ, List.filterMap_append]; simp [en, h]
theorem xl_mem {ns : Nat → Nt} {k : Nat} {x : Kq} : x ∈ xl ns k ↔ ∃ i, i < k ∧ en ns i = some x := by
  unfold xl; simp [List.mem_filterMap]
theorem fk_xl_none {ns : Nat → Nt} {i : Nat} (h : ns i = none) : fk (xl ns 8) i = -1 := by
  rcases fk_cases (xl ns 8) i with ⟨h1, _⟩ | ⟨j, hj, h1, h2⟩
  · exact h1
  · exfalso
    obtain ⟨m, _, he⟩ := xl_mem.1 (List.getElem_mem hj)
    unfold en at he
    rw [Option.map_eq_some_iff] at he
    obtain ⟨y, hy, hx⟩ := he
    rw [← hx] at h2
    simp only at h2
    obtain rfl : m = i := by omega
    rw [h] at hy; cases hy
theorem fk_xl_some {ns : Nat → Nt} {i : Nat} (hi : i < 8) {t e a : Int} (h : ns i = some (t, e, a)) : ∃ j, ∃ hj : j < (xl ns 8).length, fk (xl ns 8) i = j ∧ (xl ns 8)[j] = ((i : Int), t, e, a) := by
  rcases fk_cases (xl ns 8) i with ⟨_, h1⟩ | ⟨j, hj, h1, h2⟩
  · exact absurd rfl (h1 ((i : Int), t, e, a) (xl_mem.2 ⟨i, hi, by simp [en, h]⟩))
  · refine ⟨j, hj, h1, ?_⟩
    obtain ⟨m, _, he⟩ := xl_mem.1 (List.getElem_mem hj)
    unfold en at he
    rw [Option.map_eq_some_iff] at he
    obtain ⟨y, hy, hx⟩ := he
    rw [← hx] at h2 ⊢
    simp only at h2
    obtain rfl : m = i := by omega
    rw [h] at hy; cases hy; rfl
def allR (ttl now : Int) (l : List Kq) : List Kq := l.filter fun x => decide (leftT now x.2.2.2 ≤ ttl)
theorem allR_xl (ns : Nat → Nt) (ttl now : Int) : ∀ k, k ≤ 8 → allR ttl now (xl ns k) = allQ (gq ns ttl) now k
  | 0, _ => rfl
  | k + 1, hk => by
    have ih := allR_xl ns ttl now k (by omega)
    have hg : gq ns ttl k now = match ns k with | some (t, e, a) => if leftT now a ≤ ttl then some ((k : Int), t, e, a) else none | none => none := by
      unfold gq; rw [if_pos (by omega), Int.toNat_natCast]; rfl
    rcases hn : ns k with _ | ⟨t, e, a⟩
    · rw [xl_none hn, ih, allQ_none (by rw [hg, hn])]
    · rw [xl_some hn]
      unfold allR at ih ⊢
      rw [List.filter_append, ih]
      by_cases hl : leftT now a ≤ ttl
      · rw [allQ_some (by rw [hg, hn]; simp only; rw [if_pos hl])]
        simp [hl]
      · rw [allQ_none (by rw [hg, hn]; simp only; rw [if_neg hl])]
        simp [hl]
set_option maxHeartbeats 1000000 in
theorem rall_any (a : Option Addr) (n cap : Nat) (l : List Kq) (ttl now : Int) (w : World) (h : Kns w a l) (hn : l.length = n) (hl : n ≤ 100) :
    Calls Try.prog 11 #[.slice a n cap, .int .i64 ttl, .int .i64 now] w (RetKns w (allR ttl now l)) := by
  subst hn
  obtain ⟨i0, hi, hz0, hz1, hz2⟩ := info_parts info_known
  have hI := Lib.hid (And.intro hi (And.intro hz0 (And.intro hz1 hz2)))
  have HK := Lib.hid h
  clear hi hz0 hz1 hz2 h
  go_enter Try.func11, Try.ntmps11
  go_wp2_with fail
  go_loopw [7, 8] (fun v i wr => ∃ k : Nat, k ≤ l.length ∧ i = .int .i64 k ∧ wr.ownsRow w.heap.size 36 4 v (allR ttl now (l.take k)).length ((allR ttl now (l.take k)).flatMap kl) ∧ Below w.heap.size w wr) (fun _ i _ => l.length - (intOf i).toNat)
  case atStart => exact ⟨0, Nat.zero_le _, rfl, World.ownsRow_nil _ _ _ _, Below.refl _ _⟩
  case round =>
    obtain ⟨k, hk, rfl, hown, hb⟩ := hrel
    have HO := Lib.hid hown
    have HB := Lib.hid hb
    clear hown hb
    by_cases hlt : k < l.length
    · obtain ⟨b, off, ha, c0, c1, c2, c3⟩ := (HK.out.below HB.out).get hlt
      have hlen : (allR ttl now (l.take k)).length ≤ k := Nat.le_trans (List.length_filter_le _ _) (List.length_take_le _ _)
      have hst : l.take (k + 1) = l.take k ++ [l[k]] := by rw [List.take_succ_eq_append_getElem hlt]
      subst ha
      by_cases hle : leftT now l[k].2.2.2 ≤ ttl
      · have E := Lib.hid (show allR ttl now (l.take (k + 1)) = allR ttl now (l.take k) ++ [l[k]] by unfold allR; rw [hst, List.filter_append]; simp [hle])
        have EL := Lib.hid (rleft_any now l[k].2.2.2)
        obtain ⟨lf, hlf⟩ : ∃ x, leftT now l[k].2.2.2 = x := ⟨_, rfl⟩
        rw [hlf] at EL hle
        clear hst hlf
        obtain ⟨x, hx⟩ : ∃ x, l[k] = x := ⟨_, rfl⟩
        rw [hx] at c0 c1 c2 c3 E EL
        obtain ⟨x0, x1, x2, x3⟩ := x
        simp only at c0 c1 c2 c3 EL
        clear hx
        go_wp2_with fail
        refine (EL.out _).mono ?_; rintro e w' ⟨rfl, rfl⟩
        go_wp2_with (at_builtin; refine wpList_append_own _ rfl _ _ 28 rfl w.heap.size 36 i0 (.agg #[.int .i64 0, .int .i64 0, .int .i64 0, .int .i64 0]) 4 32 Try.underlying28 hI.out.1 hI.out.2.1 hI.out.2.2.1 hI.out.2.2.2 rfl (by decide) _ _ _ rfl (HO.out.alloc _) ⟨wr.heap.size, 0, none⟩ 1 1 [.int .i64 x0, .int .i64 x1, .int .i64 x2, .int .i64 x3] rfl rfl ?_ ?_ ?_ ?_ ?_ ?_)
        · exact news_all (Bk.new wr 36 #[.int .i64 x0, .int .i64 x1, .int .i64 x2, .int .i64 x3])
        · intro u hu
          simp at hu
          rcases hu with rfl | rfl | rfl | rfl <;> rfl
        · unfold maxLen; omega
        · omega
        · have := HB.out.size; simp; omega
        intro v' w2 hown' hgr _
        have HB2 := Lib.hid (own_below HB.out HO.out _ hgr HB.out.size)
        have hown2 := Lib.hid hown'
        clear hown' hgr c0 c1 c2 c3
        go_wp2_with fail
        go_roundw
        case rel => exact ⟨k + 1, by omega, by go_num, by rw [E.out, List.length_append, List.flatMap_append]; exact hown2.out, HB2.out⟩
        case measure => simp [intOf]; omega
      · have E := Lib.hid (show allR ttl now (l.take (k + 1)) = allR ttl now (l.take k) by unfold allR; rw [hst, List.filter_append]; simp [hle])
        have EL := Lib.hid (rleft_any now l[k].2.2.2)
        obtain ⟨lf, hlf⟩ : ∃ x, leftT now l[k].2.2.2 = x := ⟨_, rfl⟩
        rw [hlf] at EL hle
        have hle := dle_f (by omega : ttl < lf)
        clear hst hlf
        go_wp2_with fail
        refine (EL.out _).mono ?_; rintro e w' ⟨rfl, rfl⟩
        go_wp2_with fail
        go_roundw
        case rel => exact ⟨k + 1, by omega, by go_num, by rw [E.out]; exact HO.out, HB.out⟩
        case measure => simp [intOf]; omega
    · obtain rfl : k = l.length := by omega
      rw [List.take_of_length_le (Nat.le_refl _)] at HO
      go_wp2_with fail
      go_ret
      obtain ⟨a, cap, rfl, hr⟩ := own_row' HO.out
      exact ⟨a, cap, rfl, hr, HB.out⟩
/-- The cells of an entry in a block of its own. -/
theorem rcuts_pos {q : Int → Int → Option Kq} : True := trivial
theorem allR_mem {ttl now : Int} {l : List Kq} {x : Kq} : x ∈ allR ttl now l ↔ x ∈ l ∧ leftT now x.2.2.2 ≤ ttl := by unfold allR; simp
/-- Where one is found among all that is known. -/
theorem fk_all (ns : Nat → Nt) (ttl to now : Int) :
    (gq ns ttl to now = none ∧ fk (allR ttl now (xl ns 8)) to = -1) ∨ ∃ j, ∃ hj : j < (allR ttl now (xl ns 8)).length, fk (allR ttl now (xl ns 8)) to = j ∧ gq ns ttl to now = some (allR ttl now (xl ns 8))[j] := by
  have mem : ∀ x ∈ allR ttl now (xl ns 8), gq ns ttl x.1 now = some x := by
    intro x hx
    obtain ⟨hx, hl⟩ := allR_mem.1 hx
    obtain ⟨i, hi, he⟩ := xl_mem.1 hx
    unfold en at he
    rw [Option.map_eq_some_iff] at he
    obtain ⟨y, hy, rfl⟩ := he
    obtain ⟨t, e, a⟩ := y
    unfold gq
    simp only at hl ⊢
    rw [if_pos (by omega), Int.toNat_natCast, hy]
    simp only
    rw [if_pos hl]
  rcases fk_cases (allR ttl now (xl ns 8)) to with ⟨h1, h2⟩ | ⟨j, hj, h1, h2⟩
  · left
    refine ⟨?_, h1⟩
    rcases hq : gq ns ttl to now with _ | x
    · rfl
    · exfalso
      unfold gq at hq
      by_cases hto : 0 ≤ to ∧ to < 8
      · rw [if_pos hto] at hq
        rcases hn : ns to.toNat with _ | ⟨t, e, a⟩
        · rw [hn] at hq; cases hq
        · rw [hn] at hq
          simp only at hq
          by_cases hl : leftT now a ≤ ttl
          · exact h2 (((to.toNat : Nat) : Int), t, e, a) (allR_mem.2 ⟨xl_mem.2 ⟨to.toNat, by omega, by simp [en, hn]⟩, hl⟩) (by simp only; omega)
          · rw [if_neg hl] at hq; cases hq
      · rw [if_neg hto] at hq; cases hq
  · right
    refine ⟨j, hj, h1, ?_⟩
    have := mem _ (List.getElem_mem hj)
    rw [h2] at this
    exact this
set_option maxHeartbeats 1000000 in
theorem rcuts_any (a : Option Addr) (n cap : Nat) (ns : Nat → Nt) (ttl to lv now : Int) (w : World) (h : Kns w a (xl ns 8)) (hn : (xl ns 8).length = n) :
    Calls Try.prog 17 #[.slice a n cap, .int .i64 ttl, .int .i64 to, .int .i64 lv, .int .i64 now] w fun e w' => e = .returned (.bool (cutB (gq ns ttl to now) lv)) ∧ Below w.heap.size w w' := by
  have hl := xl_len ns 8
  have HA := Lib.hid (rall_any a n cap (xl ns 8) ttl now w h hn (by omega))
  have hl2 : (allR ttl now (xl ns 8)).length ≤ 8 := Nat.le_trans (List.length_filter_le _ _) hl
  have HF := Lib.hid (fk_all ns ttl to now)
  clear h hn hl
  generalize hL : allR ttl now (xl ns 8) = L at *
  clear hL
  go_enter Try.func17, Try.ntmps17
  go_wp2_with fail
  refine HA.out.mono ?_; rintro e w1 ⟨a1, cap1, rfl, hk, hb⟩
  have HK := Lib.hid hk
  have HB := Lib.hid hb
  clear hk hb HA
  go_wp2_with fail
  refine (rfind_any a1 _ cap1 L to _ HK.out rfl (by omega)).mono ?_; rintro e w' ⟨rfl, rfl⟩
  rcases HF.out with ⟨h1, h2⟩ | ⟨j, hj, h1, h2⟩
  · rw [h2]
    have E := Lib.hid (show false = cutB (gq ns ttl to now) lv by rw [h1]; rfl)
    clear h1 h2 HF
    go_wp2_with fail
    go_ret
    exact ⟨ret_bool E.out, HB.out⟩
  · rw [h1]
    obtain ⟨b, off, ha, c0, c1, c2, c3⟩ := HK.out.get hj
    subst ha
    obtain ⟨x, hx⟩ : ∃ x, L[j] = x := ⟨_, rfl⟩
    rw [hx] at c0 c1 c2 c3 h2
    obtain ⟨x0, x1, x2, x3⟩ := x
    simp only at c0 c1 c2 c3
    clear HF h1
    by_cases hneg : lv < 0
    · have E := Lib.hid (show true = cutB (gq ns ttl to now) lv by rw [h2]; simp [cutB]; omega)
      clear h2 hx
      go_wp2_with fail
      go_ret
      exact ⟨ret_bool E.out, HB.out⟩
    · have E := Lib.hid (show decide (x1 ≤ lv) = cutB (gq ns ttl to now) lv by rw [h2]; simp only [cutB]; rw [show decide (0 ≤ lv) = true from dle_t (by omega), Bool.true_and]; by_cases h : lv < x1 <;> simp [h] <;> omega)
      have hneg := dlt_f (a := lv) (b := 0) (by omega)
      clear h2 hx
      go_wp2_with fail
      go_ret
      exact ⟨ret_bool E.out, HB.out⟩
theorem Kq_same (x : Kq) : True := trivial
set_option maxHeartbeats 1000000 in
theorem rsame_any (a a2 : Option Addr) (n cap cap2 : Nat) (l : List Kq) (w : World) (h : Kns w a l) (h2 : Kns w a2 l) (hn : l.length = n) (hl : n ≤ 100) :
    Calls Try.prog 14 #[.slice a n cap, .slice a2 n cap2] w fun e w' => e = .returned (.bool true) ∧ Below w.heap.size w w' := by
  subst hn
  have HK := Lib.hid h
  have HK2 := Lib.hid h2
  have hne : ((l.length : Int) != (l.length : Int)) = false := by simp
  clear h h2
  go_enter Try.func14, Try.ntmps14
  go_wp2_with fail
  go_loopw [5] (fun i wr => ∃ k : Nat, k ≤ l.length ∧ i = .int .i64 k ∧ Below w.heap.size w wr) (fun i _ => l.length - (intOf i).toNat)
  case atStart => exact ⟨0, Nat.zero_le _, rfl, Below.refl _ _⟩
  case round =>
    obtain ⟨k, hk, rfl, hb⟩ := hrel
    have HB := Lib.hid hb
    clear hb
    by_cases hlt : k < l.length
    · obtain ⟨b, off, ha, c0, c1, c2, c3⟩ := (HK.out.below HB.out).get hlt
      obtain ⟨b2, off2, ha2, d0, d1, d2, d3⟩ := (HK2.out.below HB.out).get hlt
      subst ha ha2
      generalize l[k] = x at *
      obtain ⟨x0, x1, x2, x3⟩ := x
      simp only at c0 c1 c2 c3 d0 d1 d2 d3
      go_wp2_with fail
      go_quiet (fail)
      go_wp2_with fail
      go_roundw
      case rel => exact ⟨k + 1, by omega, by go_num, bl_drewN HB.out _⟩
      case measure => simp [intOf]; omega
    · go_wp2_with fail
      go_ret
      exact ⟨rfl, HB.out⟩
end Go.Proofs.Ytbfimnlffjkokaa
