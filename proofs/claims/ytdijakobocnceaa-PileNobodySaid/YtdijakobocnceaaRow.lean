/-
  A row of elements of any size, at any place of a block from B on, whose spare cells may be written: append of any source, parts of it.
-/
import Derived.Test.YtdijakobocnceaaBks
import Derived.Deep.AppendSrc
namespace Go.Proofs.Ytdijakobocnceaa
set_option maxRecDepth 100000
open Go.RowKit
/-- The slice v has n elements whose cells are xs; it is nil, or lies in a block from B on, and its spare cells are there and may be written. -/
structure Row (w : World) (B size : Nat) (v : Value) (n : Nat) (xs : List Value) : Prop where
  len : xs.length = n * size
  val : (v = .slice none 0 0 ∧ n = 0) ∨ ∃ g off cap, v = .slice (some ⟨g, off, none⟩) n cap ∧ B ≤ g ∧ g < w.heap.size ∧ n ≤ cap ∧ cap ≤ maxLen ∧ (∀ (j : Nat) (u : Value), xs[j]? = some u → w.cell? ⟨g, off + j, none⟩ = some u) ∧
    ∀ j, n * size ≤ j → j < cap * size → (w.cell? ⟨g, off + j, none⟩).isSome = true ∧ w.frozen? ⟨g, off + j, none⟩ = false
section
variable {w w' : World} {B size : Nat} {v : Value} {n : Nat} {xs : List Value}
theorem Row.nil (w : World) (B size : Nat) : Row w B size (.slice none 0 0) 0 [] := ⟨by simp, .inl ⟨rfl, rfl⟩⟩
theorem Row.kept (h : Row w B size v n xs) {r : Option Nat} (hg : w.grownBy w' r) (hr : v.ownBlock = none ∨ v.ownBlock ≠ r) : Row w' B size v n xs := by
  refine ⟨h.len, ?_⟩
  rcases h.val with h0 | ⟨g, off, cap, rfl, h1, h2, h3, h4, h5, h6⟩
  · exact .inl h0
  · have hb : w'.heap[g]? = w.heap[g]? := hg.block g h2 (by
      rcases hr with hr | hr
      · simp [Value.ownBlock] at hr
      · intro e; exact hr (by simp [Value.ownBlock, e]))
    have hc : ∀ o, w'.cell? ⟨g, o, none⟩ = w.cell? ⟨g, o, none⟩ := fun o => by simp [World.cell?, hb]
    have hf : ∀ o, w'.frozen? ⟨g, o, none⟩ = w.frozen? ⟨g, o, none⟩ := fun o => by simp [World.frozen?, hb]
    exact .inr ⟨g, off, cap, rfl, h1, Nat.lt_of_lt_of_le h2 hg.size, h3, h4, fun j u hu => (hc _).trans (h5 j u hu), fun j a b => by rw [hc, hf]; exact h6 j a b⟩
theorem Row.below (h : Row w B size v n xs) (hb : Below w.heap.size w w') : Row w' B size v n xs := h.kept (only_below hb none) (by cases v.ownBlock <;> simp)
theorem Row.alloc (h : Row w B size v n xs) (o : Obj) : Row (w.alloc o) B size v n xs := h.below ((Below.refl _ _).alloc (Nat.le_refl _) o)
theorem Row.lower (h : Row w B size v n xs) {B' : Nat} (hB : B' ≤ B) : Row w B' size v n xs := by
  refine ⟨h.len, ?_⟩
  rcases h.val with h0 | ⟨g, off, cap, e, h1, r⟩
  · exact .inl h0
  · exact .inr ⟨g, off, cap, e, Nat.le_trans hB h1, r⟩
theorem Row.lt (h : Row w B size v n xs) : ∀ k, v.ownBlock = some k → B ≤ k ∧ k < w.heap.size := by
  intro k hk
  rcases h.val with ⟨rfl, _⟩ | ⟨g, off, cap, rfl, h1, h2, _⟩
  · simp [Value.ownBlock] at hk
  · simp [Value.ownBlock] at hk; subst hk; exact ⟨h1, h2⟩
theorem Row.row (h : Row w B size v n xs) : ∃ a cap, v = .slice a n cap ∧ RowAt w a xs ∧ n ≤ cap ∧ cap ≤ maxLen ∧ ∀ x, a = some x → B ≤ x.block ∧ x.block < w.heap.size := by
  rcases h.val with ⟨rfl, rfl⟩ | ⟨g, off, cap, rfl, h1, h2, h3, h4, h5, h6⟩
  · have : xs = [] := List.eq_nil_of_length_eq_zero (by simpa using h.len)
    subst this
    exact ⟨none, 0, rfl, RowAt.nil_ _ _, Nat.le_refl _, Nat.zero_le _, fun x hx => by cases hx⟩
  · exact ⟨some ⟨g, off, none⟩, cap, rfl, fun _ => ⟨g, off, rfl, h5⟩, h3, h4, fun x hx => by injection hx with hx; subst hx; exact ⟨h1, h2⟩⟩
/-- A block of the call's own, as a row. -/
theorem Row.ofBk {g : Nat} {t : TypeId} {cs : Array Value} (h : Bk w g t cs) (hB : B ≤ g) (hn : cs.size = n * size) (hm : n ≤ maxLen) : Row w B size (.slice (some ⟨g, 0, none⟩) n n) n cs.toList :=
  ⟨by simpa using hn, .inr ⟨g, 0, n, rfl, hB, h.lt, Nat.le_refl _, hm, fun j u hu => by rw [Nat.zero_add]; exact (h.cell j).trans (by simpa using hu), fun j a b => absurd b (by omega)⟩⟩
/-- The first k elements; what is behind them may be written, if kept. -/
theorem Row.front (h : Row w B size v n xs) {a : Option Addr} {cap : Nat} (hv : v = .slice a n cap) {k : Nat} (hk : k ≤ n) (hone : a ≠ none) : Row w B size (.slice a k k) k (xs.take (k * size)) := by
  have hks : k * size ≤ n * size := Nat.mul_le_mul_right _ hk
  refine ⟨by rw [List.length_take, h.len]; omega, ?_⟩
  rcases h.val with ⟨rfl, _⟩ | ⟨g, off, cap', rfl, h1, h2, h3, h4, h5, h6⟩
  · injection hv with e; exact absurd e.symm hone
  · injection hv with e1 e2 e3
    subst e1
    exact .inr ⟨g, off, k, rfl, h1, h2, Nat.le_refl _, by omega, fun j u hu => h5 j u (by rw [List.getElem?_take] at hu; split at hu <;> simp_all), fun j a b => absurd b (by omega)⟩
theorem cells_set (w : World) (g : Nat) : ∀ (vs : List Value) (o : Nat) (x : Nat), ¬ (o ≤ x ∧ x < o + vs.length) → (w.setCells g o vs).cell? ⟨g, x, none⟩ = w.cell? ⟨g, x, none⟩ :=
  fun vs o x h => World.cell?_setCells_out g vs o w ⟨g, x, none⟩ (fun _ _ => by simp only; omega)
set_option maxRecDepth 100000 in
theorem run_append_row {i : TypeInfo} {z x : Value} {t tx e : TypeId} (ty : TypeId) {bytes m : Nat} {news : List Value} (h : Row w B size v n xs) (hs : Src Try.prog size tx x m news w) (ht : Try.prog.underlying t = some (.slice e)) (hi : Try.prog.info? e = some i)
    (hz : i.zero = some z) (hsize : i.size = size) (hby : i.bytes = bytes) (hzs : z.cells.size = size) (h63 : n + m ≤ maxLen) (hbytes : (n + m) * bytes ≤ 140737488355328) (hB : B ≤ w.heap.size) :
    ∃ v' w', (Builtin.append_ #[t, tx] ty #[v, x]).run Try.prog w = .ok v' w' ∧ Row w' B size v' (n + m) (xs ++ news) ∧ w.grownBy w' v.ownBlock ∧ (∀ k, v'.ownBlock = some k → v.ownBlock = some k ∨ k = w.heap.size) := by
  subst hsize
  subst hby
  have hsmall : n + m ≤ 9223372036854775807 := by simp only [maxLen] at h63; omega
  have hlen : (xs ++ news).length = (n + m) * i.size := by rw [List.length_append, h.len, hs.newsLen, Nat.add_mul]
  have grown : ∀ (a : Option Addr) (old : Nat), old < n + m → (Builtin.firstCells i.size n (.slice a n old)).run Try.prog w.drew = .ok xs.toArray w.drew → ∃ v' w', (Builtin.append_ #[t, tx] ty #[.slice a n old, x]).run Try.prog w = .ok v' w' ∧ Row w' B i.size v' (n + m) (xs ++ news) ∧ (∀ r, w.grownBy w' r) ∧ v'.ownBlock = some w.heap.size := by
    intro a old ho hold
    have hr := run_append_grow_src (P := Try.prog) w t tx ty e i z ht hi hz a n old xs hold x m news hs ho (by omega) (growslice_fits ho hbytes)
    have hge := grownCap_ge w (n + m) old e
    have hle := grownCap_le_maxLen w (n + m) old e h63
    have hsz : ((xs ++ news).toArray ++ Builtin.zeroCells z.cells (grownCap w (n + m) old e - (n + m))).size = grownCap w (n + m) old e * i.size := by
      rw [Array.size_append, List.size_toArray, hlen, size_zeroCells, hzs, ← Nat.add_mul]
      congr 1
      omega
    have hbk : Bk (w.drew.alloc (.cells ((xs ++ news).toArray ++ Builtin.zeroCells z.cells (grownCap w (n + m) old e - (n + m))) e)) w.heap.size e ((xs ++ news).toArray ++ Builtin.zeroCells z.cells (grownCap w (n + m) old e - (n + m))) := Bk.new w.drew e _
    refine ⟨_, _, hr, ⟨hlen, .inr ⟨w.heap.size, 0, _, rfl, hB, hbk.lt, hge, hle, fun j u hu => ?_, fun j hj hj2 => ?_⟩⟩, fun r => only_below ((Below.refl w.heap.size w).drew.alloc (Nat.le_refl _) _) r, rfl⟩
    · rw [Nat.zero_add, hbk.cell j, Array.getElem?_append_left (by have := (List.getElem?_eq_some_iff.1 hu).1; simpa using this)]
      simpa using hu
    · rw [Nat.zero_add]
      exact ⟨by rw [hbk.cell j, Array.getElem?_eq_getElem (by rw [hsz]; exact hj2)]; rfl, hbk.frozen j⟩
  rcases h.val with ⟨rfl, rfl⟩ | ⟨g, off, cap, rfl, h1, h2, h3, h4, h5, h6⟩
  · have hx : xs = [] := List.eq_nil_of_length_eq_zero (by simpa using h.len)
    subst hx
    by_cases hm : m = 0
    · subst hm
      have hn : news = [] := List.eq_nil_of_length_eq_zero (by simpa using hs.newsLen)
      subst hn
      refine ⟨.slice none 0 0, w, ?_, Row.nil _ _ _, only_refl _ _, fun k hk => by simp [Value.ownBlock] at hk⟩
      have hc := hs.cells
      rcases hs.kind with ⟨e', hk⟩ | hk <;> simp [Builtin.append_, run_underlying ht, run_underlying hk, sizeOf, typeInfo, hi, hs.len, hc]
    · obtain ⟨v', w', r1, r2, r3, r4⟩ := grown none 0 (by omega) (by rfl)
      exact ⟨v', w', r1, r2, r3 _, fun k hk => by rw [r4] at hk; injection hk with hk; exact Or.inr hk.symm⟩
  · by_cases hroom : n + m ≤ cap
    · have hle : (n + m) * i.size ≤ cap * i.size := Nat.mul_le_mul_right _ hroom
      have hnl : n * i.size + news.length = (n + m) * i.size := by rw [hs.newsLen, Nat.add_mul]
      have hr := run_append_room_src (P := Try.prog) w t tx ty e i ht hi g off n cap x m news hs hroom
        (fun j hj => by have := (h6 (n * i.size + j) (by omega) (by omega)).1; rwa [← Nat.add_assoc] at this)
        (fun j hj => by have := (h6 (n * i.size + j) (by omega) (by omega)).2; rwa [← Nat.add_assoc] at this)
      refine ⟨_, _, hr, ⟨hlen, .inr ⟨g, off, cap, rfl, h1, ?_, hroom, h4, fun j u hu => ?_, fun j hj hj2 => ?_⟩⟩, only_setCells g news _ w, fun k hk => Or.inl hk⟩
      · exact Nat.lt_of_lt_of_le h2 (only_setCells g news _ w).size
      · by_cases hj : j < xs.length
        · rw [List.getElem?_append_left hj] at hu
          rw [cells_set w g news _ _ (by rw [h.len] at hj; omega)]
          exact h5 j u hu
        · rw [List.getElem?_append_right (by omega)] at hu
          have hjn := (List.getElem?_eq_some_iff.1 hu).1
          have := World.cell?_setCells_in g news (off + n * i.size) w (fun k hk => by have := (h6 (n * i.size + k) (by omega) (by omega)).1; rwa [← Nat.add_assoc] at this) (j - xs.length) hjn
          rw [show off + n * i.size + (j - xs.length) = off + j by rw [h.len] at hj ⊢; omega] at this
          rw [this, ← (List.getElem?_eq_some_iff.1 hu).2]
      · rw [cells_set w g news _ _ (by omega), World.frozen?_setCells]
        exact h6 j (by omega) hj2
    · obtain ⟨v', w', r1, r2, r3, r4⟩ := grown (some ⟨g, off, none⟩) cap (by omega) (run_firstCells_some w.drew i.size n ⟨g, off, none⟩ n cap xs h.len (fun j u hu => by
        have := h5 j u hu
        simpa [Go.WideShapes.add_plain] using this))
      exact ⟨v', w', r1, r2, r3 _, fun k hk => by rw [r4] at hk; injection hk with hk; exact Or.inr hk.symm⟩
theorem wpList_append_row {ops : Array Oper} {rest : List Oper} {o : Oper} {a : Act} {Q : Exit → Act → World → Prop} (hgd : o.guard = none) (s x : Operand) (t tx : TypeId)
    (ho : o.op = .call { callee := .builtin .append, args := #[s, x], argTypes := #[t, tx] }) (h : Row w B size v n xs) (hv : a.eval s = v) {i : TypeInfo} {z xv : Value} {e : TypeId} {bytes m : Nat} {news : List Value} (hx : a.eval x = xv) (hs : Src Try.prog size tx xv m news w)
    (ht : Try.prog.underlying t = some (.slice e)) (hi : Try.prog.info? e = some i) (hz : i.zero = some z) (hsize : i.size = size) (hby : i.bytes = bytes) (hzs : z.cells.size = size) (h63 : n + m ≤ maxLen) (hbytes : (n + m) * bytes ≤ 140737488355328) (hB : B ≤ w.heap.size)
    (hK : ∀ v' w', Row w' B size v' (n + m) (xs ++ news) → w.grownBy w' v.ownBlock → (∀ k, v'.ownBlock = some k → v.ownBlock = some k ∨ k = w.heap.size) → wpList Try.prog ops Q rest (a.put o.dst v') w') : wpList Try.prog ops Q (o :: rest) a w := by
  refine wpList_plain hgd fun K hK' => ?_
  obtain ⟨v', w', hrun, r1, r2, r3⟩ := run_append_row o.type h hs ht hi hz hsize hby hzs h63 hbytes hB
  unfold Oper.wp
  simp [execOp, ho, resolve, invoke, builtin, hv, hx, hrun, Result.andThen]
  exact hK' _ _ (hK v' w' r1 r2 r3)
theorem wp_append_run {o : Oper} {a : Act} {K : Act → World → Prop} {Q : Exit → Act → World → Prop} {s x : Operand} {t tx : TypeId} {v' xv : Value}
    (ho : o.op = .call { callee := .builtin .append, args := #[s, x], argTypes := #[t, tx] }) (hv : a.eval s = v) (hx : a.eval x = xv) (hrun : (Builtin.append_ #[t, tx] o.type #[v, xv]).run Try.prog w = .ok v' w') (h : K (a.put o.dst v') w') : o.wp Try.prog a w K Q := by
  unfold Oper.wp
  simp [execOp, ho, resolve, invoke, builtin, hv, hx, hrun, Result.andThen]
  exact h
/-- Behind an append: what lies elsewhere is as it was. -/
theorem row_below {b : World} {C : Nat} (hb : Below C b w) (h : Row w B size v n xs) (g : w.grownBy w' v.ownBlock) (hC : C ≤ B) (hw : C ≤ w.heap.size) : Below C b w' :=
  hb.grown g hw (fun k hk => Nat.le_trans hC (h.lt k hk).1)
set_option maxRecDepth 100000 in
theorem src_at {t e : TypeId} {a : Option Addr} {c : Nat} (ht : Try.prog.underlying t = some (.slice e)) (hr : RowAt w a xs) (hl : xs.length = n * size) (ha : a = none → n = 0 ∧ c = c) (h1 : ∀ u ∈ xs, u.oneCell' = true) : Src Try.prog size t (.slice a n c) n xs w := by
  rcases a with _ | a
  · obtain ⟨rfl, _⟩ := ha rfl
    have : xs = [] := List.eq_nil_of_length_eq_zero (by simpa using hl)
    subst this
    exact Src.ofNil w ht c
  · refine Src.ofSlice w ht a n c xs hl (fun j u hu => ?_) h1
    obtain ⟨b, off, e, hc⟩ := RowAt.get hr hu
    injection e with e
    subst e
    simpa [Go.WideShapes.add_plain] using hc
end
end Go.Proofs.Ytdijakobocnceaa
