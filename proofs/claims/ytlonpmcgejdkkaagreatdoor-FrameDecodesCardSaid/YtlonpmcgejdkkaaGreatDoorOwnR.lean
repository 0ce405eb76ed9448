/-
  A row of bytes of the call's own, that may begin as the bytes of a text: what an append makes of it.
-/
import Derived.Test.YtlonpmcgejdkkaaGreatDoorMem
import Derived.Deep.AppendSrc
import Derived.Laws.IdiomStrings
namespace Go.Proofs.YtlonpmcgejdkkaaGreatDoor
open Go.RowKit
/-- The slice v of n one-cell elements xs begins at the head of a block from B on; its spare cells are there, and may be written. -/
structure OwnR (w : World) (B : Nat) (v : Value) (n : Nat) (xs : List Value) : Prop where
  len : xs.length = n
  val : ∃ g cap, v = .slice (some ⟨g, 0, none⟩) n cap ∧ B ≤ g ∧ g < w.heap.size ∧ n ≤ cap ∧ cap ≤ maxLen ∧ (∀ (j : Nat) (u : Value), xs[j]? = some u → w.cell? ⟨g, j, none⟩ = some u) ∧
    ∀ j, n ≤ j → j < cap → (w.cell? ⟨g, j, none⟩).isSome = true ∧ w.frozen? ⟨g, j, none⟩ = false

theorem OwnR.move {w w' : World} {B : Nat} {v : Value} {n : Nat} {xs : List Value} (h : OwnR w B v n xs) (hb : Below w.heap.size w w') : OwnR w' B v n xs := by
  obtain ⟨hl, g, cap, e, h1, h2, h3, h4, h5, h6⟩ := h
  refine ⟨hl, g, cap, e, h1, Nat.lt_of_lt_of_le h2 hb.size, h3, h4, fun j u hu => (hb.cell (p := ⟨g, j, none⟩) h2).trans (h5 j u hu), fun j hj hj2 => ?_⟩
  rw [hb.cell (p := ⟨g, j, none⟩) h2, hb.frozen (p := ⟨g, j, none⟩) h2]
  exact h6 j hj hj2
theorem cells_alloc {w : World} {C : Array Value} {t : TypeId} {fr : Nat × Nat} (j : Nat) : (w.alloc (.cells C t fr)).cell? ⟨w.heap.size, j, none⟩ = C[j]? := World.cell?_alloc_mark w C t fr j

theorem new1 (w : World) (v : Value) (t : TypeId) : (w.alloc (.cells #[v] t)).cell? ⟨w.heap.size, 0, none⟩ = some v := cells_alloc (C := #[v]) 0
/-- Bytes as cells. -/
def u8s (l : List UInt8) : List Value := l.map fun b => Value.int .u8 b.toNat
theorem u8s_snoc (l : List UInt8) (b : UInt8) : u8s (l ++ [b]) = u8s l ++ [.int .u8 b.toNat] := by simp [u8s]
theorem app_mk (s : ByteArray) (l : List UInt8) : s ++ ⟨l.toArray⟩ = ⟨(s.data.toList ++ l).toArray⟩ := by
  apply ByteArray.ext
  simp
theorem ownR_text (w : World) (B : Nat) (s : ByteArray) (c : Nat) (e : TypeId) (hB : B ≤ w.heap.size) (hc : s.size ≤ c) (hm : c ≤ maxLen) :
    OwnR (w.drew.alloc (.cells (bytesRow s c) e ((bytesRow s c).size, (bytesRow s c).size + 1))) B (.slice (some ⟨w.heap.size, 0, none⟩) s.size c) s.size (u8s s.data.toList) := by
  unfold u8s
  have hsz : (bytesRow s c).size = c := by
    unfold bytesRow
    simp only [Array.size_append, Array.size_map, Array.size_replicate]
    show s.size + (c - s.size) = c
    omega
  have hcell : ∀ j, (w.drew.alloc (.cells (bytesRow s c) e ((bytesRow s c).size, (bytesRow s c).size + 1))).cell? ⟨w.heap.size, j, none⟩ = (bytesRow s c)[j]? := fun j => World.cell?_alloc_mark w.drew _ e _ j
  refine ⟨by simp, w.heap.size, c, rfl, hB, ?_, hc, hm, fun j u hu => ?_, fun j hj hj2 => ?_⟩
  · show w.heap.size < (w.heap.push _).size
    simp
  · rw [hcell]
    rw [List.getElem?_map, Option.map_eq_some_iff] at hu
    obtain ⟨b, hb, rfl⟩ := hu
    have hj : j < s.data.size := by simpa using (List.getElem?_eq_some_iff.1 hb).1
    rw [bytesRow_at s c j hj]
    have := (List.getElem?_eq_some_iff.1 hb).2
    rw [← this]
    simp
  · rw [hcell]
    refine ⟨by rw [Array.getElem?_eq_getElem (by omega)]; rfl, ?_⟩
    refine (World.frozen?_alloc_mark w.drew _ e _ _ j).trans ?_
    have : decide ((bytesRow s c).size ≤ j) = false := by rw [hsz]; simp; omega
    rw [this]
    rfl

/-- One element more: there is room, or a new row is made. -/
theorem run_append_one (w : World) {B : Nat} {v : Value} {n : Nat} {xs : List Value} (h : OwnR w B v n xs) (t ty e : TypeId) (i : TypeInfo) (z : Value) (bytes : Nat) (ht : Tryz.prog.underlying t = some (.slice e)) (hi : Tryz.prog.info? e = some i)
    (hz : i.zero = some z) (hsize : i.size = 1) (hby : i.bytes = bytes) (hzs : z.cells.size = 1) (a : Addr) (c : Nat) (x : Value) (hx : x.oneCell' = true) (hc : w.cell? a = some x)
    (h63 : n + 1 ≤ maxLen) (hbytes : (n + 1) * bytes ≤ 140737488355328) (hB : B ≤ w.heap.size) :
    ∃ v' w', (Builtin.append_ #[t, t] ty #[v, .slice (some a) 1 c]).run Tryz.prog w = .ok v' w' ∧ OwnR w' B v' (n + 1) (xs ++ [x]) ∧ Below B w w' := by
  have hsmall : n + 1 ≤ 9223372036854775807 := by simp only [maxLen] at h63; omega
  have hnews : ∀ (j : Nat) (u : Value), [x][j]? = some u → w.cell? (a.add j) = some u := fun j u hu => by
    rcases j with _ | j
    · simp at hu; subst hu; simpa [Addr.add] using hc
    · simp at hu
  have h1 : ∀ u ∈ [x], u.oneCell' = true := fun u hu => by simp at hu; subst hu; exact hx
  obtain ⟨hl, g, cap, rfl, hg1, hg2, hnc, hcm, hcell, hsp⟩ := h
  by_cases hroom : n + 1 ≤ cap
  · have hs : Src Tryz.prog i.size t (.slice (some a) 1 c) 1 [x] w := Src.ofSlice _ ht a 1 c [x] (by simp [hsize]) hnews h1
    have hr := run_append_room_src (P := Tryz.prog) w t t ty e i ht hi g 0 n cap (.slice (some a) 1 c) 1 [x] hs hroom
      (fun j hj => by simp at hj; subst hj; rw [hsize]; simpa using (hsp n (Nat.le_refl _) (by omega)).1)
      (fun j hj => by simp at hj; subst hj; rw [hsize]; simpa using (hsp n (Nat.le_refl _) (by omega)).2)
    rw [hsize] at hr
    simp only [Nat.zero_add, Nat.mul_one] at hr
    refine ⟨_, _, hr, ⟨by simp [hl], g, cap, rfl, hg1, ?_, hroom, hcm, fun j u hu => ?_, fun j hj hj2 => ?_⟩, ?_⟩
    · simpa [World.setCells, World.setCell] using hg2
    · show (w.setCell ⟨g, n, none⟩ x).cell? ⟨g, j, none⟩ = some u
      by_cases hj : j = n
      · subst hj
        rw [← hl] at hu
        simp at hu
        subst hu
        exact World.cell?_setCell_same' w _ _ (hsp j (Nat.le_refl _) (by omega)).1
      · have hjl : j < xs.length := by
          have := (List.getElem?_eq_some_iff.1 hu).1
          simp at this
          omega
        rw [List.getElem?_append_left hjl] at hu
        rw [World.cell?_setCell_other w _ _ _ (by simp)]
        exact hcell j u hu
    · show ((w.setCell ⟨g, n, none⟩ x).cell? ⟨g, j, none⟩).isSome = true ∧ (w.setCell ⟨g, n, none⟩ x).frozen? ⟨g, j, none⟩ = false
      rw [World.cell?_setCell_other w _ _ _ (by intro e; simp at e), World.frozen?_setCell]
      exact hsp j (by omega) hj2
    · exact (Below.refl B w).setCell (p := ⟨g, n, none⟩) hg1 x
  · have hr := run_append_grow (P := Tryz.prog) w t ty e i z ht hi hz ⟨g, 0, none⟩ n cap xs (by rw [hsize]; omega) (fun j u hu => by
        have := hcell j u hu
        simpa [Go.WideShapes.add_plain] using this) a 1 c [x] (by simp [hsize]) hnews (by omega) (by omega) (growslice_fits (by omega) (by rw [hby]; exact hbytes))
    have hge := grownCap_ge w (n + 1) cap e
    have hle := grownCap_le_maxLen w (n + 1) cap e h63
    have hsz : (xs.toArray ++ #[x] ++ Builtin.zeroCells z.cells (grownCap w (n + 1) cap e - (n + 1))).size = grownCap w (n + 1) cap e := by
      simp only [Array.size_append, List.size_toArray, size_zeroCells, hzs, hl]
      simp
      omega
    refine ⟨_, _, hr, ⟨by simp [hl], w.heap.size, grownCap w (n + 1) cap e, rfl, hB, ?_, hge, hle, fun j u hu => ?_, fun j hj hj2 => ?_⟩, (Below.refl B w).drew.alloc hB _⟩
    · show w.heap.size < (w.heap.push _).size
      simp
    · rw [show w.heap.size = w.drew.heap.size from rfl, cells_alloc]
      have hj : j < (xs ++ [x]).length := (List.getElem?_eq_some_iff.1 hu).1
      rw [Array.getElem?_append_left (by simp at hj ⊢; omega)]
      simpa using hu
    · rw [show w.heap.size = w.drew.heap.size from rfl, cells_alloc]
      refine ⟨by rw [Array.getElem?_eq_getElem (by rw [hsz]; exact hj2)]; rfl, ?_⟩
      refine (World.frozen?_alloc_mark w.drew _ e 0 0 j).trans (by simp)
theorem wpList_append_one (w : World) {ops : Array Oper} {rest : List Oper} {o : Oper} {a : Act} {Q : Exit → Act → World → Prop} (hgd : o.guard = none) (s x : Operand) (t : TypeId)
    (ho : o.op = .call { callee := .builtin .append, args := #[s, x], argTypes := #[t, t] })
    {B : Nat} {v : Value} {n : Nat} {xs : List Value} (h : OwnR w B v n xs) (hs : a.eval s = v) (e : TypeId) (i : TypeInfo) (z : Value) (bytes : Nat) (ht : Tryz.prog.underlying t = some (.slice e)) (hi : Tryz.prog.info? e = some i)
    (hz : i.zero = some z) (hsize : i.size = 1) (hby : i.bytes = bytes) (hzs : z.cells.size = 1) (ad : Addr) (c : Nat) (u : Value) (hx : a.eval x = .slice (some ad) 1 c) (hu : u.oneCell' = true) (hc : w.cell? ad = some u)
    (h63 : n + 1 ≤ maxLen) (hbytes : (n + 1) * bytes ≤ 140737488355328) (hB : B ≤ w.heap.size)
    (hK : ∀ v' w', OwnR w' B v' (n + 1) (xs ++ [u]) → Below B w w' → wpList Tryz.prog ops Q rest (a.put o.dst v') w') : wpList Tryz.prog ops Q (o :: rest) a w := by
  refine wpList_plain hgd fun K hK' => ?_
  obtain ⟨v', w', hrun, r1, r2⟩ := run_append_one w h t o.type e i z bytes ht hi hz hsize hby hzs ad c u hu hc h63 hbytes hB
  unfold Oper.wp
  simp [execOp, ho, resolve, invoke, builtin, hs, hx, hrun, Result.andThen]
  exact hK' _ _ (hK v' w' r1 r2)
/-- The text of a row of bytes. -/
theorem run_text_of (w : World) {B : Nat} {v : Value} {n : Nat} {l : List UInt8} (h : OwnR w B v n (u8s l)) (src dst e : TypeId) (hs : Tryz.prog.underlying src = some (.slice e)) (he : Tryz.prog.underlying e = some (.int .u8))
    (hd : Tryz.prog.underlying dst = some .string) : (convert src dst v).run Tryz.prog w = .ok (.string ⟨l.toArray⟩) w := by
  unfold u8s at h
  obtain ⟨hl, g, cap, rfl, _, _, _, _, hcell, _⟩ := h
  simp only [List.length_map] at hl
  subst hl
  exact run_convert_bytes_back w src dst e ⟨g, 0, none⟩ cap l hs he hd (fun j hj => by
    have := hcell j (.int .u8 l[j].toNat) (by simp [List.getElem?_eq_getElem hj])
    simpa [Go.WideShapes.add_plain] using this)
end Go.Proofs.YtlonpmcgejdkkaaGreatDoor
