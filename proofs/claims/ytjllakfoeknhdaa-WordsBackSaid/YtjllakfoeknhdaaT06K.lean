/-
  Layer 6: words come back from their line, and lines from their text: plain facts.
-/
import Derived.Test.YtjllakfoeknhdaaT06J
namespace Go.Proofs.Ytjllakfoeknhdaa.AE
open Go.RowKit
theorem ba_back (x : ByteArray) : ba x.data.toList = x := ba_ext rfl
theorem map_ba (l : List ByteArray) : (l.map (·.data.toList)).map ba = l := by
  induction l with
  | nil => rfl
  | cons x l ih =>
    rw [List.map_cons, List.map_cons, ih]
    show ba x.data.toList :: l = _
    rw [ba_back]
theorem wds_end {x : List UInt8} (h : ∀ c ∈ x, plainW c) : wds [] x = flush x := by
  have := wds_run x [] [] h
  rwa [List.append_nil, List.nil_append] at this
theorem wds_join : ∀ l : List (List UInt8), (∀ x ∈ l, x ≠ [] ∧ ∀ c ∈ x, plainW c) → wds [] (Lib.join l [32]) = l
  | [], _ => rfl
  | [x], h => by
    have hx := h x (List.mem_cons_self ..)
    have e : Lib.join [x] [32] = x := by simp [Lib.join]
    rw [e, wds_end hx.2, flush, if_neg hx.1]
  | x :: y :: l, h => by
    have hx := h x (List.mem_cons_self ..)
    have e : Lib.join (x :: y :: l) [32] = x ++ 32 :: Lib.join (y :: l) [32] := by simp [Lib.join]
    rw [e, wds_run x [] _ hx.2, List.nil_append, wds, if_neg (by decide), if_pos (by decide), flush, if_neg hx.1, wds_join (y :: l) fun z hz => h z (List.mem_cons_of_mem _ hz)]
    rfl
theorem lns_all : ∀ l : List (List UInt8), (∀ x ∈ l, (10 : UInt8) ∉ x) → lns [] (l.flatMap (· ++ [10])) = l
  | [], _ => rfl
  | x :: l, h => by
    have hx := h x (List.mem_cons_self ..)
    rw [List.flatMap_cons, List.append_assoc, lns_run x [] _ hx, List.nil_append]
    show lns x (10 :: l.flatMap (· ++ [10])) = _
    rw [lns, if_pos rfl, lns_all l fun z hz => h z (List.mem_cons_of_mem _ hz)]
def wordC (c : UInt8) : Bool := !(c == 32) && !(c == 9) && !(c == 35)
def lineC (c : UInt8) : Bool := !(c == 10)
def isWord (x : ByteArray) : Bool := decide (0 < x.size) && x.data.toList.all wordC
def isLine (x : ByteArray) : Bool := x.data.toList.all lineC
def textB (l : List ByteArray) : ByteArray := ba ((l.map (·.data.toList)).flatMap (· ++ [10]))
def nlB : ByteArray := ⟨#[10]⟩
theorem textB_snoc (l : List ByteArray) (x : ByteArray) : textB (l ++ [x]) = textB l ++ x ++ nlB := by
  apply ba_ext
  rw [ByteArray.data_append, ByteArray.data_append, Array.toList_append, Array.toList_append]
  show (List.toArray _).toList = (List.toArray _).toList ++ _ ++ _
  rw [List.map_append, List.flatMap_append]
  simp [nlB]
theorem textB_size {N : Nat} : ∀ (l : List ByteArray), (∀ x ∈ l, x.size ≤ N) → ((l.map (·.data.toList)).flatMap (· ++ [10])).length ≤ (N + 1) * l.length
  | [], _ => Nat.zero_le _
  | x :: l, h => by
    have ih := textB_size l fun z hz => h z (List.mem_cons_of_mem _ hz)
    have hx := h x (List.mem_cons_self ..)
    have hd : x.data.toList.length = x.size := len_data x
    have e : (N + 1) * (x :: l).length = (N + 1) * l.length + (N + 1) := Nat.mul_succ _ _
    rw [List.map_cons, List.flatMap_cons, List.length_append, List.length_append, e]
    simp only [List.length_cons, List.length_nil]
    omega
theorem words_back {l : List ByteArray} (h : ∀ x ∈ l, isWord x = true) : wordsS (joinB l blank) = l := by
  unfold wordsS
  have e : (joinB l blank).data.toList = Lib.join (l.map (·.data.toList)) [32] := by show (List.toArray _).toList = _; rfl
  rw [e, wds_join, map_ba]
  intro x hx
  obtain ⟨y, hy, rfl⟩ := List.mem_map.1 hx
  have := h y hy
  unfold isWord at this
  simp only [Bool.and_eq_true, decide_eq_true_eq, List.all_eq_true] at this
  refine ⟨fun e => ?_, fun c hc => ?_⟩
  · have hd : y.data.toList.length = y.size := len_data y
    rw [e] at hd; simp at hd; omega
  · have := this.2 c hc
    unfold wordC at this
    simp only [Bool.and_eq_true, Bool.not_eq_true', beq_eq_false_iff_ne, ne_eq] at this
    exact ⟨this.2, this.1.1, this.1.2⟩
theorem lines_back {l : List ByteArray} (h : ∀ x ∈ l, isLine x = true) : linesS (textB l) = l := by
  unfold linesS
  show (lns [] (List.toArray _).toList).map ba = l
  rw [List.toList_toArray, lns_all, map_ba]
  intro x hx
  obtain ⟨y, hy, rfl⟩ := List.mem_map.1 hx
  have := h y hy
  unfold isLine at this
  rw [List.all_eq_true] at this
  intro hm
  have := this _ hm
  simp [lineC] at this
/-! Up to 40 texts of up to 100 bytes. -/
def fewL (l : List ByteArray) : Bool := (l.take 40).all (fun x => decide (x.size ≤ 100)) && decide (l.length ≤ 40)
theorem fewL_of {l : List ByteArray} (h : fewL l = true) : l.length ≤ 40 ∧ ∀ x ∈ l, x.size ≤ 100 := by
  unfold fewL at h
  simp only [Bool.and_eq_true, decide_eq_true_eq, List.all_eq_true] at h
  rw [List.take_of_length_le h.2] at h
  exact ⟨h.2, h.1⟩
end Go.Proofs.Ytjllakfoeknhdaa.AE
