/-
  The abstract run's operations.
-/
import Derived.Test.YtdijakobocnceaaAEInv
namespace Go.Proofs.Ytdijakobocnceaa.AE
set_option maxRecDepth 100000
open Go.RowKit
def pu (P : Program) {α : Type} : Sem α → Option α
  | .pure a => some a
  | .program k => pu P (k P)
  | .mark _ k => pu P k
  | _ => none
def ev (act : List AV) : Operand → AV
  | .tmp t => act.getD t (.v undef)
  | .const v => .v v
  | .global g => .v (.pointer (some ⟨g, 0, none⟩))
  | .func f => .v (.func (.func f) #[] #[])
def isV (x : AV) : Bool := match x with
  | .v _ => true
  | _ => false
def vOf (x : AV) : Value := match x with
  | .v u => u
  | _ => undef
/-- Any operation on values that hold no place of the run's own. -/
def gen (P : Program) (act : List AV) (o : Oper) : Option AV := match o.op with
  | .select _ _ => none
  | _ => if o.op.operands.toList.all (fun x => isV (ev act x)) then match pu P (execOp (fun x => vOf (ev act x)) o) with
    | some (.value c) => some (.v c)
    | _ => none
    else none
def sel (t : Bool) (x y : AV) : AV := match x, y with
  | .v (.bool p), .v (.bool q) => .v (.bool (cond t p q))
  | .v (.int k m), .v (.int l n) => if k = l then .v (.int k (cond t m n)) else cond t x y
  | x, y => cond t x y
def sz? (P : Program) (t : TypeId) : Option Nat := match P.info? t with
  | some i => some i.size
  | none => none
def isRow? (P : Program) (t : TypeId) : Option Bool := match P.underlying t with
  | some (.struct _) => some true
  | some (.array _ _) => some true
  | some _ => some false
  | none => none
def elem? (P : Program) (t : TypeId) : Option (TypeId × Nat) := match P.underlying t with
  | some (.slice e) => match sz? P e with
    | some s => some (e, s)
    | none => none
  | _ => none
def loadFrom (P : Program) (t : TypeId) (cells : List AV) (off : Nat) : Option AV := match isRow? P t with
  | some true => match sz? P t with
    | some n => if off + n ≤ cells.length then some (mkAgg ((cells.drop off).take n)) else none
    | none => none
  | some false => cells[off]?
  | none => none
def newP (H : AH) (t : TypeId) (cs : List AV) : AV × AH := (.ptr H.blks.length 0, { H with blks := H.blks ++ [(t, cs)] })
def one (x : AV) : Bool := match x with
  | .v u => u.oneCell'
  | .agg _ => false
  | .tuple _ => false
  | .dead => false
  | _ => true
/-! What unknown data is taken for. -/
def exInt (x : AV) : Int := match x with
  | .v (.int _ n) => n
  | _ => 0
def exBool (x : AV) : Bool := match x with
  | .v (.bool b) => b
  | _ => false
def exStr (x : AV) : ByteArray := match x with
  | .v (.string s) => s
  | _ => ByteArray.empty
def exXs (x : AV) : List AV := match x with
  | .lst _ xs _ => xs
  | _ => []
def cellTys (P : Program) : Nat → TypeId → Option (List TypeId)
  | 0, _ => none
  | d + 1, t => match P.underlying t with
    | some (.struct fs) => fs.toList.foldr (fun f acc => match cellTys P d f.type with
      | some a => match acc with
        | some b => some (a ++ b)
        | none => none
      | none => none) (some [])
    | some (.array n e) => match cellTys P d e with
      | some l => some (List.replicate n l).flatten
      | none => none
    | some _ => some [t]
    | none => none
def expand1 (P : Program) (t : TypeId) (x : AV) : AV := match P.underlying t with
  | some (.int k) => .v (.int k (exInt x))
  | some .bool => .v (.bool (exBool x))
  | some .string => .v (.string (exStr x))
  | some (.slice e) => match sz? P e with
    | some s => .lst s (exXs x) .no
    | none => x
  | _ => x
def expandC (P : Program) (f : Nat → AV) : Nat → List TypeId → List AV
  | _, [] => []
  | i, t :: ts => expand1 P t (f i) :: expandC P f (i + 1) ts
/-- An element of a list of the type t, as far as its type tells. -/
def expandE (P : Program) (t : TypeId) (y : AV) : Option AV := match isRow? P t with
  | some true => match cellTys P 8 t with
    | some ts => some (mkAgg (expandC P (fun i => y.cells.getD i .dead) 0 ts))
    | none => none
  | some false => some (expand1 P t y)
  | none => none
/-- A value is what its type tells. -/
def shape1 (P : Program) (t : TypeId) (x : AV) : Bool := match P.underlying t with
  | some (.int k) => match x with
    | .v (.int k' _) => decide (k' = k)
    | _ => false
  | some .bool => match x with
    | .v (.bool _) => true
    | _ => false
  | some .string => match x with
    | .v (.string _) => true
    | _ => false
  | some (.slice e) => match sz? P e with
    | some s => match x with
      | .lst s' _ .no => decide (s' = s)
      | _ => false
    | none => true
  | _ => true
def shapes (P : Program) : List AV → List TypeId → Bool
  | [], [] => true
  | x :: l, t :: ts => match shape1 P t x with
    | true => shapes P l ts
    | false => false
  | _, _ => false
def elemB (P : Program) (t : TypeId) (xs : List AV) (n : Int) : Bool := match decide (0 ≤ n) with
  | true => match xs[n.toNat]? with
    | some y => match isRow? P t with
      | some true => match cellTys P 8 t with
        | some ts => match y with
          | .v (.agg cs) => shapes P (cs.toList.map .v) ts
          | .agg cs => match vals? cs with
            | some _ => false
            | none => shapes P cs ts
          | _ => false
        | none => false
      | some false => shape1 P t y
      | none => false
    | none => false
  | false => false
theorem shape1_ok {P : Program} {t : TypeId} {x : AV} (h : shape1 P t x = true) : expand1 P t x = x := by
  unfold shape1 at h
  unfold expand1
  generalize P.underlying t = u at h ⊢
  split at h
  · split at h
    · rw [of_decide_eq_true h]; rfl
    · cases h
  · split at h
    · rfl
    · cases h
  · split at h
    · rfl
    · cases h
  · split at h
    · rename_i e s hs
      split at h
      · have := of_decide_eq_true h; subst this; simp only [exXs]
      · cases h
    · rfl
  · rename_i h1 h2 h3 h4
    cases u with
    | none => rfl
    | some u =>
      cases u <;> first | rfl | exact (h2 rfl).elim | exact (h3 rfl).elim | exact (h1 _ rfl).elim | exact (h4 _ rfl).elim
theorem shapes_go {P : Program} : ∀ (l : List AV) (ts : List TypeId) (f : Nat → AV) (k : Nat), shapes P l ts = true → (∀ i x, l[i]? = some x → f (k + i) = x) → expandC P f k ts = l
  | [], [], _, _, _, _ => rfl
  | x :: l, t :: ts, f, k, h, hf => by
    unfold shapes at h
    split at h
    · rename_i h1
      unfold expandC
      rw [show f k = x from hf 0 x rfl, shape1_ok h1, shapes_go l ts f (k + 1) h (fun i y hy => by rw [Nat.add_right_comm]; exact hf (i + 1) y (by simpa using hy))]
    · cases h
  | [], _ :: _, _, _, h, _ => by simp [shapes] at h
  | _ :: _, [], _, _, h, _ => by simp [shapes] at h
theorem shapes_ok {P : Program} {n off : Nat} {cs : List AV} {ts : List TypeId} (h : shapes P ((cs.drop off).take n) ts = true) : (cs.drop off).take n = expandC P (fun i => cs.getD (off + i) .dead) 0 ts := by
  refine (shapes_go _ ts _ 0 h (fun i x hx => ?_)).symm
  rw [List.getElem?_take] at hx
  split at hx
  · rw [List.getElem?_drop] at hx
    simp [List.getD_eq_getElem?_getD, hx]
  · cases hx
theorem elem_ok {P : Program} {e : TypeId} {xs : List AV} {n : Int} {y : AV} (hy : expandE P e (xs.getD n.toNat .dead) = some y) (h : elemB P e xs n = true) : 0 ≤ n ∧ xs[n.toNat]? = some y := by
  unfold elemB at h
  split at h
  · rename_i h0
    refine ⟨of_decide_eq_true h0, ?_⟩
    split at h
    · rename_i x hx
      rw [List.getD_eq_getElem?_getD, hx] at hy
      simp only [Option.getD_some] at hy
      unfold expandE at hy
      split at h
      · rename_i hr
        rw [hr] at hy
        simp only at hy
        split at h
        · rename_i ts hts
          rw [hts] at hy
          simp only [Option.some.injEq] at hy
          rw [hx, ← hy]
          split at h
          · rename_i cs
            rw [shapes_go (cs.toList.map .v) ts _ 0 h (fun i z hz => by simp only [AV.cells, Nat.zero_add, List.getD_eq_getElem?_getD, hz, Option.getD_some])]
            have : ∀ l : List Value, vals? (l.map AV.v) = some l := by
              intro l
              induction l with
              | nil => rfl
              | cons u l ih => simp [vals?, AV.val?, ih]
            unfold mkAgg
            rw [this]
          · rename_i cs
            split at h
            · cases h
            · rename_i hv
              rw [shapes_go cs ts _ 0 h (fun i z hz => by simp only [AV.cells, Nat.zero_add, List.getD_eq_getElem?_getD, hz, Option.getD_some])]
              unfold mkAgg
              rw [hv]
          · cases h
        · cases h
      · rename_i hr
        rw [hr] at hy
        simp only [Option.some.injEq] at hy
        rw [hx, ← hy, shape1_ok h]
      · cases h
    · cases h
  · cases h
def load (P : Program) (ro : Nat → Option (List Value)) (H : AH) (t : TypeId) (x : AV) : Option (AV × AH) := match x with
  | .ptr id off => match H.at id with
    | some b => match loadFrom P t b.2 off with
      | some r => some (r, H)
      | none => none
    | none => none
  | .pi id off => match H.at id with
    | some b => match H.sy with
      | true => match sz? P t, cellTys P 8 t with
        | some n, some ts => match loadFrom P t (expandC P (fun i => b.2.getD (off + i) .dead) 0 ts) 0 with
          | some r => some (r, grant H (shapes P ((b.2.drop off).take n) ts) ((b.2.drop off).take n = expandC P (fun i => b.2.getD (off + i) .dead) 0 ts))
          | none => none
        | _, _ => none
      | false => match loadFrom P t b.2 off with
        | some r => some (r, H)
        | none => none
    | none => none
  | .lp cells => match loadFrom P t cells 0 with
    | some r => some (r, H)
    | none => none
  | .v (.pointer (some a)) => match a.spot with
    | none => match ro a.block with
      | some cs => match H.sy with
        | true => match sz? P t, cellTys P 8 t with
          | some n, some ts => match loadFrom P t (expandC P (fun i => (cs.map AV.v).getD (a.off + i) .dead) 0 ts) 0 with
            | some r => some (r, grant H (shapes P (((cs.map AV.v).drop a.off).take n) ts) (((cs.map AV.v).drop a.off).take n = expandC P (fun i => (cs.map AV.v).getD (a.off + i) .dead) 0 ts))
            | none => none
          | _, _ => none
        | false => match loadFrom P t (cs.map .v) a.off with
          | some r => some (r, H)
          | none => none
      | none => none
    | some _ => none
  | _ => none
def ptr? (x : AV) : Option (Nat × Nat) := match x with
  | .ptr id off => some (id, off)
  | .pi id off => some (id, off)
  | _ => none
def storeTo (P : Program) (H : AH) (t : TypeId) (x y : AV) : Option AH := match ptr? y with
  | some io => match H.at io.1 with
    | some b => match sz? P t with
      | some n => if x.cells.length = n ∧ H.mb ≤ io.1 then if x.cells.all one then match need H (io.2 + n ≤ b.2.length) with
        | some H1 => some { H1 with blks := H.blks.set io.1 (b.1, splice b.2 io.2 x.cells) }
        | none => none
        else none else none
      | none => none
    | none => none
  | none => none
def field? (P : Program) (t : TypeId) (f : Nat) : Option (Nat × TypeId) := match P.underlying t with
  | some (.struct fs) => match fs[f]? with
    | some fd => match sz? P fd.type with
      | some (_ + 1) => some (fd.offset, fd.type)
      | _ => none
    | none => none
  | _ => none
def fieldAddr (P : Program) (t : TypeId) (f : Nat) (x : AV) : Option AV := match field? P t f with
  | some (o, _) => match x with
    | .ptr id off => some (.ptr id (off + o))
    | .pi id off => some (.pi id (off + o))
    | .lp cells => some (.lp (cells.drop o))
    | .v (.pointer (some a)) => match a.spot with
      | none => some (.v (.pointer (some ⟨a.block, a.off + o, none⟩)))
      | some _ => none
    | _ => none
  | none => none
def indexAddr (P : Program) (H : AH) (t : TypeId) (x : AV) (n : Int) : Option (AV × AH) := match P.underlying t with
  | some (.slice e) => match sz? P e with
    | some s => match x with
      | .lst sz xs _ => if sz = s ∧ 0 < s then match H.sy with
          | true => match expandE P e (xs.getD n.toNat .dead) with
            | some y => some (.lp y.cells, grant H (elemB P e xs n) (0 ≤ n ∧ xs[n.toNat]? = some y))
            | none => none
          | false => if 0 ≤ n then match xs[n.toNat]? with
            | some y => some (.lp y.cells, H)
            | none => none
            else none
        else none
      | .sl id off len _ => match need H (0 ≤ n ∧ n < len) with
        | some H1 => some (.pi id (off + n.toNat * s), H1)
        | none => none
      | _ => none
    | none => none
  | some (.array len e) => match sz? P e with
    | some s => match need H (0 ≤ n ∧ n < len) with
      | some H1 => match x with
        | .ptr id off => some (.pi id (off + n.toNat * s), H1)
        | .pi id off => some (.pi id (off + n.toNat * s), H1)
        | .lp cells => some (.lp (cells.drop (n.toNat * s)), H1)
        | .v (.pointer (some a)) => match a.spot with
          | none => some (.v (.pointer (some ⟨a.block, a.off + n.toNat * s, none⟩)), H1)
          | some _ => none
        | _ => none
      | none => none
    | none => none
  | _ => none
def intOf? (x : AV) : Option Int := match x with
  | .v (.int _ n) => some n
  | _ => none
def bnd (act : List AV) (d : Int) : Option Operand → Option Int
  | none => some d
  | some x => intOf? (ev act x)
/-- x[l:h:m] of a list. -/
def cut (H : AH) (sz : Nat) (xs : List AV) (l h : Int) (m : Option Int) : Option (AV × AH) := match m with
  | none => match need H (0 ≤ l ∧ l ≤ h ∧ h ≤ xs.length) with
    | some H1 => some (.lst sz ((xs.take h.toNat).drop l.toNat) .no, H1)
    | none => none
  | some m => match need H (0 ≤ l ∧ l ≤ h ∧ h = m ∧ m ≤ xs.length) with
    | some H1 => some (.lst sz ((xs.take h.toNat).drop l.toNat) .exact, H1)
    | none => none
def slice (P : Program) (act : List AV) (H : AH) (t : TypeId) (x : AV) (lo hi mx : Option Operand) : Option (AV × AH) := match P.underlying t with
  | some (.slice e) => match sz? P e with
    | some s => match x with
      | .lst sz xs tip => if sz = s then match lo, hi, mx with
        | none, none, none => some (.lst sz xs tip, H)
        | _, _, _ => match bnd act 0 lo with
          | some l => match bnd act xs.length hi with
            | some h => match mx with
              | none => cut H sz xs l h none
              | some m => match hi, intOf? (ev act m) with
                | some _, some m => cut H sz xs l h (some m)
                | _, _ => none
            | none => none
          | none => none
        else none
      | .sl id off len cap => match mx with
        | none => match bnd act 0 lo with
          | some l => match bnd act len hi with
            | some h => match lo with
              | none => match need H (0 ≤ l ∧ l ≤ h ∧ h ≤ cap) with
                | some H1 => some (.sl id off (h - l).toNat (cap - l.toNat), H1)
                | none => none
              | some _ => match need H (0 ≤ l ∧ l ≤ h ∧ h ≤ cap ∧ l < cap) with
                | some H1 => some (.sl id (off + l.toNat * s) (h - l).toNat (cap - l.toNat), H1)
                | none => none
            | none => none
          | none => none
        | some _ => none
      | _ => none
    | none => none
  | some (.array n e) => match sz? P e with
    | some s => match ptr? x with
      | some io => match mx with
        | none => match bnd act 0 lo with
          | some l => match bnd act n hi with
            | some h => match lo with
              | none => match need H (0 ≤ l ∧ l ≤ h ∧ h ≤ n) with
                | some H1 => some (.sl io.1 io.2 (h - l).toNat (n - l.toNat), H1)
                | none => none
              | some _ => match need H (0 ≤ l ∧ l ≤ h ∧ h ≤ n ∧ l < n) with
                | some H1 => some (.sl io.1 (io.2 + l.toNat * s) (h - l).toNat (n - l.toNat), H1)
                | none => none
            | none => none
          | none => none
        | some _ => none
      | none => none
    | none => none
  | some .string => match x with
    | .v (.string q) => match mx with
      | none => match bnd act 0 lo with
        | some l => match bnd act q.size hi with
          | some h => match need H (0 ≤ l ∧ l ≤ h ∧ h ≤ q.size) with
            | some H1 => some (.v (.string (q.extract l.toNat h.toNat)), H1)
            | none => none
          | none => none
        | none => none
      | some _ => none
    | _ => none
  | _ => none
def chunksN (sz : Nat) : Nat → List AV → List AV
  | 0, _ => []
  | n + 1, cs => mkAgg (cs.take sz) :: chunksN sz n (cs.drop sz)
def chunks (sz n : Nat) (cs : List AV) : List AV := if sz = 1 then cs.take n else chunksN sz n cs
def extract (x : AV) (i : Nat) : Option AV := match x with
  | .tuple vs => vs[i]?
  | .v (.tuple vs) => match vs[i]? with
    | some u => some (.v u)
    | none => none
  | _ => none
def isStr? (P : Program) (t : TypeId) : Bool := match P.underlying t with
  | some .string => true
  | _ => false
def isPtr? (P : Program) (t : TypeId) : Bool := match P.underlying t with
  | some (.pointer _) => true
  | _ => false
def isFn? (P : Program) (t : TypeId) : Bool := match P.underlying t with
  | some (.func _ _ _) => true
  | _ => false
def isSl? (P : Program) (t : TypeId) : Bool := match P.underlying t with
  | some (.slice _) => true
  | _ => false
def nilEq (P : Program) (t : TypeId) (x y : AV) : Bool := match x, y with
  | .ptr _ _, .v (.pointer none) => isPtr? P t
  | .pi _ _, .v (.pointer none) => isPtr? P t
  | .v (.pointer none), .pi _ _ => isPtr? P t
  | .lp _, .v (.pointer none) => isPtr? P t
  | .v (.pointer none), .ptr _ _ => isPtr? P t
  | .v (.pointer none), .lp _ => isPtr? P t
  | .fn _ _ _, .v .nilFunc => isFn? P t
  | .v .nilFunc, .fn _ _ _ => isFn? P t
  | .sl _ _ _ _, .v (.slice none 0 0) => isSl? P t
  | .v (.slice none 0 0), .sl _ _ _ _ => isSl? P t
  | _, _ => false
def isNilSlice (x : AV) : Bool := match x with
  | .v (.slice none 0 0) => true
  | _ => false
/-- What an append makes of a list: sz cells an element, of so many bytes. -/
def append (bytes sz : Nat) (H : AH) (s : AV) (ys : List AV) : Option (AV × AH) := match s with
  | .v (.slice none 0 0) => match need H (ys.length * bytes ≤ 140737488355328 ∧ ys.length ≤ maxLen) with
    | some H1 => some (.lst sz ys (.tp H.tips.length 0), { H1 with tips := H.tips ++ [0] })
    | none => none
  | .lst sz' xs (.tp t ver) => if sz' = sz ∧ H.mc ≤ t then match H.tips[t]? with
    | some ver' => match need H (((xs.length + ys.length) * bytes ≤ 140737488355328 ∧ xs.length + ys.length ≤ maxLen) ∧ ver' = ver) with
      | some H1 => some (.lst sz (xs ++ ys) (.tp t (ver + 1)), { H1 with tips := H.tips.set t (ver + 1) })
      | none => none
    | none => none
    else none
  | .lst sz' xs .exact => if sz' = sz then match need H ((xs.length + ys.length) * bytes ≤ 140737488355328 ∧ xs.length + ys.length ≤ maxLen) with
    | some H1 => match ys with
      | [] => some (s, H1)
      | _ :: _ => some (.lst sz (xs ++ ys) (.tp H.tips.length 0), { H1 with tips := H.tips ++ [0] })
    | none => none
    else none
  | _ => none
def len? (x : AV) : Option Int := match x with
  | .lst _ xs _ => some xs.length
  | .sl _ _ len _ => some len
  | .v (.slice none 0 0) => some 0
  | .v (.string s) => some s.size
  | _ => none
def isSlice? (P : Program) (t : TypeId) : Bool := match P.underlying t with
  | some (.slice _) => true
  | _ => false
def zero? (P : Program) (t : TypeId) : Option Value := match P.info? t with
  | some i => i.zero
  | none => none
def gen' (P : Program) (act : List AV) (H : AH) (o : Oper) : Option (AV × AH) := match gen P act o with
  | some r => some (r, H)
  | none => none
def withH (H : AH) : Option AV → Option (AV × AH)
  | some r => some (r, H)
  | none => none
/-- Any operation but a call of a function. -/
def op0 (P : Program) (ro : Nat → Option (List Value)) (act : List AV) (H : AH) (o : Oper) : Option (AV × AH) := match o.op with
  | .move x => some (ev act x, H)
  | .assign x => some (ev act x, H)
  | .pick c a b => match ev act c with
    | .v (.bool t) => some (sel t (ev act a) (ev act b), H)
    | _ => none
  | .alloc e => match zero? P e with
    | some z => if z.cells.toList.all (·.oneCell') ∧ OkT e then some (newP H e (z.cells.toList.map .v)) else none
    | none => none
  | .box e x => if (ev act x).cells.all one ∧ OkT e then some (newP H e (ev act x).cells) else none
  | .load t a => load P ro H t (ev act a)
  | .store t a x => match storeTo P H t (ev act x) (ev act a) with
    | some H' => some (.v undef, H')
    | none => none
  | .nilCheck x => match ev act x with
    | .ptr id off => some (.ptr id off, H)
    | .pi id off => some (.pi id off, H)
    | .lp cs => some (.lp cs, H)
    | .fn (.func g) a b => some (.fn (.func g) a b, H)
    | _ => gen' P act H o
  | .fieldAddr t x f => withH H (fieldAddr P t f (ev act x))
  | .indexAddr t x i => match intOf? (ev act i) with
    | some n => indexAddr P H t (ev act x) n
    | none => none
  | .slice t x lo hi mx => match ev act x with
    | .v (.slice _ _ _) => gen' P act H o
    | y => slice P act H t y lo hi mx
  | .extract x i => withH H (extract (ev act x) i)
  | .binOp b t x y _ => match b with
    | .eql => if nilEq P t (ev act x) (ev act y) then some (.v (.bool false), H) else gen' P act H o
    | .neq => if nilEq P t (ev act x) (ev act y) then some (.v (.bool true), H) else gen' P act H o
    | .add => match ev act x, ev act y with
      | .v (.string p), .v (.string q) => match need H (p.size + q.size ≤ 9223372036854775807) with
        | some H1 => some (.v (.string (p ++ q)), H1)
        | none => none
      | _, _ => gen' P act H o
    | _ => gen' P act H o
  | .index t x i => match ev act x, intOf? (ev act i) with
    | .v (.string q), some n => if isStr? P t then match need H (0 ≤ n ∧ n.toNat < q.size) with
      | some H1 => some (.v (.int .u8 ((q.data.getD n.toNat 0).toNat : Nat)), H1)
      | none => none
      else none
    | _, _ => gen' P act H o
  | .makeFunc f a b => some (.fn f (a.toList.map (ev act)) (b.toList.map (ev act)), H)
  | .call c => match c.callee with
    | .builtin .len => match c.args.toList, c.argTypes.toList with
      | [x], [t] => match len? (ev act x) with
        | some n => if isV (ev act x) then gen' P act H o else if isSlice? P t then some (.v (.int .i64 n), H) else none
        | none => gen' P act H o
      | _, _ => none
    | .builtin _ => gen' P act H o
    | _ => none
  | _ => gen' P act H o
end Go.Proofs.Ytdijakobocnceaa.AE
