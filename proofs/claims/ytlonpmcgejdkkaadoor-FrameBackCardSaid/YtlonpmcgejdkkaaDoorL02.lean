/-
  The contracts of the plain answers of layer 2.
-/
import Derived.Test.YtlonpmcgejdkkaaDoorOctetRead
namespace Go.Proofs.YtlonpmcgejdkkaaDoor
set_option maxRecDepth 100000
open Go.RowKit Oc
theorem num_step (m n k : Nat) (hk : k < m) :
    (u8s (List.replicate (m - k) 0 ++ (be m n).drop (m - k))).set (m - 1 - k) (.int .u8 ((n / 256 ^ k % 256 : Nat) : Int)) = u8s (List.replicate (m - (k + 1)) 0 ++ (be m n).drop (m - (k + 1))) := by
  have hl := be_length m n
  have hg := be_get m n (m - 1 - k) (by omega)
  rw [show m - 1 - (m - 1 - k) = k by omega] at hg
  rw [List.getElem?_eq_getElem (by omega)] at hg
  injection hg with hg
  have e1 : m - k = (m - (k + 1)) + 1 := by omega
  have e2 : (be m n).drop (m - (k + 1)) = UInt8.ofNat (n / 256 ^ k) :: (be m n).drop (m - k) := by
    rw [e1, List.drop_eq_getElem_cons (by omega)]
    congr 1
    rw [← hg]
    congr 1
    omega
  have e3 : List.replicate (m - k) (0 : UInt8) = List.replicate (m - (k + 1)) 0 ++ [0] := by rw [e1, List.replicate_succ']
  rw [e2, e3, List.append_assoc]
  unfold u8s
  rw [List.map_append, List.map_append, List.set_append_right _ _ (by simp; omega)]
  congr 1
  simp only [List.length_map, List.length_replicate, List.map_append, List.map_cons, List.map_nil, List.singleton_append]
  rw [show m - 1 - k - (m - (k + 1)) = 0 by omega]
  simp
def numStr (n m : Int) : ByteArray := if m < 1 ∨ 6 < m ∨ n < 0 then ⟨#[]⟩ else ⟨(be m.toNat n.toNat).toArray⟩
end Go.Proofs.YtlonpmcgejdkkaaDoor
