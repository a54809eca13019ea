/-
  The program's pile of counts, and whether a text is a pile.
-/
import Derived.Test.YtaipfampkgpnpaaQ3
import Derived.Test.YtaipfampkgpnpaaShelfI
namespace Go.Proofs.Ytaipfampkgpnpaa
open Go.RowKit

def orderB : ByteArray := ⟨#[63, 97, 98, 99, 100, 101, 102, 103, 104, 105, 106, 107, 108, 109, 110, 111, 112, 113, 114, 115, 116, 117, 118, 119, 120, 121, 122]⟩
theorem order_at_all : ∀ k : Nat, k < 27 → (orderB.extract k (k + 1)).data.toList = [tileOf k] := by decide +kernel
theorem repeat_one (c : UInt8) : ∀ n : Nat, Lib.repeatL [c] n = List.replicate n c := by
  intro n
  induction n with
  | zero => rfl
  | succ n ih => first | (rw [Lib.repeatL, ih]; rfl) | simp_all [Lib.repeatL, List.replicate_succ]
end Go.Proofs.Ytaipfampkgpnpaa
