/-
  The text of a grammar: plain facts; the model's.
-/
import Derived.Test.YtpdphimlpeiifaaHD
namespace Go.Proofs.Ytpdphimlpeiifaa
open Go.RowKit

def partL (s : ByteArray) : List UInt8 := if s.size = 0 then [45] else s.data.toList
def sideL (f : Bool) : List UInt8 := if f then [102, 114, 111, 110, 116] else [98, 97, 99, 107]
def affLine (x : Aff) : List UInt8 := [97, 102, 102, 105, 120, 32] ++ x.n.data.toList ++ [32] ++ sideL x.f ++ [32] ++ partL x.w ++ [32] ++ partL x.s ++ [32] ++ partL x.a ++ [10]
def usesL (us : List ByteArray) : Nat → List UInt8
  | 0 => []
  | k + 1 => usesL us k ++ ([32] ++ (strAt us k).data.toList)
def stmLine (x : Stm) : List UInt8 := [115, 116, 101, 109, 32] ++ x.word.data.toList ++ usesL x.uses x.uses.length ++ [10]
def affText (xs : List Aff) : Nat → List UInt8
  | 0 => []
  | k + 1 => affText xs k ++ affLine (affG xs k)
def stmText (ss : List Stm) : Nat → List UInt8
  | 0 => []
  | k + 1 => stmText ss k ++ stmLine (stmG ss k)
/-- The text of a grammar. -/
def gramL (xs : List Aff) (ss : List Stm) : List UInt8 := affText xs xs.length ++ stmText ss ss.length
theorem partL_len (s : ByteArray) : (partL s).length ≤ s.size + 1 := by
  unfold partL
  split
  · simp
  · simp
theorem sideL_len (f : Bool) : (sideL f).length ≤ 5 := by cases f <;> simp [sideL]
theorem affLine_len (x : Aff) : (affLine x).length ≤ affW x + 30 := by
  have h1 := partL_len x.w
  have h2 := partL_len x.s
  have h3 := partL_len x.a
  have h4 := sideL_len x.f
  have hn : x.n.data.toList.length = x.n.size := by simp
  unfold affLine affW
  simp only [List.length_append, List.length_cons, List.length_nil, hn]
  omega
theorem usesL_len (us : List ByteArray) : ∀ k, (usesL us k).length = k + sumTo (fun j => (strAt us j).size) k
  | 0 => rfl
  | k + 1 => by
    have ih := usesL_len us k
    have hn : (strAt us k).data.toList.length = (strAt us k).size := by simp
    have e : sumTo (fun j => (strAt us j).size) (k + 1) = sumTo (fun j => (strAt us j).size) k + (strAt us k).size := rfl
    unfold usesL
    simp only [List.length_append, List.length_cons, List.length_nil, hn, ih, e]
    omega
theorem stmLine_len (x : Stm) : (stmLine x).length = stmW x + 6 := by
  have hn : x.word.data.toList.length = x.word.size := by simp
  unfold stmLine stmW strsW
  simp only [List.length_append, List.length_cons, List.length_nil, hn, usesL_len]
  omega
theorem affText_len (xs : List Aff) : ∀ k, (affText xs k).length ≤ 30 * k + sumTo (fun j => affW (affG xs j)) k
  | 0 => by simp [affText]
  | k + 1 => by
    have ih := affText_len xs k
    have h := affLine_len (affG xs k)
    have e : sumTo (fun j => affW (affG xs j)) (k + 1) = sumTo (fun j => affW (affG xs j)) k + affW (affG xs k) := rfl
    unfold affText
    rw [List.length_append, e]
    omega
theorem stmText_len (ss : List Stm) : ∀ k, (stmText ss k).length = 6 * k + sumTo (fun j => stmW (stmG ss j)) k
  | 0 => rfl
  | k + 1 => by
    have ih := stmText_len ss k
    have h := stmLine_len (stmG ss k)
    have e : sumTo (fun j => stmW (stmG ss j)) (k + 1) = sumTo (fun j => stmW (stmG ss j)) k + stmW (stmG ss k) := rfl
    unfold stmText
    rw [List.length_append, e, ih, h]
    omega
/-- The texts ahead of any line are short, where the grammar is. -/
theorem affText_bound {xs : List Aff} {ss : List Stm} (h : gramW xs ss ≤ 1048576) {k : Nat} (hk : k ≤ xs.length) : (affText xs k).length ≤ 100000000 := by
  have h1 := affText_len xs k
  have h2 := sumTo_mono (fun j => affW (affG xs j)) hk
  unfold gramW affsW at h
  omega
theorem stmText_bound {xs : List Aff} {ss : List Stm} (h : gramW xs ss ≤ 1048576) {k : Nat} (hk : k ≤ ss.length) : (stmText ss k).length ≤ 100000000 := by
  have h1 := stmText_len ss k
  have h2 := sumTo_mono (fun j => stmW (stmG ss j)) hk
  unfold gramW stmsW at h
  omega

set_option maxHeartbeats 400000 in
theorem l04Part_any (s : ByteArray) (w : World) : Calls Try.prog 130 #[.string s] w fun e w' => e = .returned (.string (txt (partL s))) ∧ w = w' := by
  rcases Nat.eq_zero_or_pos s.size with h0 | h0
  · have hE := empty_yes h0
    have HR := Shh.mk (show partL s = [45] from if_pos h0)
    clear h0
    go_enter Try.func130, Try.ntmps130
    go_wp2
    go_ret
    exact ⟨by rw [HR.out]; rfl, rfl⟩
  · have hE := empty_no h0
    have HR := Shh.mk (show txt (partL s) = s by rw [show partL s = s.data.toList from if_neg (by omega)]; exact txt_of s)
    clear h0
    rw [HR.out]
    go_enter Try.func130, Try.ntmps130
    go_wp2
    go_ret
    exact ⟨rfl, rfl⟩
theorem part_is {s P : ByteArray} (h : txt (partL s) = P) (w : World) : Calls Try.prog 130 #[.string s] w fun e w' => e = .returned (.string P) ∧ w = w' := by rw [← h]; exact l04Part_any s w
theorem aff_cat (T : List UInt8) {n s1 P1 P2 P3 : ByteArray} {x : Aff} (hn : x.n = n) (h0 : txt (sideL x.f) = s1) (h1 : txt (partL x.w) = P1) (h2 : txt (partL x.s) = P2) (h3 : txt (partL x.a) = P3) :
    txt T ++ (((((((((((⟨#[97, 102, 102, 105, 120, 32]⟩ : ByteArray) ++ n) ++ ⟨#[32]⟩) ++ s1) ++ ⟨#[32]⟩) ++ P1) ++ ⟨#[32]⟩) ++ P2) ++ ⟨#[32]⟩) ++ P3) ++ ⟨#[10]⟩) = txt (T ++ affLine x) := by
  subst hn h0 h1 h2 h3
  apply Go.WideShapes.bytes_inj
  simp [txt, affLine]
end Go.Proofs.Ytpdphimlpeiifaa
