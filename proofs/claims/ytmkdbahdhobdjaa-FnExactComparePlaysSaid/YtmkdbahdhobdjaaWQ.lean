/-
  What is told of the program's head, cheaply (for a seat without cards): its words are parted at the law's own list, which is long where many laws share a seat.
-/
import Derived.Test.YtmkdbahdhobdjaaRows
import Derived.JoinedOf
namespace Go.Proofs.Ytmkdbahdhobdjaa

theorem words_some (l : List Char) : wordsSigns l ≠ [] := by
  cases l with
  | nil => simp [wordsSigns]
  | cons c r =>
    unfold wordsSigns
    split <;> simp_all
    split <;> simp
theorem words_split : ∀ (a b : List Char), wordsSigns (a ++ ' ' :: b) = wordsSigns a ++ wordsSigns b
  | [], b => rfl
  | c :: a, b => by
    have ih := words_split a b
    by_cases hc : c = ' '
    · subst hc
      show [] :: wordsSigns (a ++ ' ' :: b) = ([] :: wordsSigns a) ++ wordsSigns b
      rw [ih]
      rfl
    · have h1 : ∀ r, wordsSigns (c :: r) = (match wordsSigns r with | w :: ws => (c :: w) :: ws | [] => [[c]]) := fun r => by
        rw [wordsSigns]
        all_goals first | exact hc | rfl
      rw [List.cons_append, h1, h1, ih]
      cases h : wordsSigns a with
      | nil => exact absurd h (words_some a)
      | cons w ws => rfl
theorem init_list : Try.pinned.checked.prog.initOrder = String.ofList (['h', 'a', 'r', 'n', 'e', 's', 's', ' ', 'c', '9', 'a', '3', '5', '0', '8', 'b', '3', '5', '1', '0', 'c', 'a', '8', 'f', '3', 'f', 'f', '5', '1', 'c', '1', 'f', 'd', 'd', '7', 'b', 'f', 'b', '6', '0', '5', 'f', 'b', '4', '2', '3', '4', '8', '8', '7', '7', '4', '7', '9', '2', '6', '0', '7', 'c', '0', 'e', '0', '4', '4', '4', 'a', '7', '6', 'e', '6', '0', '5', ' ', 'c', 'u', 't'] ++ ' ' :: ['a', 't', ' ', 'l', 'o', 'o', 'p', '.', 'e', 'x', 'a', 'm', 'p', 'l', 'e', '/', 'g', '0', '0', '9', '1', '1', '/', 'l', 'a', 'w', 's', '.', 'F', 'n', 'S', 'e', 't', 'C', 'e', 'l', 'l', 's', ' ', 'l', 'o', 'o', 'p', '.', 'e', 'x', 'a', 'm', 'p', 'l', 'e', '/', 'g', '0', '0', '9', '1', '1', '/', 'l', 'a', 'w', 's', '.', 'F', 'n', 'P', 'a', 't', 't', 'e', 'r', 'n', 's', ' ', 'l', 'o', 'o', 'p', '.', 'e', 'x', 'a', 'm', 'p', 'l', 'e', '/', 'g', '0', '0', '9', '1', '1', '/', 'l', 'a', 'w', 's', '.', 'F', 'n', 'H', 'o', 'o', 'k', 's', ' ', 'l', 'o', 'o', 'p', '.', 'e', 'x', 'a', 'm', 'p', 'l', 'e', '/', 'g', '0', '0', '9', '1', '1', '/', 'l', 'a', 'w', 's', '.', 'F', 'n', 'E', 'x', 'a', 'c', 't', 'C', 'e', 'l', 'l', 'A', 't', ' ', 'l', 'o', 'o', 'p', '.', 'e', 'x', 'a', 'm', 'p', 'l', 'e', '/', 'g', '0', '0', '9', '1', '1', '/', 'l', 'a', 'w', 's', '.', 'F', 'n', 'E', 'x', 'a', 'c', 't', 'P', 'r', 'e', 'm', 'i', 'u', 'm', 'A', 't', ' ', 'l', 'o', 'o', 'p', '.', 'e', 'x', 'a', 'm', 'p', 'l', 'e', '/', 'g', '0', '0', '9', '1', '1', '/', 'l', 'a', 'w', 's', '.', 'F', 'n', 'E', 'x', 'a', 'c', 't', 'I', 's', 'J', 'o', 'i', 'n', 'e', 'd', ' ', 'l', 'o', 'o', 'p', '.', 'e', 'x', 'a', 'm', 'p', 'l', 'e', '/', 'g', '0', '0', '9', '1', '1', '/', 'l', 'a', 'w', 's', '.', 'F', 'n', 'E', 'x', 'a', 'c', 't', 'T', 'r', 'a', 'n', 's', 'p', 'o', 's', 'e', 'P', 'l', 'a', 'y', ' ', 'l', 'o', 'o', 'p', '.', 'e', 'x', 'a', 'm', 'p', 'l', 'e', '/', 'g', '0', '0', '9', '1', '1', '/', 'l', 'a', 'w', 's', '.', 'F', 'n', 'E', 'x', 'a', 'c', 't', 'C', 'o', 'm', 'p', 'a', 'r', 'e', 'P', 'l', 'a', 'y', 's']) := by kernel_rfl
theorem init_head : wordsSigns ['h', 'a', 'r', 'n', 'e', 's', 's', ' ', 'c', '9', 'a', '3', '5', '0', '8', 'b', '3', '5', '1', '0', 'c', 'a', '8', 'f', '3', 'f', 'f', '5', '1', 'c', '1', 'f', 'd', 'd', '7', 'b', 'f', 'b', '6', '0', '5', 'f', 'b', '4', '2', '3', '4', '8', '8', '7', '7', '4', '7', '9', '2', '6', '0', '7', 'c', '0', 'e', '0', '4', '4', '4', 'a', '7', '6', 'e', '6', '0', '5', ' ', 'c', 'u', 't'] = ["harness".toList, (wordsSigns ['h', 'a', 'r', 'n', 'e', 's', 's', ' ', 'c', '9', 'a', '3', '5', '0', '8', 'b', '3', '5', '1', '0', 'c', 'a', '8', 'f', '3', 'f', 'f', '5', '1', 'c', '1', 'f', 'd', 'd', '7', 'b', 'f', 'b', '6', '0', '5', 'f', 'b', '4', '2', '3', '4', '8', '8', '7', '7', '4', '7', '9', '2', '6', '0', '7', 'c', '0', 'e', '0', '4', '4', '4', 'a', '7', '6', 'e', '6', '0', '5', ' ', 'c', 'u', 't']).getD 1 [], "cut".toList] := by kernel_rfl
theorem init_sum : isSumSigns ((wordsSigns ['h', 'a', 'r', 'n', 'e', 's', 's', ' ', 'c', '9', 'a', '3', '5', '0', '8', 'b', '3', '5', '1', '0', 'c', 'a', '8', 'f', '3', 'f', 'f', '5', '1', 'c', '1', 'f', 'd', 'd', '7', 'b', 'f', 'b', '6', '0', '5', 'f', 'b', '4', '2', '3', '4', '8', '8', '7', '7', '4', '7', '9', '2', '6', '0', '7', 'c', '0', 'e', '0', '4', '4', '4', 'a', '7', '6', 'e', '6', '0', '5', ' ', 'c', 'u', 't']).getD 1 []) = true := by kernel_rfl
theorem words_of {P : Program} {pre rest s : List Char} (hi : P.initOrder = String.ofList (pre ++ ' ' :: rest)) (hh : wordsSigns pre = ["harness".toList, s, "cut".toList]) :
    wordsSigns P.initOrder.toList = "harness".toList :: s :: "cut".toList :: wordsSigns rest := by
  rw [hi, String.toList_ofList, words_split, hh]
  rfl
set_option maxRecDepth 100000 in
theorem init_words : wordsSigns Try.pinned.checked.prog.initOrder.toList = "harness".toList :: (wordsSigns ['h', 'a', 'r', 'n', 'e', 's', 's', ' ', 'c', '9', 'a', '3', '5', '0', '8', 'b', '3', '5', '1', '0', 'c', 'a', '8', 'f', '3', 'f', 'f', '5', '1', 'c', '1', 'f', 'd', 'd', '7', 'b', 'f', 'b', '6', '0', '5', 'f', 'b', '4', '2', '3', '4', '8', '8', '7', '7', '4', '7', '9', '2', '6', '0', '7', 'c', '0', 'e', '0', '4', '4', '4', 'a', '7', '6', 'e', '6', '0', '5', ' ', 'c', 'u', 't']).getD 1 [] :: "cut".toList :: wordsSigns ['a', 't', ' ', 'l', 'o', 'o', 'p', '.', 'e', 'x', 'a', 'm', 'p', 'l', 'e', '/', 'g', '0', '0', '9', '1', '1', '/', 'l', 'a', 'w', 's', '.', 'F', 'n', 'S', 'e', 't', 'C', 'e', 'l', 'l', 's', ' ', 'l', 'o', 'o', 'p', '.', 'e', 'x', 'a', 'm', 'p', 'l', 'e', '/', 'g', '0', '0', '9', '1', '1', '/', 'l', 'a', 'w', 's', '.', 'F', 'n', 'P', 'a', 't', 't', 'e', 'r', 'n', 's', ' ', 'l', 'o', 'o', 'p', '.', 'e', 'x', 'a', 'm', 'p', 'l', 'e', '/', 'g', '0', '0', '9', '1', '1', '/', 'l', 'a', 'w', 's', '.', 'F', 'n', 'H', 'o', 'o', 'k', 's', ' ', 'l', 'o', 'o', 'p', '.', 'e', 'x', 'a', 'm', 'p', 'l', 'e', '/', 'g', '0', '0', '9', '1', '1', '/', 'l', 'a', 'w', 's', '.', 'F', 'n', 'E', 'x', 'a', 'c', 't', 'C', 'e', 'l', 'l', 'A', 't', ' ', 'l', 'o', 'o', 'p', '.', 'e', 'x', 'a', 'm', 'p', 'l', 'e', '/', 'g', '0', '0', '9', '1', '1', '/', 'l', 'a', 'w', 's', '.', 'F', 'n', 'E', 'x', 'a', 'c', 't', 'P', 'r', 'e', 'm', 'i', 'u', 'm', 'A', 't', ' ', 'l', 'o', 'o', 'p', '.', 'e', 'x', 'a', 'm', 'p', 'l', 'e', '/', 'g', '0', '0', '9', '1', '1', '/', 'l', 'a', 'w', 's', '.', 'F', 'n', 'E', 'x', 'a', 'c', 't', 'I', 's', 'J', 'o', 'i', 'n', 'e', 'd', ' ', 'l', 'o', 'o', 'p', '.', 'e', 'x', 'a', 'm', 'p', 'l', 'e', '/', 'g', '0', '0', '9', '1', '1', '/', 'l', 'a', 'w', 's', '.', 'F', 'n', 'E', 'x', 'a', 'c', 't', 'T', 'r', 'a', 'n', 's', 'p', 'o', 's', 'e', 'P', 'l', 'a', 'y', ' ', 'l', 'o', 'o', 'p', '.', 'e', 'x', 'a', 'm', 'p', 'l', 'e', '/', 'g', '0', '0', '9', '1', '1', '/', 'l', 'a', 'w', 's', '.', 'F', 'n', 'E', 'x', 'a', 'c', 't', 'C', 'o', 'm', 'p', 'a', 'r', 'e', 'P', 'l', 'a', 'y', 's'] := words_of init_list init_head
theorem door_fits : Try.pinned.checked.prog.doorFits [] = true := by kernel_rfl
theorem no_lifts (R : List (List Char)) : stripLifts liftWords ("cut".toList :: R) = ([], "cut".toList :: R) := by
  simp [stripLifts, liftWords]
theorem behind_main {P : Program} {s : List Char} {R : List (List Char)} (h : wordsSigns P.initOrder.toList = "harness".toList :: s :: "cut".toList :: R) (hs : isSumSigns s = true) : behindMainWord (wordsSigns P.initOrder.toList) = "cut".toList :: R := by
  rw [h]
  simp [behindMainWord, hs]
theorem may_enter {P : Program} {s : List Char} {R : List (List Char)} (h : wordsSigns P.initOrder.toList = "harness".toList :: s :: "cut".toList :: R) (hs : isSumSigns s = true) (hd : P.doorFits [] = true) (hl : P.laysLater = false) (hr : P.bearsReflect = false) : P.mayEnter = true := by
  unfold Program.mayEnter
  rw [behind_main h hs]
  simp only []
  rw [no_lifts]
  simp [hd, hl, hr]
theorem head_lifts {P : Program} {s : List Char} {R : List (List Char)} (h : wordsSigns P.initOrder.toList = "harness".toList :: s :: "cut".toList :: R) (hs : isSumSigns s = true) : P.headLifts = [] := by
  unfold Program.headLifts
  rw [behind_main h hs, no_lifts]
  simp
theorem lifts_final {P : Program} {s : List Char} {R : List (List Char)} (h : wordsSigns P.initOrder.toList = "harness".toList :: s :: "cut".toList :: R) (hs : isSumSigns s = true) : P.liftsFinal = false := by
  unfold Program.liftsFinal
  rw [behind_main h hs, head_lifts h hs]
  simp
theorem made {P : Program} {s : List Char} {R : List (List Char)} (h : wordsSigns P.initOrder.toList = "harness".toList :: s :: "cut".toList :: R) (hs : isSumSigns s = true) : P.make = some .cut := by
  unfold Program.make
  rw [behind_main h hs]
  simp
set_option maxRecDepth 100000
theorem prog_enter : Try.pinned.checked.prog.mayEnter = true := may_enter init_words init_sum door_fits (by kernel_rfl) (by kernel_rfl)
theorem prog_lifts : Try.pinned.checked.prog.liftsFinal = false := lifts_final init_words init_sum
theorem prog_made : Try.pinned.checked.prog.make = some .cut := made init_words init_sum
end Go.Proofs.Ytmkdbahdhobdjaa
