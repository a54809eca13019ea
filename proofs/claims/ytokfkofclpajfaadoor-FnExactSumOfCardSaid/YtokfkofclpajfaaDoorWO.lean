/-
  What is told of the program's head, cheaply: its words are parted at the law's own list, which is long where many laws share a seat.
-/
import Derived.Test.YtokfkofclpajfaaDoorCards
import Derived.Test.YtokfkofclpajfaaDoorTie
import Derived.Stop.LaidErr
import Derived.OpenVars
import Derived.Deep.DeepHandedRow
namespace Go.Proofs.YtokfkofclpajfaaDoor

theorem words_some (l : List Char) : wordsSigns l ≠ [] := by
  cases l with
  | nil => simp [wordsSigns]
  | cons c r =>
    unfold wordsSigns
    split <;> simp_all
    split <;> simp
theorem words_split : ∀ (a b : List Char), wordsSigns (a ++ ' ' :: b) = wordsSigns a ++ wordsSigns b
  | [], b => rfl
  | c :: a, b => by
    have ih := words_split a b
    by_cases hc : c = ' '
    · subst hc
      show [] :: wordsSigns (a ++ ' ' :: b) = ([] :: wordsSigns a) ++ wordsSigns b
      rw [ih]
      rfl
    · have h1 : ∀ r, wordsSigns (c :: r) = (match wordsSigns r with | w :: ws => (c :: w) :: ws | [] => [[c]]) := fun r => by
        rw [wordsSigns]
        all_goals first | exact hc | rfl
      rw [List.cons_append, h1, h1, ih]
      cases h : wordsSigns a with
      | nil => exact absurd h (words_some a)
      | cons w ws => rfl
theorem init_list : Tryd.pinned.checked.prog.initOrder = String.ofList (['h', 'a', 'r', 'n', 'e', 's', 's', ' ', '3', '6', 'f', 'c', '0', 'f', '8', '4', '2', 'b', '9', '3', '0', '4', 'd', '5', '4', '0', 'f', 'b', '2', '8', '3', '8', '8', 'f', '3', '8', '3', '5', 'd', 'f', 'a', '2', '9', '8', '0', '5', '6', '0', 'c', '7', 'e', '1', '6', '6', '9', '2', '4', '8', '5', '9', '0', '9', '1', 'c', 'a', '0', 'e', '9', '0', '4', '9', '7', ' ', 'c', 'u', 't'] ++ ' ' :: ['a', 't', ' ', 'l', 'o', 'o', 'p', '.', 'e', 'x', 'a', 'm', 'p', 'l', 'e', '/', 'g', '0', '0', '9', '1', '1', '/', 'l', 'a', 'w', 's', '.', 'F', 'n', 'E', 'x', 'a', 'c', 't', 'V', 'a', 'l', 'i', 'd', 'D', 'a', 'w', 'g', ' ', 'l', 'o', 'o', 'p', '.', 'e', 'x', 'a', 'm', 'p', 'l', 'e', '/', 'g', '0', '0', '9', '1', '1', '/', 'l', 'a', 'w', 's', '.', 'F', 'n', 'E', 'x', 'a', 'c', 't', 'S', 't', 'e', 'p', 'D', 'a', 'w', 'g', ' ', 'l', 'o', 'o', 'p', '.', 'e', 'x', 'a', 'm', 'p', 'l', 'e', '/', 'g', '0', '0', '9', '1', '1', '/', 'l', 'a', 'w', 's', '.', 'F', 'n', 'E', 'x', 'a', 'c', 't', 'N', 'o', 'd', 'e', 'A', 'f', 't', 'e', 'r', ' ', 'l', 'o', 'o', 'p', '.', 'e', 'x', 'a', 'm', 'p', 'l', 'e', '/', 'g', '0', '0', '9', '1', '1', '/', 'l', 'a', 'w', 's', '.', 'F', 'n', 'E', 'x', 'a', 'c', 't', 'A', 'c', 'c', 'e', 'p', 't', 's', 'W', 'o', 'r', 'd', ' ', 'l', 'o', 'o', 'p', '.', 'e', 'x', 'a', 'm', 'p', 'l', 'e', '/', 'g', '0', '0', '9', '1', '1', '/', 'l', 'a', 'w', 's', '.', 'F', 'n', 'E', 'x', 'a', 'c', 't', 'W', 'o', 'r', 'd', 's', 'O', 'f', ' ', 'l', 'o', 'o', 'p', '.', 'e', 'x', 'a', 'm', 'p', 'l', 'e', '/', 'g', '0', '0', '9', '1', '1', '/', 'l', 'a', 'w', 's', '.', 'F', 'n', 'E', 'x', 'a', 'c', 't', 'L', 'e', 'x', 'i', 'c', 'o', 'n', 'O', 'f', ' ', 'l', 'o', 'o', 'p', '.', 'e', 'x', 'a', 'm', 'p', 'l', 'e', '/', 'g', '0', '0', '9', '1', '1', '/', 'l', 'a', 'w', 's', '.', 'F', 'n', 'E', 'x', 'a', 'c', 't', 'E', 'd', 'g', 'e', 'C', 'o', 'u', 'n', 't', ' ', 'l', 'o', 'o', 'p', '.', 'e', 'x', 'a', 'm', 'p', 'l', 'e', '/', 'g', '0', '0', '9', '1', '1', '/', 'l', 'a', 'w', 's', '.', 'F', 'n', 'E', 'x', 'a', 'c', 't', 'L', 'o', 'n', 'g', 'e', 's', 't', 'W', 'o', 'r', 'd', ' ', 'l', 'o', 'o', 'p', '.', 'e', 'x', 'a', 'm', 'p', 'l', 'e', '/', 'g', '0', '0', '9', '1', '1', '/', 'l', 'a', 'w', 's', '.', 'F', 'n', 'E', 'x', 'a', 'c', 't', 'D', 'a', 'w', 'g', 'T', 'e', 'x', 't', ' ', 'l', 'o', 'o', 'p', '.', 'e', 'x', 'a', 'm', 'p', 'l', 'e', '/', 'g', '0', '0', '9', '1', '1', '/', 'l', 'a', 'w', 's', '.', 'F', 'n', 'E', 'x', 'a', 'c', 't', 'C', 'o', 'u', 'n', 't', 's', 'O', 'f', ' ', 'l', 'o', 'o', 'p', '.', 'e', 'x', 'a', 'm', 'p', 'l', 'e', '/', 'g', '0', '0', '9', '1', '1', '/', 'l', 'a', 'w', 's', '.', 'F', 'n', 'E', 'x', 'a', 'c', 't', 'N', 'u', 'm', 'b', 'e', 'r', 'O', 'f', ' ', 'l', 'o', 'o', 'p', '.', 'e', 'x', 'a', 'm', 'p', 'l', 'e', '/', 'g', '0', '0', '9', '1', '1', '/', 'l', 'a', 'w', 's', '.', 'F', 'n', 'E', 'x', 'a', 'c', 't', 'W', 'o', 'r', 'd', 'A', 't', ' ', 'l', 'o', 'o', 'p', '.', 'e', 'x', 'a', 'm', 'p', 'l', 'e', '/', 'g', '0', '0', '9', '1', '1', '/', 'l', 'a', 'w', 's', '.', 'F', 'n', 'E', 'x', 'a', 'c', 't', 'R', 'a', 'n', 'g', 'e', 'O', 'f', ' ', 'l', 'o', 'o', 'p', '.', 'e', 'x', 'a', 'm', 'p', 'l', 'e', '/', 'g', '0', '0', '9', '1', '1', '/', 'l', 'a', 'w', 's', '.', 'F', 'n', 'E', 'x', 'a', 'c', 't', 'N', 'e', 'x', 't', 'W', 'o', 'r', 'd', ' ', 'l', 'o', 'o', 'p', '.', 'e', 'x', 'a', 'm', 'p', 'l', 'e', '/', 'g', '0', '0', '9', '1', '1', '/', 'l', 'a', 'w', 's', '.', 'F', 'n', 'E', 'x', 'a', 'c', 't', 'B', 'u', 'c', 'k', 'e', 't', 'O', 'f', ' ', 'l', 'o', 'o', 'p', '.', 'e', 'x', 'a', 'm', 'p', 'l', 'e', '/', 'g', '0', '0', '9', '1', '1', '/', 'l', 'a', 'w', 's', '.', 'F', 'n', 'E', 'x', 'a', 'c', 't', 'S', 'u', 'm', 'O', 'f']) := by kernel_rfl
theorem init_head : wordsSigns ['h', 'a', 'r', 'n', 'e', 's', 's', ' ', '3', '6', 'f', 'c', '0', 'f', '8', '4', '2', 'b', '9', '3', '0', '4', 'd', '5', '4', '0', 'f', 'b', '2', '8', '3', '8', '8', 'f', '3', '8', '3', '5', 'd', 'f', 'a', '2', '9', '8', '0', '5', '6', '0', 'c', '7', 'e', '1', '6', '6', '9', '2', '4', '8', '5', '9', '0', '9', '1', 'c', 'a', '0', 'e', '9', '0', '4', '9', '7', ' ', 'c', 'u', 't'] = ["harness".toList, (wordsSigns ['h', 'a', 'r', 'n', 'e', 's', 's', ' ', '3', '6', 'f', 'c', '0', 'f', '8', '4', '2', 'b', '9', '3', '0', '4', 'd', '5', '4', '0', 'f', 'b', '2', '8', '3', '8', '8', 'f', '3', '8', '3', '5', 'd', 'f', 'a', '2', '9', '8', '0', '5', '6', '0', 'c', '7', 'e', '1', '6', '6', '9', '2', '4', '8', '5', '9', '0', '9', '1', 'c', 'a', '0', 'e', '9', '0', '4', '9', '7', ' ', 'c', 'u', 't']).getD 1 [], "cut".toList] := by kernel_rfl
theorem init_sum : isSumSigns ((wordsSigns ['h', 'a', 'r', 'n', 'e', 's', 's', ' ', '3', '6', 'f', 'c', '0', 'f', '8', '4', '2', 'b', '9', '3', '0', '4', 'd', '5', '4', '0', 'f', 'b', '2', '8', '3', '8', '8', 'f', '3', '8', '3', '5', 'd', 'f', 'a', '2', '9', '8', '0', '5', '6', '0', 'c', '7', 'e', '1', '6', '6', '9', '2', '4', '8', '5', '9', '0', '9', '1', 'c', 'a', '0', 'e', '9', '0', '4', '9', '7', ' ', 'c', 'u', 't']).getD 1 []) = true := by kernel_rfl
theorem words_of {P : Program} {pre rest s : List Char} (hi : P.initOrder = String.ofList (pre ++ ' ' :: rest)) (hh : wordsSigns pre = ["harness".toList, s, "cut".toList]) :
    wordsSigns P.initOrder.toList = "harness".toList :: s :: "cut".toList :: wordsSigns rest := by
  rw [hi, String.toList_ofList, words_split, hh]
  rfl
set_option maxRecDepth 100000 in
theorem init_words : wordsSigns Tryd.pinned.checked.prog.initOrder.toList = "harness".toList :: (wordsSigns ['h', 'a', 'r', 'n', 'e', 's', 's', ' ', '3', '6', 'f', 'c', '0', 'f', '8', '4', '2', 'b', '9', '3', '0', '4', 'd', '5', '4', '0', 'f', 'b', '2', '8', '3', '8', '8', 'f', '3', '8', '3', '5', 'd', 'f', 'a', '2', '9', '8', '0', '5', '6', '0', 'c', '7', 'e', '1', '6', '6', '9', '2', '4', '8', '5', '9', '0', '9', '1', 'c', 'a', '0', 'e', '9', '0', '4', '9', '7', ' ', 'c', 'u', 't']).getD 1 [] :: "cut".toList :: wordsSigns ['a', 't', ' ', 'l', 'o', 'o', 'p', '.', 'e', 'x', 'a', 'm', 'p', 'l', 'e', '/', 'g', '0', '0', '9', '1', '1', '/', 'l', 'a', 'w', 's', '.', 'F', 'n', 'E', 'x', 'a', 'c', 't', 'V', 'a', 'l', 'i', 'd', 'D', 'a', 'w', 'g', ' ', 'l', 'o', 'o', 'p', '.', 'e', 'x', 'a', 'm', 'p', 'l', 'e', '/', 'g', '0', '0', '9', '1', '1', '/', 'l', 'a', 'w', 's', '.', 'F', 'n', 'E', 'x', 'a', 'c', 't', 'S', 't', 'e', 'p', 'D', 'a', 'w', 'g', ' ', 'l', 'o', 'o', 'p', '.', 'e', 'x', 'a', 'm', 'p', 'l', 'e', '/', 'g', '0', '0', '9', '1', '1', '/', 'l', 'a', 'w', 's', '.', 'F', 'n', 'E', 'x', 'a', 'c', 't', 'N', 'o', 'd', 'e', 'A', 'f', 't', 'e', 'r', ' ', 'l', 'o', 'o', 'p', '.', 'e', 'x', 'a', 'm', 'p', 'l', 'e', '/', 'g', '0', '0', '9', '1', '1', '/', 'l', 'a', 'w', 's', '.', 'F', 'n', 'E', 'x', 'a', 'c', 't', 'A', 'c', 'c', 'e', 'p', 't', 's', 'W', 'o', 'r', 'd', ' ', 'l', 'o', 'o', 'p', '.', 'e', 'x', 'a', 'm', 'p', 'l', 'e', '/', 'g', '0', '0', '9', '1', '1', '/', 'l', 'a', 'w', 's', '.', 'F', 'n', 'E', 'x', 'a', 'c', 't', 'W', 'o', 'r', 'd', 's', 'O', 'f', ' ', 'l', 'o', 'o', 'p', '.', 'e', 'x', 'a', 'm', 'p', 'l', 'e', '/', 'g', '0', '0', '9', '1', '1', '/', 'l', 'a', 'w', 's', '.', 'F', 'n', 'E', 'x', 'a', 'c', 't', 'L', 'e', 'x', 'i', 'c', 'o', 'n', 'O', 'f', ' ', 'l', 'o', 'o', 'p', '.', 'e', 'x', 'a', 'm', 'p', 'l', 'e', '/', 'g', '0', '0', '9', '1', '1', '/', 'l', 'a', 'w', 's', '.', 'F', 'n', 'E', 'x', 'a', 'c', 't', 'E', 'd', 'g', 'e', 'C', 'o', 'u', 'n', 't', ' ', 'l', 'o', 'o', 'p', '.', 'e', 'x', 'a', 'm', 'p', 'l', 'e', '/', 'g', '0', '0', '9', '1', '1', '/', 'l', 'a', 'w', 's', '.', 'F', 'n', 'E', 'x', 'a', 'c', 't', 'L', 'o', 'n', 'g', 'e', 's', 't', 'W', 'o', 'r', 'd', ' ', 'l', 'o', 'o', 'p', '.', 'e', 'x', 'a', 'm', 'p', 'l', 'e', '/', 'g', '0', '0', '9', '1', '1', '/', 'l', 'a', 'w', 's', '.', 'F', 'n', 'E', 'x', 'a', 'c', 't', 'D', 'a', 'w', 'g', 'T', 'e', 'x', 't', ' ', 'l', 'o', 'o', 'p', '.', 'e', 'x', 'a', 'm', 'p', 'l', 'e', '/', 'g', '0', '0', '9', '1', '1', '/', 'l', 'a', 'w', 's', '.', 'F', 'n', 'E', 'x', 'a', 'c', 't', 'C', 'o', 'u', 'n', 't', 's', 'O', 'f', ' ', 'l', 'o', 'o', 'p', '.', 'e', 'x', 'a', 'm', 'p', 'l', 'e', '/', 'g', '0', '0', '9', '1', '1', '/', 'l', 'a', 'w', 's', '.', 'F', 'n', 'E', 'x', 'a', 'c', 't', 'N', 'u', 'm', 'b', 'e', 'r', 'O', 'f', ' ', 'l', 'o', 'o', 'p', '.', 'e', 'x', 'a', 'm', 'p', 'l', 'e', '/', 'g', '0', '0', '9', '1', '1', '/', 'l', 'a', 'w', 's', '.', 'F', 'n', 'E', 'x', 'a', 'c', 't', 'W', 'o', 'r', 'd', 'A', 't', ' ', 'l', 'o', 'o', 'p', '.', 'e', 'x', 'a', 'm', 'p', 'l', 'e', '/', 'g', '0', '0', '9', '1', '1', '/', 'l', 'a', 'w', 's', '.', 'F', 'n', 'E', 'x', 'a', 'c', 't', 'R', 'a', 'n', 'g', 'e', 'O', 'f', ' ', 'l', 'o', 'o', 'p', '.', 'e', 'x', 'a', 'm', 'p', 'l', 'e', '/', 'g', '0', '0', '9', '1', '1', '/', 'l', 'a', 'w', 's', '.', 'F', 'n', 'E', 'x', 'a', 'c', 't', 'N', 'e', 'x', 't', 'W', 'o', 'r', 'd', ' ', 'l', 'o', 'o', 'p', '.', 'e', 'x', 'a', 'm', 'p', 'l', 'e', '/', 'g', '0', '0', '9', '1', '1', '/', 'l', 'a', 'w', 's', '.', 'F', 'n', 'E', 'x', 'a', 'c', 't', 'B', 'u', 'c', 'k', 'e', 't', 'O', 'f', ' ', 'l', 'o', 'o', 'p', '.', 'e', 'x', 'a', 'm', 'p', 'l', 'e', '/', 'g', '0', '0', '9', '1', '1', '/', 'l', 'a', 'w', 's', '.', 'F', 'n', 'E', 'x', 'a', 'c', 't', 'S', 'u', 'm', 'O', 'f'] := words_of init_list init_head
theorem door_fits : Tryd.pinned.checked.prog.doorFits [] = true := by kernel_rfl
theorem no_lifts (R : List (List Char)) : stripLifts liftWords ("cut".toList :: R) = ([], "cut".toList :: R) := by
  simp [stripLifts, liftWords]
theorem behind_main {P : Program} {s : List Char} {R : List (List Char)} (h : wordsSigns P.initOrder.toList = "harness".toList :: s :: "cut".toList :: R) (hs : isSumSigns s = true) : behindMainWord (wordsSigns P.initOrder.toList) = "cut".toList :: R := by
  rw [h]
  simp [behindMainWord, hs]
theorem may_enter {P : Program} {s : List Char} {R : List (List Char)} (h : wordsSigns P.initOrder.toList = "harness".toList :: s :: "cut".toList :: R) (hs : isSumSigns s = true) (hd : P.doorFits [] = true) (hl : P.laysLater = false) (hr : P.bearsReflect = false) : P.mayEnter = true := by
  unfold Program.mayEnter
  rw [behind_main h hs]
  simp only []
  rw [no_lifts]
  simp [hd, hl, hr]
theorem head_lifts {P : Program} {s : List Char} {R : List (List Char)} (h : wordsSigns P.initOrder.toList = "harness".toList :: s :: "cut".toList :: R) (hs : isSumSigns s = true) : P.headLifts = [] := by
  unfold Program.headLifts
  rw [behind_main h hs, no_lifts]
  simp
theorem lifts_final {P : Program} {s : List Char} {R : List (List Char)} (h : wordsSigns P.initOrder.toList = "harness".toList :: s :: "cut".toList :: R) (hs : isSumSigns s = true) : P.liftsFinal = false := by
  unfold Program.liftsFinal
  rw [behind_main h hs, head_lifts h hs]
  simp
theorem made {P : Program} {s : List Char} {R : List (List Char)} (h : wordsSigns P.initOrder.toList = "harness".toList :: s :: "cut".toList :: R) (hs : isSumSigns s = true) : P.make = some .cut := by
  unfold Program.make
  rw [behind_main h hs]
  simp
theorem main_is {P : Program} {s : List Char} {R : List (List Char)} (h : wordsSigns P.initOrder.toList = "harness".toList :: s :: "cut".toList :: R) (hs : isSumSigns s = true) : P.mainIs = some (true, s) := by
  unfold Program.mainIs
  rw [h]
  simp [hs]
set_option maxRecDepth 100000
theorem prog_enter : Tryd.pinned.checked.prog.mayEnter = true := may_enter init_words init_sum door_fits (by kernel_rfl) (by kernel_rfl)
theorem prog_lifts : Tryd.pinned.checked.prog.liftsFinal = false := lifts_final init_words init_sum
theorem prog_made : Tryd.pinned.checked.prog.make = some .cut := made init_words init_sum
theorem prog_main : Tryd.pinned.checked.prog.mainIs = some (true, (wordsSigns ['h', 'a', 'r', 'n', 'e', 's', 's', ' ', '3', '6', 'f', 'c', '0', 'f', '8', '4', '2', 'b', '9', '3', '0', '4', 'd', '5', '4', '0', 'f', 'b', '2', '8', '3', '8', '8', 'f', '3', '8', '3', '5', 'd', 'f', 'a', '2', '9', '8', '0', '5', '6', '0', 'c', '7', 'e', '1', '6', '6', '9', '2', '4', '8', '5', '9', '0', '9', '1', 'c', 'a', '0', 'e', '9', '0', '4', '9', '7', ' ', 'c', 'u', 't']).getD 1 []) := main_is init_words init_sum
end Go.Proofs.YtokfkofclpajfaaDoor
