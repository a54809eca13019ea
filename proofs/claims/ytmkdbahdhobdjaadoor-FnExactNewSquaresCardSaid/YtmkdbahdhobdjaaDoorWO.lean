/-
  What is told of the program's head, cheaply: its words are parted at the law's own list, which is long where many laws share a seat.
-/
import Derived.Test.YtmkdbahdhobdjaaDoorCards
import Derived.Test.YtmkdbahdhobdjaaDoorTie
import Derived.Stop.LaidErr
import Derived.OpenVars
import Derived.Deep.DeepHandedRow
namespace Go.Proofs.YtmkdbahdhobdjaaDoor

theorem words_some (l : List Char) : wordsSigns l ≠ [] := by
  cases l with
  | nil => simp [wordsSigns]
  | cons c r =>
    unfold wordsSigns
    split <;> simp_all
    split <;> simp
theorem words_split : ∀ (a b : List Char), wordsSigns (a ++ ' ' :: b) = wordsSigns a ++ wordsSigns b
  | [], b => rfl
  | c :: a, b => by
    have ih := words_split a b
    by_cases hc : c = ' '
    · subst hc
      show [] :: wordsSigns (a ++ ' ' :: b) = ([] :: wordsSigns a) ++ wordsSigns b
      rw [ih]
      rfl
    · have h1 : ∀ r, wordsSigns (c :: r) = (match wordsSigns r with | w :: ws => (c :: w) :: ws | [] => [[c]]) := fun r => by
        rw [wordsSigns]
        all_goals first | exact hc | rfl
      rw [List.cons_append, h1, h1, ih]
      cases h : wordsSigns a with
      | nil => exact absurd h (words_some a)
      | cons w ws => rfl
theorem init_list : Tryd.pinned.checked.prog.initOrder = String.ofList (['h', 'a', 'r', 'n', 'e', 's', 's', ' ', '6', 'f', '5', '9', '7', '5', 'e', '1', '2', 'd', '9', '8', 'f', '6', 'e', '0', '0', '5', '8', 'b', 'c', '1', '3', 'c', '7', '9', '2', 'f', 'c', '8', '6', '0', '4', 'd', 'e', 'd', 'f', 'e', '9', 'e', 'b', 'b', '2', '8', '3', '8', '6', '7', 'c', 'b', '9', '5', 'd', '8', 'c', '8', '5', '8', '9', 'f', '0', '6', '8', '3', ' ', 'c', 'u', 't'] ++ ' ' :: ['a', 't', ' ', 'l', 'o', 'o', 'p', '.', 'e', 'x', 'a', 'm', 'p', 'l', 'e', '/', 'g', '0', '0', '9', '1', '1', '/', 'l', 'a', 'w', 's', '.', 'F', 'n', 'E', 'x', 'a', 'c', 't', 'T', 'i', 'l', 'e', 's', 'O', 'n', ' ', 'l', 'o', 'o', 'p', '.', 'e', 'x', 'a', 'm', 'p', 'l', 'e', '/', 'g', '0', '0', '9', '1', '1', '/', 'l', 'a', 'w', 's', '.', 'F', 'n', 'E', 'x', 'a', 'c', 't', 'W', 'o', 'r', 'd', 's', 'O', 'n', ' ', 'l', 'o', 'o', 'p', '.', 'e', 'x', 'a', 'm', 'p', 'l', 'e', '/', 'g', '0', '0', '9', '1', '1', '/', 'l', 'a', 'w', 's', '.', 'F', 'n', 'E', 'x', 'a', 'c', 't', 'B', 'o', 'a', 'r', 'd', 'T', 'e', 'x', 't', ' ', 'l', 'o', 'o', 'p', '.', 'e', 'x', 'a', 'm', 'p', 'l', 'e', '/', 'g', '0', '0', '9', '1', '1', '/', 'l', 'a', 'w', 's', '.', 'F', 'n', 'E', 'x', 'a', 'c', 't', 'R', 'e', 'a', 'd', 'B', 'o', 'a', 'r', 'd', ' ', 'l', 'o', 'o', 'p', '.', 'e', 'x', 'a', 'm', 'p', 'l', 'e', '/', 'g', '0', '0', '9', '1', '1', '/', 'l', 'a', 'w', 's', '.', 'F', 'n', 'E', 'x', 'a', 'c', 't', 'V', 'a', 'l', 'i', 'd', 'P', 'l', 'a', 'y', ' ', 'l', 'o', 'o', 'p', '.', 'e', 'x', 'a', 'm', 'p', 'l', 'e', '/', 'g', '0', '0', '9', '1', '1', '/', 'l', 'a', 'w', 's', '.', 'F', 'n', 'E', 'x', 'a', 'c', 't', 'N', 'e', 'w', 'S', 'q', 'u', 'a', 'r', 'e', 's', ' ', 'l', 'o', 'o', 'p', '.', 'e', 'x', 'a', 'm', 'p', 'l', 'e', '/', 'g', '0', '0', '9', '1', '1', '/', 'l', 'a', 'w', 's', '.', 'F', 'n', 'E', 'x', 'a', 'c', 't', 'P', 'l', 'a', 'c', 'e', 'd', 'T', 'i', 'l', 'e', 's', ' ', 'l', 'o', 'o', 'p', '.', 'e', 'x', 'a', 'm', 'p', 'l', 'e', '/', 'g', '0', '0', '9', '1', '1', '/', 'l', 'a', 'w', 's', '.', 'F', 'n', 'E', 'x', 'a', 'c', 't', 'W', 'o', 'r', 'd', 's', 'F', 'o', 'r', 'm', 'e', 'd', ' ', 'l', 'o', 'o', 'p', '.', 'e', 'x', 'a', 'm', 'p', 'l', 'e', '/', 'g', '0', '0', '9', '1', '1', '/', 'l', 'a', 'w', 's', '.', 'F', 'n', 'E', 'x', 'a', 'c', 't', 'T', 'o', 'u', 'c', 'h', 'e', 's', 'B', 'o', 'a', 'r', 'd', ' ', 'l', 'o', 'o', 'p', '.', 'e', 'x', 'a', 'm', 'p', 'l', 'e', '/', 'g', '0', '0', '9', '1', '1', '/', 'l', 'a', 'w', 's', '.', 'F', 'n', 'E', 'x', 'a', 'c', 't', 'M', 'a', 'k', 'e', 'P', 'l', 'a', 'y']) := by kernel_rfl
theorem init_head : wordsSigns ['h', 'a', 'r', 'n', 'e', 's', 's', ' ', '6', 'f', '5', '9', '7', '5', 'e', '1', '2', 'd', '9', '8', 'f', '6', 'e', '0', '0', '5', '8', 'b', 'c', '1', '3', 'c', '7', '9', '2', 'f', 'c', '8', '6', '0', '4', 'd', 'e', 'd', 'f', 'e', '9', 'e', 'b', 'b', '2', '8', '3', '8', '6', '7', 'c', 'b', '9', '5', 'd', '8', 'c', '8', '5', '8', '9', 'f', '0', '6', '8', '3', ' ', 'c', 'u', 't'] = ["harness".toList, (wordsSigns ['h', 'a', 'r', 'n', 'e', 's', 's', ' ', '6', 'f', '5', '9', '7', '5', 'e', '1', '2', 'd', '9', '8', 'f', '6', 'e', '0', '0', '5', '8', 'b', 'c', '1', '3', 'c', '7', '9', '2', 'f', 'c', '8', '6', '0', '4', 'd', 'e', 'd', 'f', 'e', '9', 'e', 'b', 'b', '2', '8', '3', '8', '6', '7', 'c', 'b', '9', '5', 'd', '8', 'c', '8', '5', '8', '9', 'f', '0', '6', '8', '3', ' ', 'c', 'u', 't']).getD 1 [], "cut".toList] := by kernel_rfl
theorem init_sum : isSumSigns ((wordsSigns ['h', 'a', 'r', 'n', 'e', 's', 's', ' ', '6', 'f', '5', '9', '7', '5', 'e', '1', '2', 'd', '9', '8', 'f', '6', 'e', '0', '0', '5', '8', 'b', 'c', '1', '3', 'c', '7', '9', '2', 'f', 'c', '8', '6', '0', '4', 'd', 'e', 'd', 'f', 'e', '9', 'e', 'b', 'b', '2', '8', '3', '8', '6', '7', 'c', 'b', '9', '5', 'd', '8', 'c', '8', '5', '8', '9', 'f', '0', '6', '8', '3', ' ', 'c', 'u', 't']).getD 1 []) = true := by kernel_rfl
theorem words_of {P : Program} {pre rest s : List Char} (hi : P.initOrder = String.ofList (pre ++ ' ' :: rest)) (hh : wordsSigns pre = ["harness".toList, s, "cut".toList]) :
    wordsSigns P.initOrder.toList = "harness".toList :: s :: "cut".toList :: wordsSigns rest := by
  rw [hi, String.toList_ofList, words_split, hh]
  rfl
set_option maxRecDepth 100000 in
theorem init_words : wordsSigns Tryd.pinned.checked.prog.initOrder.toList = "harness".toList :: (wordsSigns ['h', 'a', 'r', 'n', 'e', 's', 's', ' ', '6', 'f', '5', '9', '7', '5', 'e', '1', '2', 'd', '9', '8', 'f', '6', 'e', '0', '0', '5', '8', 'b', 'c', '1', '3', 'c', '7', '9', '2', 'f', 'c', '8', '6', '0', '4', 'd', 'e', 'd', 'f', 'e', '9', 'e', 'b', 'b', '2', '8', '3', '8', '6', '7', 'c', 'b', '9', '5', 'd', '8', 'c', '8', '5', '8', '9', 'f', '0', '6', '8', '3', ' ', 'c', 'u', 't']).getD 1 [] :: "cut".toList :: wordsSigns ['a', 't', ' ', 'l', 'o', 'o', 'p', '.', 'e', 'x', 'a', 'm', 'p', 'l', 'e', '/', 'g', '0', '0', '9', '1', '1', '/', 'l', 'a', 'w', 's', '.', 'F', 'n', 'E', 'x', 'a', 'c', 't', 'T', 'i', 'l', 'e', 's', 'O', 'n', ' ', 'l', 'o', 'o', 'p', '.', 'e', 'x', 'a', 'm', 'p', 'l', 'e', '/', 'g', '0', '0', '9', '1', '1', '/', 'l', 'a', 'w', 's', '.', 'F', 'n', 'E', 'x', 'a', 'c', 't', 'W', 'o', 'r', 'd', 's', 'O', 'n', ' ', 'l', 'o', 'o', 'p', '.', 'e', 'x', 'a', 'm', 'p', 'l', 'e', '/', 'g', '0', '0', '9', '1', '1', '/', 'l', 'a', 'w', 's', '.', 'F', 'n', 'E', 'x', 'a', 'c', 't', 'B', 'o', 'a', 'r', 'd', 'T', 'e', 'x', 't', ' ', 'l', 'o', 'o', 'p', '.', 'e', 'x', 'a', 'm', 'p', 'l', 'e', '/', 'g', '0', '0', '9', '1', '1', '/', 'l', 'a', 'w', 's', '.', 'F', 'n', 'E', 'x', 'a', 'c', 't', 'R', 'e', 'a', 'd', 'B', 'o', 'a', 'r', 'd', ' ', 'l', 'o', 'o', 'p', '.', 'e', 'x', 'a', 'm', 'p', 'l', 'e', '/', 'g', '0', '0', '9', '1', '1', '/', 'l', 'a', 'w', 's', '.', 'F', 'n', 'E', 'x', 'a', 'c', 't', 'V', 'a', 'l', 'i', 'd', 'P', 'l', 'a', 'y', ' ', 'l', 'o', 'o', 'p', '.', 'e', 'x', 'a', 'm', 'p', 'l', 'e', '/', 'g', '0', '0', '9', '1', '1', '/', 'l', 'a', 'w', 's', '.', 'F', 'n', 'E', 'x', 'a', 'c', 't', 'N', 'e', 'w', 'S', 'q', 'u', 'a', 'r', 'e', 's', ' ', 'l', 'o', 'o', 'p', '.', 'e', 'x', 'a', 'm', 'p', 'l', 'e', '/', 'g', '0', '0', '9', '1', '1', '/', 'l', 'a', 'w', 's', '.', 'F', 'n', 'E', 'x', 'a', 'c', 't', 'P', 'l', 'a', 'c', 'e', 'd', 'T', 'i', 'l', 'e', 's', ' ', 'l', 'o', 'o', 'p', '.', 'e', 'x', 'a', 'm', 'p', 'l', 'e', '/', 'g', '0', '0', '9', '1', '1', '/', 'l', 'a', 'w', 's', '.', 'F', 'n', 'E', 'x', 'a', 'c', 't', 'W', 'o', 'r', 'd', 's', 'F', 'o', 'r', 'm', 'e', 'd', ' ', 'l', 'o', 'o', 'p', '.', 'e', 'x', 'a', 'm', 'p', 'l', 'e', '/', 'g', '0', '0', '9', '1', '1', '/', 'l', 'a', 'w', 's', '.', 'F', 'n', 'E', 'x', 'a', 'c', 't', 'T', 'o', 'u', 'c', 'h', 'e', 's', 'B', 'o', 'a', 'r', 'd', ' ', 'l', 'o', 'o', 'p', '.', 'e', 'x', 'a', 'm', 'p', 'l', 'e', '/', 'g', '0', '0', '9', '1', '1', '/', 'l', 'a', 'w', 's', '.', 'F', 'n', 'E', 'x', 'a', 'c', 't', 'M', 'a', 'k', 'e', 'P', 'l', 'a', 'y'] := words_of init_list init_head
theorem door_fits : Tryd.pinned.checked.prog.doorFits [] = true := by kernel_rfl
theorem no_lifts (R : List (List Char)) : stripLifts liftWords ("cut".toList :: R) = ([], "cut".toList :: R) := by
  simp [stripLifts, liftWords]
theorem behind_main {P : Program} {s : List Char} {R : List (List Char)} (h : wordsSigns P.initOrder.toList = "harness".toList :: s :: "cut".toList :: R) (hs : isSumSigns s = true) : behindMainWord (wordsSigns P.initOrder.toList) = "cut".toList :: R := by
  rw [h]
  simp [behindMainWord, hs]
theorem may_enter {P : Program} {s : List Char} {R : List (List Char)} (h : wordsSigns P.initOrder.toList = "harness".toList :: s :: "cut".toList :: R) (hs : isSumSigns s = true) (hd : P.doorFits [] = true) (hl : P.laysLater = false) (hr : P.bearsReflect = false) : P.mayEnter = true := by
  unfold Program.mayEnter
  rw [behind_main h hs]
  simp only []
  rw [no_lifts]
  simp [hd, hl, hr]
theorem head_lifts {P : Program} {s : List Char} {R : List (List Char)} (h : wordsSigns P.initOrder.toList = "harness".toList :: s :: "cut".toList :: R) (hs : isSumSigns s = true) : P.headLifts = [] := by
  unfold Program.headLifts
  rw [behind_main h hs, no_lifts]
  simp
theorem lifts_final {P : Program} {s : List Char} {R : List (List Char)} (h : wordsSigns P.initOrder.toList = "harness".toList :: s :: "cut".toList :: R) (hs : isSumSigns s = true) : P.liftsFinal = false := by
  unfold Program.liftsFinal
  rw [behind_main h hs, head_lifts h hs]
  simp
theorem made {P : Program} {s : List Char} {R : List (List Char)} (h : wordsSigns P.initOrder.toList = "harness".toList :: s :: "cut".toList :: R) (hs : isSumSigns s = true) : P.make = some .cut := by
  unfold Program.make
  rw [behind_main h hs]
  simp
theorem main_is {P : Program} {s : List Char} {R : List (List Char)} (h : wordsSigns P.initOrder.toList = "harness".toList :: s :: "cut".toList :: R) (hs : isSumSigns s = true) : P.mainIs = some (true, s) := by
  unfold Program.mainIs
  rw [h]
  simp [hs]
set_option maxRecDepth 100000
theorem prog_enter : Tryd.pinned.checked.prog.mayEnter = true := may_enter init_words init_sum door_fits (by kernel_rfl) (by kernel_rfl)
theorem prog_lifts : Tryd.pinned.checked.prog.liftsFinal = false := lifts_final init_words init_sum
theorem prog_made : Tryd.pinned.checked.prog.make = some .cut := made init_words init_sum
theorem prog_main : Tryd.pinned.checked.prog.mainIs = some (true, (wordsSigns ['h', 'a', 'r', 'n', 'e', 's', 's', ' ', '6', 'f', '5', '9', '7', '5', 'e', '1', '2', 'd', '9', '8', 'f', '6', 'e', '0', '0', '5', '8', 'b', 'c', '1', '3', 'c', '7', '9', '2', 'f', 'c', '8', '6', '0', '4', 'd', 'e', 'd', 'f', 'e', '9', 'e', 'b', 'b', '2', '8', '3', '8', '6', '7', 'c', 'b', '9', '5', 'd', '8', 'c', '8', '5', '8', '9', 'f', '0', '6', '8', '3', ' ', 'c', 'u', 't']).getD 1 []) := main_is init_words init_sum
end Go.Proofs.YtmkdbahdhobdjaaDoor
