/-
  Rows of rows of strings, the lists of affixes of a stem, rows of derivations: XIB to XIH in one.
-/
import Derived.Test.YtilagppmljpclaaJ1
import Derived.Test.YtilagppmljpclaaL0
import Derived.Deep.AppendLies
import Derived.Deep.RegionHeld3
import Derived.Deep.RegionLaw
import Derived.IntWalk
import Derived.Test.YtilagppmljpclaaI5
import Derived.Test.YtilagppmljpclaaLA
import Derived.Maps.AppendAt
import Derived.Test.YtilagppmljpclaaI4
import Derived.Test.YtilagppmljpclaaIP
namespace Go.Proofs.Ytilagppmljpclaa
open Go.RowKit

theorem below_alI {a w : World} (h : Below a.heap.size a w) (o : Obj) : Below a.heap.size a (w.alloc o) := h.alloc h.size o
theorem apart_grownI {W w' : World} {v : Value} {o : Obj} (hg : (W.alloc o).grownBy w' v.ownBlock) : Apart (fun b => v.ownBlock = some b) W w' :=
  ((Apart.refl _ W).alloc o).grown hg (fun _ hk _ => hk)
theorem OwnS.apartI {B : Nat} {w w' : World} {v : Value} {ss : List ByteArray} {S : Nat → Prop} (h : OwnS B w v ss) (hk : Apart S w w') (hv : ∀ k, v.ownBlock = some k → ¬ S k) : OwnS B w' v ss := own_apart h hk hv
theorem info_lst : (Try.prog.info? 25).map (fun i => (i.zero, i.size, i.bytes)) = some (some (.slice none 0 0), 1, 24) := by kernel_rfl
def usG (us : List Value) (j : Nat) : Value := us.getD j .nilFunc
def rowG (L : List (List ByteArray)) (j : Nat) : List ByteArray := L.getD j []
theorem usG_snoc (us : List Value) (u : Value) (j : Nat) (h : j ≤ us.length) : usG (us ++ [u]) j = if j = us.length then u else usG us j := by
  unfold usG
  rw [List.getD_eq_getElem?_getD, List.getD_eq_getElem?_getD]
  split
  · subst_vars; rw [List.getElem?_append_right (Nat.le_refl _)]; simp
  · rw [List.getElem?_append_left (by omega)]
theorem rowG_snoc (L : List (List ByteArray)) (x : List ByteArray) (j : Nat) (h : j ≤ L.length) : rowG (L ++ [x]) j = if j = L.length then x else rowG L j := by
  unfold rowG
  rw [List.getD_eq_getElem?_getD, List.getD_eq_getElem?_getD]
  split
  · subst_vars; rw [List.getElem?_append_right (Nat.le_refl _)]; simp
  · rw [List.getElem?_append_left (by omega)]
/-- Values that are rows of strings of the call's own, no two in one block. -/
structure Kin (B : Nat) (w : World) (us : List Value) (L : List (List ByteArray)) : Prop where
  len : us.length = L.length
  own : ∀ j, j < us.length → OwnS B w (usG us j) (rowG L j)
  two : ∀ i j, i < us.length → j < us.length → i ≠ j → ∀ k, (usG us i).ownBlock = some k → (usG us j).ownBlock ≠ some k
theorem Kin.under {B : Nat} {w : World} {us : List Value} {L : List (List ByteArray)} (h : Kin B w us L) {j : Nat} (hj : j < us.length) : ∀ k, (usG us j).ownBlock = some k → B ≤ k ∧ k < w.heap.size := fun k hk => World.ownsRow.lt (h.own j hj) k hk
theorem Kin.apart {B : Nat} {w w' : World} {us : List Value} {L : List (List ByteArray)} {S : Nat → Prop} (h : Kin B w us L) (hk : Apart S w w') (hv : ∀ j, j < us.length → ∀ k, (usG us j).ownBlock = some k → ¬ S k) : Kin B w' us L :=
  ⟨h.len, fun j hj => (h.own j hj).apartI hk (hv j hj), h.two⟩
theorem Kin.nil (B : Nat) (w : World) : Kin B w [] [] := ⟨rfl, fun j h => absurd h (by simp), fun i j h => absurd h (by simp)⟩
theorem Kin.snoc {B : Nat} {w w' : World} {us : List Value} {L : List (List ByteArray)} {u : Value} {x : List ByteArray} (h : Kin B w us L) (hs : Kin B w' us L) (hu : OwnS B w' u x) (hf : ∀ k, u.ownBlock = some k → w.heap.size ≤ k) : Kin B w' (us ++ [u]) (L ++ [x]) := by
  have hl := h.len
  refine ⟨by simp [hl], fun j hj => ?_, fun i j hi hj hij k hk => ?_⟩
  · rw [List.length_append, List.length_singleton] at hj
    rw [usG_snoc _ _ _ (by omega), rowG_snoc _ _ _ (by omega), ← hl]
    by_cases hx : j = us.length
    · rw [if_pos hx, if_pos hx]; exact hu
    · rw [if_neg hx, if_neg hx]; exact hs.own j (by omega)
  · rw [List.length_append, List.length_singleton] at hi hj
    rw [usG_snoc _ _ _ (by omega)] at hk ⊢
    by_cases hx : i = us.length
    · rw [if_pos hx] at hk
      rw [if_neg (by omega)]
      intro e
      have h1 := hf k hk
      have h2 := (h.under (j := j) (by omega) k e).2
      omega
    · rw [if_neg hx] at hk
      by_cases hy : j = us.length
      · rw [if_pos hy]
        intro e
        have h1 := hf k e
        have h2 := (h.under (j := i) (by omega) k hk).2
        omega
      · rw [if_neg hy]
        exact h.two i j (by omega) (by omega) hij k hk
/-- A row of such rows, in a block of its own. -/
structure Lists (B : Nat) (w : World) (v : Value) (us : List Value) (L : List (List ByteArray)) : Prop where
  row : w.ownsRow B 25 1 v us.length us
  kin : Kin B w us L
  off : ∀ j, j < us.length → ∀ k, (usG us j).ownBlock = some k → v.ownBlock ≠ some k
theorem Lists.under {B : Nat} {w : World} {v : Value} {us : List Value} {L : List (List ByteArray)} (h : Lists B w v us L) : ∀ k, v.ownBlock = some k → B ≤ k ∧ k < w.heap.size := fun k hk => World.ownsRow.lt h.row k hk
theorem Lists.quiet {B : Nat} {w w' : World} {v : Value} {us : List Value} {L : List (List ByteArray)} (h : Lists B w v us L) (hb : Below w.heap.size w w') : Lists B w' v us L :=
  ⟨own_kept h.row hb, h.kin.apart (Apart.of_below (S := fun _ => False) hb) (fun _ _ _ _ e => e), h.off⟩
theorem Lists.apart {B : Nat} {w w' : World} {v : Value} {us : List Value} {L : List (List ByteArray)} {S : Nat → Prop} (h : Lists B w v us L) (hk : Apart S w w') (hv : ∀ k, v.ownBlock = some k → ¬ S k) (hu : ∀ j, j < us.length → ∀ k, (usG us j).ownBlock = some k → ¬ S k) : Lists B w' v us L :=
  ⟨own_apart h.row hk hv, h.kin.apart hk hu, h.off⟩
theorem Lists.cell {B g n cap : Nat} {w : World} {us : List Value} {L : List (List ByteArray)} (h : Lists B w (.slice (some ⟨g, 0, none⟩) n cap) us L) {k : Nat} (hk : k < us.length) : w.cell? ⟨g, k, none⟩ = some (usG us k) := by
  obtain ⟨a, cap', hv, -⟩ := own_form h.row
  injection hv with h1 h2 h3
  subst h2
  have := World.ownsRow.cellAt h.row k (by omega)
  rw [this]
  unfold usG
  rw [List.getD_eq_getElem?_getD, List.getElem?_eq_getElem hk]
  rfl
theorem Lists.void (B : Nat) (w : World) : Lists B w (.slice none 0 0) [] [] := ⟨⟨rfl, .inl ⟨rfl, rfl⟩⟩, Kin.nil B w, fun j h => absurd h (by simp)⟩
theorem Lists.lit {B : Nat} {X : World} {u : Value} {x : List ByteArray} (hu : OwnS B X u x) (hB : B ≤ X.heap.size) : Lists B (X.alloc (.cells #[u] 25)) (.slice (some ⟨X.heap.size, 0, none⟩) 1 1) [u] [x] := by
  have hb : Below X.heap.size X (X.alloc (.cells #[u] 25)) := (Below.refl _ _).alloc (Nat.le_refl _) _
  have h1 : OwnS B (X.alloc (.cells #[u] 25)) u x := OwnS.kept hu hb
  refine ⟨World.ownsRow_lit (size := 1) X #[u] 1 hB (by unfold maxLen; omega) rfl, ⟨rfl, fun j hj => ?_, fun i j hi hj hij => ?_⟩, fun j hj k hk e => ?_⟩
  · obtain rfl : j = 0 := by simpa using hj
    exact h1
  · simp at hi hj; omega
  · obtain rfl : j = 0 := by simpa using hj
    have h2 := (World.ownsRow.lt hu k hk).2
    simp [Value.ownBlock] at e
    omega
theorem lit_one (X : World) (a : ByteArray) {B H : Nat} (hH : X.heap.size = H) (hB : B ≤ X.heap.size) : OwnS B (X.alloc (.cells #[.string a] 9)) (.slice (some ⟨H, 0, none⟩) 1 1) [a] := by
  subst hH
  exact OwnS.lower (World.ownsRow_lit (size := 1) X #[.string a] 1 (Nat.le_refl _) (by unfold maxLen; omega) rfl) hB
theorem lit_two (X : World) (a b : ByteArray) {B H : Nat} (hH : X.heap.size = H) (hB : B ≤ X.heap.size) : OwnS B (X.alloc (.cells #[.string a, .string b] 9)) (.slice (some ⟨H, 0, none⟩) 2 2) [a, b] := by
  subst hH
  exact OwnS.lower (World.ownsRow_lit (size := 1) X #[.string a, .string b] 2 (Nat.le_refl _) (by unfold maxLen; omega) rfl) hB
theorem lit_void (X : World) {B H : Nat} (hH : X.heap.size = H) (hB : B ≤ X.heap.size) : OwnS B (X.alloc (.cells #[] 9)) (.slice (some ⟨H, 0, none⟩) 0 0) [] := by
  subst hH
  exact OwnS.lower (World.ownsRow_lit (size := 1) X #[] 0 (Nat.le_refl _) (by unfold maxLen; omega) rfl) hB
theorem OwnS.drewI {B : Nat} {w : World} {v : Value} {ss : List ByteArray} (h : OwnS B w v ss) : OwnS B w.drew v ss := h
/-- One row more: what it comes to. -/
theorem Lists.append {B g n cap : Nat} {w0 w1 w' : World} {v u : Value} {us : List Value} {L : List (List ByteArray)} {x : List ByteArray} (h : Lists B w0 v us L) (hb : Below w0.heap.size w0 w1) (hu : OwnS B w1 u x) (hf : ∀ k, u.ownBlock = some k → w0.heap.size ≤ k)
    (ho : w'.ownsRow B 25 1 (.slice (some ⟨g, 0, none⟩) n cap) (us.length + 1) (us ++ [u])) (hk : Apart (fun b => v.ownBlock = some b) w1 w') (hl : v.ownBlock = some g ∨ w1.heap.size ≤ g) : Lists B w' (.slice (some ⟨g, 0, none⟩) n cap) (us ++ [u]) (L ++ [x]) := by
  have hu' : OwnS B w' u x := hu.apartI hk fun k hk e => by
    have h1 := hf k hk
    have h2 := (h.under k e).2
    omega
  have hkin : Kin B w' us L := (h.kin.apart (Apart.of_below (S := fun _ => False) hb) (fun _ _ _ _ e => e)).apart hk fun j hj k hk e => h.off j hj k hk e
  refine ⟨by rw [List.length_append, List.length_singleton]; exact ho, h.kin.snoc hkin hu' hf, fun j hj k hk e => ?_⟩
  rw [List.length_append, List.length_singleton] at hj
  rw [usG_snoc _ _ _ (by omega)] at hk
  simp [Value.ownBlock] at e
  subst e
  have hs := hb.size
  by_cases hx : j = us.length
  · rw [if_pos hx] at hk
    have h1 := hf _ hk
    have h2 := (World.ownsRow.lt hu _ hk).2
    rcases hl with hl | hl
    · have := (h.under _ hl).2; omega
    · omega
  · rw [if_neg hx] at hk
    have h2 := (h.kin.under (j := j) (by omega) _ hk).2
    rcases hl with hl | hl
    · exact h.off j (by omega) _ hk hl
    · omega
/-- The append of one row, at the operation. -/
theorem wpList_append_list {ops : Array Oper} {rest : List Oper} {o : Oper} {a : Act} {Q : Exit → Act → World → Prop} {B H : Nat} {W0 W : World} (hgd : o.guard = none) (s x : Operand)
    (ho : o.op = .call { callee := .builtin .append, args := #[s, x], argTypes := #[108, 108] })
    (v u : Value) (us : List Value) (L : List (List ByteArray)) (r : List ByteArray) (hs : a.eval s = v) (hx : a.eval x = .slice (some ⟨H, 0, none⟩) 1 1) (hH : W.heap.size = H) (hu1 : u.oneCell' = true)
    (hown : Lists B W0 v us L) (hlen : us.length ≤ 1100000) (hB : B ≤ W0.heap.size) (hb : Below W0.heap.size W0 W) (hu : OwnS B W u r) (hf : ∀ k, u.ownBlock = some k → W0.heap.size ≤ k)
    (h : ∀ g cap w', Lists B w' (.slice (some ⟨g, 0, none⟩) (us.length + 1) cap) (us ++ [u]) (L ++ [r]) → Apart (fun b => v.ownBlock = some b) W0 w' → wpList Try.prog ops Q rest (a.put o.dst (.slice (some ⟨g, 0, none⟩) (us.length + 1) cap)) w') :
    wpList Try.prog ops Q (o :: rest) a (W.alloc (.cells #[u] 25)) := by
  obtain ⟨i0, hi, hz0, hz1, hz2⟩ := info_parts info_lst
  have hbW := hb.size
  subst hH
  refine wpList_append_lies _ hgd s x 108 ho B 25 i0 (.slice none 0 0) 1 24 Try.underlying108 hi hz0 hz1 hz2 rfl (by decide) v us.length us hs (World.ownsRow.alloc (hown.quiet hb).row _) ⟨W.heap.size, 0, none⟩ 1 1 [u] hx rfl ?_ ?_ (by decide) ?_ ?_ ?_ _ rfl ?_
  · exact cell_one_new _ _ _
  · intro y hy; simp at hy; subst hy; exact hu1
  · simp [maxLen]; omega
  · omega
  · simp; omega
  · intro g cap w' ho' hg hl _
    have hap : Apart (fun b => v.ownBlock = some b) W w' := apart_grownI hg
    refine h g cap w' (hown.append hb hu hf ho' hap (hl.imp id fun e => by rw [e]; simp)) ((Apart.of_below (S := fun b => v.ownBlock = some b) hb).trans hap fun _ _ e => e)
/-- The same in a region that draws. -/
theorem step_append_list {ops : Array Oper} {o : Oper} {a : Act} {K : Act → World → Prop} {Q : Exit → Act → World → Prop} {E : Prop} {B H : Nat} {W0 W : World} (hgd : o.guard = none) (s x : Operand)
    (ho : o.op = .call { callee := .builtin .append, args := #[s, x], argTypes := #[108, 108] })
    (v u : Value) (us : List Value) (L : List (List ByteArray)) (r : List ByteArray) (hs : a.eval s = v) (hx : a.eval x = .slice (some ⟨H, 0, none⟩) 1 1) (hH : W.heap.size = H) (hu1 : u.oneCell' = true)
    (hown : Lists B W0 v us L) (hlen : us.length ≤ 1100000) (hB : B ≤ W0.heap.size) (hb : Below W0.heap.size W0 W) (hu : OwnS B W u r) (hf : ∀ k, u.ownBlock = some k → W0.heap.size ≤ k)
    (h : ∀ g cap w', Lists B w' (.slice (some ⟨g, 0, none⟩) (us.length + 1) cap) (us ++ [u]) (L ++ [r]) → Apart (fun b => v.ownBlock = some b) W0 w' → K (a.put o.dst (.slice (some ⟨g, 0, none⟩) (us.length + 1) cap)) w') :
    if Region.wanted o (yielded ops a.tmps) = true then Oper.wp Try.prog o a (W.alloc (.cells #[u] 25)) K Q else E := by
  obtain ⟨i0, hi, hz0, hz1, hz2⟩ := info_parts info_lst
  have hbW := hb.size
  subst hH
  refine step_append_lies _ hgd s x 108 ho B 25 i0 (.slice none 0 0) 1 24 Try.underlying108 hi hz0 hz1 hz2 rfl (by decide) v us.length us hs (World.ownsRow.alloc (hown.quiet hb).row _) ⟨W.heap.size, 0, none⟩ 1 1 [u] hx rfl ?_ ?_ (by decide) ?_ ?_ ?_ _ rfl ?_
  · exact cell_one_new _ _ _
  · intro y hy; simp at hy; subst hy; exact hu1
  · simp [maxLen]; omega
  · omega
  · simp; omega
  · intro g cap w' ho' hg hl _
    have hap : Apart (fun b => v.ownBlock = some b) W w' := apart_grownI hg
    refine h g cap w' (hown.append hb hu hf ho' hap (hl.imp id fun e => by rw [e]; simp)) ((Apart.of_below (S := fun b => v.ownBlock = some b) hb).trans hap fun _ _ e => e)
theorem step_append_listD {ops : Array Oper} {o : Oper} {a : Act} {K : Act → World → Prop} {Q : Exit → Act → World → Prop} {E : Prop} {B H : Nat} {W0 W : World} (hgd : o.guard = none) (s x : Operand)
    (ho : o.op = .call { callee := .builtin .append, args := #[s, x], argTypes := #[108, 108] })
    (v u : Value) (us : List Value) (L : List (List ByteArray)) (r : List ByteArray) (hs : a.eval s = v) (hx : a.eval x = .slice (some ⟨H, 0, none⟩) 1 1) (hH : W.heap.size = H) (hu1 : u.oneCell' = true)
    (hown : Lists B W0 v us L) (hlen : us.length ≤ 1100000) (hB : B ≤ W0.heap.size) (hb : Below W0.heap.size W0 W) (hu : OwnS B W u r) (hf : ∀ k, u.ownBlock = some k → W0.heap.size ≤ k)
    (h : ∀ g cap w', Lists B w' (.slice (some ⟨g, 0, none⟩) (us.length + 1) cap) (us ++ [u]) (L ++ [r]) → Apart (fun b => v.ownBlock = some b) W0 w' → K (a.put o.dst (.slice (some ⟨g, 0, none⟩) (us.length + 1) cap)) w') :
    if Region.wanted o (yielded ops a.tmps) = true then Oper.wp Try.prog o a (W.alloc (.cells #[u] 25)).drew K Q else E := by
  obtain ⟨i0, hi, hz0, hz1, hz2⟩ := info_parts info_lst
  have hbW := hb.size
  subst hH
  have hb1 := (below_alI hb (.cells #[u] 25)).drew
  have hu' : OwnS B (W.alloc (.cells #[u] 25)).drew u r := OwnS.kept hu (((Below.refl _ _).alloc (Nat.le_refl _) _).drew)
  refine step_append_lies _ hgd s x 108 ho B 25 i0 (.slice none 0 0) 1 24 Try.underlying108 hi hz0 hz1 hz2 rfl (by decide) v us.length us hs (hown.quiet hb1).row ⟨W.heap.size, 0, none⟩ 1 1 [u] hx rfl ?_ ?_ (by decide) ?_ ?_ ?_ _ rfl ?_
  · exact cell_one_new _ _ _
  · intro y hy; simp at hy; subst hy; exact hu1
  · simp [maxLen]; omega
  · omega
  · simp [World.drew]; omega
  · intro g cap w' ho' hg hl _
    have hap : Apart (fun b => v.ownBlock = some b) (W.alloc (.cells #[u] 25)).drew w' := (Apart.refl _ _).grown hg (fun _ hk _ => hk)
    refine h g cap w' (hown.append hb1 hu' hf ho' hap (hl.imp id fun e => by rw [e]; simp [World.drew])) ((Apart.of_below (S := fun b => v.ownBlock = some b) hb1).trans hap fun _ _ e => e)
end Go.Proofs.Ytilagppmljpclaa

namespace Go.Proofs.Ytilagppmljpclaa
open Go.RowKit

def oneTo (us : List ByteArray) (k : Nat) : List (List ByteArray) := [] :: (List.range k).map (fun j => [strAt us j])
def twoRow (us : List ByteArray) (i k : Nat) : List (List ByteArray) := ((List.range k).filter (fun j => i != j)).map (fun j => [strAt us i, strAt us j])
def twoTo (us : List ByteArray) (i : Nat) : List (List ByteArray) := (List.range i).flatMap (fun a => twoRow us a us.length)
/-- All lists of no name, of one, of two that stand at different places. -/
def waysU (us : List ByteArray) : List (List ByteArray) := oneTo us us.length ++ twoTo us us.length
theorem oneTo_snoc (us : List ByteArray) (k : Nat) : oneTo us (k + 1) = oneTo us k ++ [[strAt us k]] := by
  unfold oneTo
  rw [List.range_succ, List.map_append]
  rfl
theorem twoRow_yes (us : List ByteArray) {i k : Nat} (h : i ≠ k) : twoRow us i (k + 1) = twoRow us i k ++ [[strAt us i, strAt us k]] := by
  unfold twoRow
  rw [List.range_succ, List.filter_append, List.map_append, List.filter_cons_of_pos (by simpa using h)]
  rfl
theorem twoRow_no (us : List ByteArray) (i : Nat) : twoRow us i (i + 1) = twoRow us i i := by
  unfold twoRow
  rw [List.range_succ, List.filter_append, List.map_append, List.filter_cons_of_neg (by simp)]
  simp
theorem twoTo_snoc (us : List ByteArray) (i : Nat) : twoTo us (i + 1) = twoTo us i ++ twoRow us i us.length := by
  unfold twoTo
  rw [List.range_succ, List.flatMap_append]
  simp
theorem oneTo_len (us : List ByteArray) (k : Nat) : (oneTo us k).length = k + 1 := by unfold oneTo; simp
theorem twoRow_len (us : List ByteArray) (i k : Nat) : (twoRow us i k).length ≤ k := by
  unfold twoRow
  rw [List.length_map]
  exact Nat.le_trans (List.length_filter_le _ _) (by simp)
theorem twoTo_len (us : List ByteArray) (i : Nat) : (twoTo us i).length ≤ i * us.length := by
  induction i with
  | zero => simp [twoTo]
  | succ i ih =>
    rw [twoTo_snoc, List.length_append, Nat.succ_mul]
    have := twoRow_len us i us.length
    omega
theorem twoTo_len2 {us : List ByteArray} (hn : us.length ≤ 1000) {i : Nat} (hi : i ≤ us.length) : (twoTo us i).length ≤ 1000000 :=
  Nat.le_trans (twoTo_len us i) (Nat.le_trans (Nat.mul_le_mul (Nat.le_trans hi hn) hn) (by decide))
theorem lists_own {B : Nat} {w : World} {v : Value} {us : List Value} {L : List (List ByteArray)} (h : Lists B w v us L) : us.length = L.length ∧ ∃ (a : Option Addr) (cap : Nat), v = .slice a us.length cap ∧ us.length ≤ cap ∧ cap ≤ maxLen ∧ (0 < us.length → ∃ g, a = some ⟨g, 0, none⟩ ∧ B ≤ g ∧ g < w.heap.size) := ⟨h.kin.len, own_form h.row⟩
theorem lists_below {B g n cap : Nat} {w0 w w' : World} {v : Value} {us us' : List Value} {L L' : List (List ByteArray)} (hb : Below w0.heap.size w0 w) (h : Lists w0.heap.size w v us L) (hk : Apart (fun b => v.ownBlock = some b) w w') (_ : Lists B w' (.slice (some ⟨g, 0, none⟩) n cap) us' L') : Below w0.heap.size w0 w' :=
  hb.trans (hk.below (fun i hi e => by have := (h.under i e).1; omega) hb.size)

set_option maxRecDepth 100000 in
set_option maxHeartbeats 4000000 in
theorem l04Ways_any {v : Value} {us : List ByteArray} (w : World) (hu : Strs w v us) (hn : us.length ≤ 1000) :
    Calls Try.prog 81 #[v] w fun e w' => ∃ r vs, e = .returned r ∧ Lists w.heap.size w' r vs (waysU us) ∧ Below w.heap.size w w' := by
  obtain ⟨a, cap, rfl, hl, hm, hc⟩ := hu
  have HC := Shh.mk hc
  clear hc
  have HB0 := Shh.mk (((Below.refl w.heap.size w).alloc (Nat.le_refl _) (.cells #[] 9)).alloc (by simp) (.cells #[.slice (some ⟨w.heap.size, 0, none⟩) 0 0] 25))
  have h0 := Lists.lit (B := w.heap.size) (X := w.alloc (.cells #[] 9)) (lit_void w rfl (Nat.le_refl _)) (by simp)
  rw [World.size_alloc] at h0
  have H0 := Shh.mk h0
  clear h0
  go_enter Try.func81, Try.ntmps81
  go_wp2
  go_loopw [3, 4] (fun o i wr => ∃ (k : Nat) (vs : List Value), k ≤ us.length ∧ i = .int .i64 k ∧ Shh (Lists w.heap.size wr o vs (oneTo us k)) ∧ Shh (Below w.heap.size w wr)) (fun _ i _ => us.length - (intOf i).toNat)
  case atStart => exact ⟨0, _, Nat.zero_le _, rfl, H0, HB0⟩
  case round =>
    obtain ⟨k, vs, hk, rfl, ho, hB⟩ := hrel
    obtain ⟨hvl, oa, oc, rfl, ho1, ho2, -⟩ := lists_own ho.out
    rw [oneTo_len] at hvl
    have hv9 : vs.length ≤ 1001 := by omega
    clear hvl
    by_cases hlt : k < us.length
    · obtain ⟨ba, oa2, rfl, hba, hca⟩ := HC.out (by omega)
      have ck : wr.cell? ⟨ba, oa2 + k, none⟩ = some (.string (strAt us k)) := (hB.out.cell (p := ⟨ba, oa2 + k, none⟩) hba).trans (hca k hlt)
      obtain ⟨x, hx⟩ : ∃ x, strAt us k = x := ⟨_, rfl⟩
      rw [hx] at ck
      have HX := Shh.mk (show oneTo us (k + 1) = oneTo us k ++ [[x]] by rw [oneTo_snoc, hx])
      clear hca hx
      have hkc : (k : Int) < (us.length : Int) := by omega
      have hk0 : (0 : Int) ≤ (k : Int) := by omega
      have hBs := hB.out.size
      go_wp2_with (at_builtin; go_loud (refine wpList_append_list (W0 := wr) rfl _ _ rfl _ _ vs _ [x] rfl rfl (by simp) rfl ho.out (by omega) (by omega) (below_alI (Below.refl _ _) _) (lit_one _ _ rfl (by omega)) (fun j hj => by simp [Value.ownBlock] at hj; omega) ?_; intro g4 c4 w4 ho4 hk4))
      have HB4 := Shh.mk (lists_below hB.out ho.out hk4 ho4)
      rw [← HX.out] at ho4
      have HO4 := Shh.mk ho4
      clear ho4
      go_wp2
      go_roundw
      case rel => exact ⟨k + 1, _, by omega, by go_num, by first | exact HO4 | (rw [List.length_append] at *; exact HO4), HB4⟩
      case measure => simp [intOf]; omega
    · obtain rfl : k = us.length := by omega
      have H1 := Shh.mk (show Shh (Lists w.heap.size wr (.slice oa vs.length oc) vs (oneTo us us.length ++ twoTo us 0)) from ⟨by unfold twoTo; simpa using ho.out⟩)
      clear ho hlt hk
      go_wp2
      go_loopw [3, 5] (fun o i wr => ∃ (k : Nat) (vs : List Value), k ≤ us.length ∧ i = .int .i64 k ∧ Shh (Lists w.heap.size wr o vs (oneTo us us.length ++ twoTo us k)) ∧ Shh (Below w.heap.size w wr)) (fun _ i _ => us.length - (intOf i).toNat)
      case atStart => exact ⟨0, _, Nat.zero_le _, rfl, H1.out, hB⟩
      case round =>
        clear hB H1
        obtain ⟨k, vs2, hk, rfl, ho, hB⟩ := hrel
        obtain ⟨-, oa2, oc2, rfl, hp1, hp2, -⟩ := lists_own ho.out
        by_cases hlt : k < us.length
        · have H2 := Shh.mk (show Shh (Lists w.heap.size wr (.slice oa2 vs2.length oc2) vs2 (oneTo us us.length ++ twoTo us k ++ twoRow us k 0)) from ⟨by unfold twoRow; simpa using ho.out⟩)
          have hkc : (k : Int) < (us.length : Int) := by omega
          have hk0 : (0 : Int) ≤ (k : Int) := by omega
          have HT := Shh.mk (show oneTo us us.length ++ twoTo us (k + 1) = oneTo us us.length ++ twoTo us k ++ twoRow us k us.length by rw [twoTo_snoc, List.append_assoc])
          have HL := Shh.mk (show (oneTo us us.length ++ twoTo us k).length ≤ 1001001 by
            rw [List.length_append, oneTo_len]
            have := twoTo_len2 hn (Nat.le_of_lt hlt)
            omega)
          obtain ⟨M, hM⟩ : ∃ M, oneTo us us.length ++ twoTo us k = M := ⟨_, rfl⟩
          rw [hM] at H2 HT HL
          clear ho hM
          go_wp2
          go_loopw [3, 6] (fun o i wr => ∃ (j : Nat) (vs : List Value), j ≤ us.length ∧ i = .int .i64 j ∧ Shh (Lists w.heap.size wr o vs (M ++ twoRow us k j)) ∧ Shh (Below w.heap.size w wr)) (fun _ i _ => us.length - (intOf i).toNat)
          case atStart => exact ⟨0, _, Nat.zero_le _, rfl, H2.out, hB⟩
          case round =>
            clear hB H2
            obtain ⟨j, vs3, hj, rfl, ho, hB⟩ := hrel
            obtain ⟨hvl, oa3, oc3, rfl, hq1, hq2, -⟩ := lists_own ho.out
            have hv9 : vs3.length ≤ 1100000 := by
              rw [List.length_append] at hvl
              have h1 := HL.out
              have h2 := twoRow_len us k j
              omega
            clear hvl
            by_cases hlj : j < us.length
            · have hjc : (j : Int) < (us.length : Int) := by omega
              have hj0 : (0 : Int) ≤ (j : Int) := by omega
              by_cases hkj : k = j
              · have HX := Shh.mk (show M ++ twoRow us k (j + 1) = M ++ twoRow us k j by subst hkj; rw [twoRow_no])
                subst hkj
                go_wp2
                go_roundw
                case rel => exact ⟨k + 1, _, by omega, by go_num, by rw [HX.out]; exact ho, hB⟩
                case measure => simp [intOf]; omega
              · obtain ⟨ba, ob, rfl, hba, hca⟩ := HC.out (by omega)
                have ck : wr.cell? ⟨ba, ob + k, none⟩ = some (.string (strAt us k)) := (hB.out.cell (p := ⟨ba, ob + k, none⟩) hba).trans (hca k hlt)
                have cj : wr.cell? ⟨ba, ob + j, none⟩ = some (.string (strAt us j)) := (hB.out.cell (p := ⟨ba, ob + j, none⟩) hba).trans (hca j hlj)
                have hkj2 : ¬ (k : Int) = (j : Int) := by omega
                have HX := Shh.mk (show M ++ twoRow us k (j + 1) = M ++ twoRow us k j ++ [[strAt us k, strAt us j]] by rw [twoRow_yes us hkj, List.append_assoc])
                obtain ⟨x, hx⟩ : ∃ x, strAt us k = x := ⟨_, rfl⟩
                obtain ⟨y, hy⟩ : ∃ y, strAt us j = y := ⟨_, rfl⟩
                rw [hx] at ck HX
                rw [hy] at cj HX
                clear hca hx hy
                have hBs := hB.out.size
                go_wp2_with fail
                go_region_law (first
                  | (refine step_append_listD (W0 := wr) (by rfl) _ _ (by rfl) _ _ vs3 _ [x, y] (by rfl) (by rfl) (by simp) (by rfl) ho.out (by omega) (by omega) (by repeat' first | exact Below.refl _ _ | apply Below.drew | apply below_alI) (by repeat' first | exact lit_two _ _ _ (by rfl) (by first | omega | (simp [World.drew]; omega)) | apply OwnS.drewI) (fun j hj => by simp [Value.ownBlock] at hj; omega) ?_; intro g5 c5 w5 ho5 hk5)
                  | (refine step_append_list (W0 := wr) (by rfl) _ _ (by rfl) _ _ vs3 _ [x, y] (by rfl) (by rfl) (by simp) (by rfl) ho.out (by omega) (by omega) (by repeat' first | exact Below.refl _ _ | apply Below.drew | apply below_alI) (by repeat' first | exact lit_two _ _ _ (by rfl) (by first | omega | (simp [World.drew]; omega)) | apply OwnS.drewI) (fun j hj => by simp [Value.ownBlock] at hj; omega) ?_; intro g5 c5 w5 ho5 hk5))
                all_goals
                  have HB5 := Shh.mk (lists_below hB.out ho.out hk5 ho5)
                  rw [← HX.out] at ho5
                  have HO5 := Shh.mk ho5
                  clear ho5 hk5
                  go_wp2
                  go_roundw
                  case rel => exact ⟨j + 1, _, by omega, by go_num, HO5, HB5⟩
                  case measure => simp [intOf]; omega
            · obtain rfl : j = us.length := by omega
              have HO9 := Shh.mk (show Shh (Lists w.heap.size wr (.slice oa3 vs3.length oc3) vs3 (oneTo us us.length ++ twoTo us (k + 1))) from ⟨by rw [HT.out]; exact ho.out⟩)
              clear ho
              go_wp2
              go_roundw
              case rel => exact ⟨k + 1, _, by omega, by go_num, HO9.out, hB⟩
              case measure => simp [intOf]; omega
        · obtain rfl : k = us.length := by omega
          have HO9 := Shh.mk (show Shh (Lists w.heap.size wr (.slice oa2 vs2.length oc2) vs2 (waysU us)) from ⟨ho.out⟩)
          clear ho
          go_wp2
          go_ret
          exact ⟨_, _, rfl, HO9.out.out, hB.out⟩
end Go.Proofs.Ytilagppmljpclaa

namespace Go.Proofs.Ytilagppmljpclaa
open Go.RowKit

theorem Kin.lower {B C : Nat} {w : World} {us : List Value} {L : List (List ByteArray)} (h : Kin B w us L) (hC : C ≤ B) : Kin C w us L := ⟨h.len, fun j hj => (h.own j hj).lower hC, h.two⟩
theorem Lists.lower {B C : Nat} {w : World} {v : Value} {us : List Value} {L : List (List ByteArray)} (h : Lists B w v us L) (hC : C ≤ B) : Lists C w v us L := ⟨own_lower h.row hC, h.kin.lower hC, h.off⟩
theorem usG_app (us vs : List Value) (j : Nat) : usG (us ++ vs) j = if j < us.length then usG us j else usG vs (j - us.length) := by
  unfold usG
  rw [List.getD_eq_getElem?_getD, List.getD_eq_getElem?_getD, List.getD_eq_getElem?_getD]
  split
  · rw [List.getElem?_append_left (by omega)]
  · rw [List.getElem?_append_right (by omega)]
theorem rowG_app (us vs : List (List ByteArray)) (j : Nat) : rowG (us ++ vs) j = if j < us.length then rowG us j else rowG vs (j - us.length) := by
  unfold rowG
  rw [List.getD_eq_getElem?_getD, List.getD_eq_getElem?_getD, List.getD_eq_getElem?_getD]
  split
  · rw [List.getElem?_append_left (by omega)]
  · rw [List.getElem?_append_right (by omega)]
theorem usG_mem {us : List Value} {u : Value} (h : u ∈ us) : ∃ j, j < us.length ∧ usG us j = u := by
  obtain ⟨j, hj, rfl⟩ := List.getElem_of_mem h
  exact ⟨j, hj, by unfold usG; rw [List.getD_eq_getElem?_getD, List.getElem?_eq_getElem hj]; rfl⟩
/-- The rows of two such rows behind one another, where all of the first lie below S and all of the second beyond. -/
theorem Kin.join {B S : Nat} {w : World} {us vs : List Value} {L M : List (List ByteArray)} (h : Kin B w us L) (k : Kin S w vs M) (hB : B ≤ S) (hS : ∀ j, j < us.length → ∀ b, (usG us j).ownBlock = some b → b < S) : Kin B w (us ++ vs) (L ++ M) := by
  have h1 := h.len
  have h2 := k.len
  refine ⟨by simp [h1, h2], fun j hj => ?_, fun i j hi hj hij b hb e => ?_⟩
  · rw [List.length_append] at hj
    rw [usG_app, rowG_app, ← h1]
    by_cases hx : j < us.length
    · rw [if_pos hx, if_pos hx]; exact h.own j hx
    · rw [if_neg hx, if_neg hx]; exact (k.own _ (by omega)).lower hB
  · rw [List.length_append] at hi hj
    rw [usG_app] at hb e
    by_cases hx : i < us.length
    · rw [if_pos hx] at hb
      by_cases hy : j < us.length
      · rw [if_pos hy] at e; exact h.two i j hx hy hij b hb e
      · rw [if_neg hy] at e
        have := hS i hx b hb
        have := (k.under (j := j - us.length) (by omega) b e).1
        omega
    · rw [if_neg hx] at hb
      by_cases hy : j < us.length
      · rw [if_pos hy] at e
        have := hS j hy b e
        have := (k.under (j := i - us.length) (by omega) b hb).1
        omega
      · rw [if_neg hy] at e; exact k.two _ _ (by omega) (by omega) (by omega) b hb e
theorem lists_news {S n cap b : Nat} {w : World} {vl : List Value} {M : List (List ByteArray)} (h : Lists S w (.slice (some ⟨b, 0, none⟩) n cap) vl M) : ∀ j u, vl[j]? = some u → w.cell? ((⟨b, 0, none⟩ : Addr).add j) = some u := by
  intro j u hj
  have hjl : j < vl.length := by
    rcases Nat.lt_or_ge j vl.length with h | h
    · exact h
    · rw [List.getElem?_eq_none h] at hj; cases hj
  rw [Go.WideShapes.add_plain, Nat.zero_add, h.cell hjl]
  unfold usG
  rw [List.getD_eq_getElem?_getD, hj]
  rfl
theorem kin_one {S : Nat} {w : World} {vl : List Value} {M : List (List ByteArray)} (h : Kin S w vl M) : ∀ u ∈ vl, u.oneCell' = true := by
  intro u hu
  obtain ⟨j, hj, rfl⟩ := usG_mem hu
  obtain ⟨a, cap, e, -⟩ := own_form (h.own j hj)
  rw [e]
  rfl
/-- All rows of another such row behind a row of the call's own. -/
theorem wpList_append_all {ops : Array Oper} {rest : List Oper} {o : Oper} {a : Act} {Q : Exit → Act → World → Prop} {B S : Nat} {W : World} (hgd : o.guard = none) (s x : Operand)
    (ho : o.op = .call { callee := .builtin .append, args := #[s, x], argTypes := #[108, 108] })
    {v : Value} {va vl : List Value} {A M : List (List ByteArray)} {xa : Option Addr} {xc : Nat} (hs : a.eval s = v) (hx : a.eval x = .slice xa vl.length xc)
    (h1 : Lists B W v va A) (h2 : Lists S W (.slice xa vl.length xc) vl M) (hBS : B ≤ S) (hS : ∀ b, v.ownBlock = some b → b < S) (hS2 : ∀ j, j < va.length → ∀ b, (usG va j).ownBlock = some b → b < S) (hSW : S ≤ W.heap.size)
    (hlen : va.length + vl.length ≤ 2200000)
    (h : ∀ xa' c' w', Lists B w' (.slice xa' (va.length + vl.length) c') (va ++ vl) (A ++ M) → Lists S w' (.slice xa vl.length xc) vl M → Apart (fun b => v.ownBlock = some b) W w' → wpList Try.prog ops Q rest (a.put o.dst (.slice xa' (va.length + vl.length) c')) w') :
    wpList Try.prog ops Q (o :: rest) a W := by
  obtain ⟨i0, hi, hz0, hz1, hz2⟩ := info_parts info_lst
  have fin : ∀ v' w', w'.ownsRow B 25 1 v' (va.length + vl.length) (va ++ vl) → W.grownBy w' v.ownBlock → (v'.ownBlock = v.ownBlock ∨ v'.ownBlock = some W.heap.size) → wpList Try.prog ops Q rest (a.put o.dst v') w' := by
    intro v' w' hr hg hl
    have hap : Apart (fun b => v.ownBlock = some b) W w' := (Apart.refl _ W).grown hg (fun _ hk _ => hk)
    have k1 : Kin B w' va A := h1.kin.apart hap fun j hj k hk e => h1.off j hj k hk e
    have l2 : Lists S w' (.slice xa vl.length xc) vl M := h2.apart hap (fun k hk e => by have := (h2.under k hk).1; have := hS k e; omega) (fun j hj k hk e => by have := (h2.kin.under hj k hk).1; have := hS k e; omega)
    obtain ⟨ra, rc, rfl, -⟩ := own_form hr
    refine h ra rc w' ⟨by rw [List.length_append]; exact hr, k1.join l2.kin hBS hS2, fun j hj k hk e => ?_⟩ l2 hap
    rw [List.length_append] at hj
    rw [usG_app] at hk
    by_cases hxx : j < va.length
    · rw [if_pos hxx] at hk
      rcases hl with hl | hl
      · rw [hl] at e; exact h1.off j hxx k hk e
      · rw [hl] at e
        injection e with e
        have := (h1.kin.under hxx k hk).2
        omega
    · rw [if_neg hxx] at hk
      have h3 := h2.kin.under (j := j - va.length) (by omega) k hk
      rcases hl with hl | hl
      · rw [hl] at e; have := hS k e; omega
      · rw [hl] at e
        injection e with e
        omega
  obtain ⟨oa, oc, hform, l1, m1, k1⟩ := own_form h2.row
  injection hform with e1 _ e3
  subst e1 e3
  rcases Nat.eq_zero_or_pos vl.length with hz | hz
  · have hnil : vl = [] := List.eq_nil_of_length_eq_zero hz
    subst hnil
    rcases xa with _ | a2
    · refine Lib.wpList_append_run W hgd s x _ _ ho v _ hs hx v W (append_noneL 108 _ i0 Try.underlying108 hi _ _ _ _ h1.row) ?_
      exact fin v W (by rw [List.append_nil]; exact h1.row) (World.grownBy.refl _ _) (.inl rfl)
    · refine wpList_append_own_at W hgd s x 108 ho B 25 i0 (.slice none 0 0) 1 24 Try.underlying108 hi hz0 hz1 hz2 rfl (by decide) v _ _ hs h1.row a2 0 xc [] hx rfl (fun j u h => by simp at h) (fun u h => by simp at h) ?_ ?_ (by omega) ?_
      · unfold maxLen; omega
      · omega
      · intro v' w' hw hg _ hl
        exact fin v' w' hw hg hl
  · obtain ⟨b2, rfl, hb2, hk2⟩ := k1 hz
    refine wpList_append_own_at W hgd s x 108 ho B 25 i0 (.slice none 0 0) 1 24 Try.underlying108 hi hz0 hz1 hz2 rfl (by decide) v _ _ hs h1.row ⟨b2, 0, none⟩ vl.length xc vl hx (by simp) (lists_news h2) (kin_one h2.kin) ?_ ?_ (by omega) ?_
    · unfold maxLen; omega
    · omega
    · intro v' w' hw hg _ hl
      exact fin v' w' hw hg hl

/-! ### What the program chooses -/
def rowN (us l : List ByteArray) (k : Nat) : List (List ByteArray) := ((List.range k).filter (fun j => !(inTo l (strAt us j) l.length))).map (fun j => l ++ [strAt us j])
def nextTo (us : List ByteArray) (L : List (List ByteArray)) (i : Nat) : List (List ByteArray) := (List.range i).flatMap (fun a => rowN us (rowG L a) us.length)
def choB (us : List ByteArray) : Nat → List (List ByteArray)
  | 0 => [[]]
  | r + 1 => nextTo us (choB us r) (choB us r).length
def choA (us : List ByteArray) : Nat → List (List ByteArray)
  | 0 => [[]]
  | r + 1 => choA us r ++ choB us (r + 1)
theorem rowN_yes (us l : List ByteArray) {k : Nat} (h : inTo l (strAt us k) l.length = false) : rowN us l (k + 1) = rowN us l k ++ [l ++ [strAt us k]] := by
  unfold rowN
  rw [List.range_succ, List.filter_append, List.map_append, List.filter_cons_of_pos (by simp [h])]
  rfl
theorem rowN_no (us l : List ByteArray) {k : Nat} (h : inTo l (strAt us k) l.length = true) : rowN us l (k + 1) = rowN us l k := by
  unfold rowN
  rw [List.range_succ, List.filter_append, List.map_append, List.filter_cons_of_neg (by simp [h])]
  simp
theorem nextTo_snoc (us : List ByteArray) (L : List (List ByteArray)) (i : Nat) : nextTo us L (i + 1) = nextTo us L i ++ rowN us (rowG L i) us.length := by
  unfold nextTo
  rw [List.range_succ, List.flatMap_append]
  simp
theorem rowN_len (us l : List ByteArray) (k : Nat) : (rowN us l k).length ≤ k := by
  unfold rowN
  rw [List.length_map]
  exact Nat.le_trans (List.length_filter_le _ _) (by simp)
theorem nextTo_len (us : List ByteArray) (L : List (List ByteArray)) (i : Nat) : (nextTo us L i).length ≤ i * us.length := by
  induction i with
  | zero => simp [nextTo]
  | succ i ih =>
    rw [nextTo_snoc, List.length_append, Nat.succ_mul]
    have := rowN_len us (rowG L i) us.length
    omega
theorem choB_row (us : List ByteArray) (r : Nat) : ∀ l ∈ choB us r, l.length = r := by
  induction r with
  | zero => intro l hl; simp [choB] at hl; subst hl; rfl
  | succ r ih =>
    intro l hl
    simp only [choB, nextTo, List.mem_flatMap, List.mem_range, rowN, List.mem_map, List.mem_filter] at hl
    obtain ⟨a, ha, j, -, rfl⟩ := hl
    have : rowG (choB us r) a ∈ choB us r := by
      unfold rowG
      rw [List.getD_eq_getElem?_getD, List.getElem?_eq_getElem ha]
      exact List.getElem_mem _
    rw [List.length_append, ih _ this]
    rfl
theorem choB_len {us : List ByteArray} (hn : us.length ≤ 1000) : ∀ {r : Nat}, r < 2 → (choB us r).length ≤ 1000
  | 0, _ => by simp [choB]
  | 1, _ => by
    have := nextTo_len us (choB us 0) (choB us 0).length
    simp [choB] at this ⊢
    omega
theorem choA_len {us : List ByteArray} (hn : us.length ≤ 1000) : ∀ {r : Nat}, r < 2 → (choA us r).length ≤ 1001
  | 0, _ => by simp [choA]
  | 1, _ => by
    have := choB_len hn (r := 1) (by omega)
    simp [choA]
    omega
end Go.Proofs.Ytilagppmljpclaa

namespace Go.Proofs.Ytilagppmljpclaa
open Go.RowKit

theorem void_own (B : Nat) (w : World) : OwnS B w (.slice none 0 0) [] := ⟨rfl, .inl ⟨rfl, rfl⟩⟩
theorem concat2i {w : World} {H : Nat} {u1 u3 : Value} {xs ys : List ByteArray} (hH : w.heap.size = H) (h1 : Strs w u1 xs) (h3 : Strs w u3 ys) (hl : xs.length + ys.length ≤ 2000000) :
    Calls Try.prog 143 #[.slice (some ⟨H, 0, none⟩) 2 2] (w.alloc (.cells #[u1, u3] 25)) fun e w' =>
      ∃ a n c, e = .returned (.slice a n c) ∧ OwnS w.heap.size w' (.slice a n c) (xs ++ ys) ∧ Below w.heap.size w w' := by
  subst hH
  have q := Blk.made w 25 #[u1, u3]
  have b2 := (Below.refl w.heap.size w).alloc (Nat.le_refl _) (.cells #[u1, u3] 25)
  refine (concat_any (c := w.heap.size) [xs, ys] (w.alloc (.cells #[u1, u3] 25)) ?_ q.lt (by simp) (by simp; omega) rfl).mono ?_
  · intro k hk
    match k, hk with
    | 0, _ => exact ⟨u1, q.cells 0, h1.below b2⟩
    | 1, _ => exact ⟨u3, q.cells 1, h3.below b2⟩
    | k + 2, hk => exact absurd hk (by simp)
  · rintro e w' ⟨v, rfl, ho, hb⟩
    have h9 : [xs, ys].flatten = xs ++ ys := by simp
    rw [h9] at ho
    obtain ⟨a, c, rfl, -⟩ := own_form ho
    exact ⟨a, _, c, rfl, OwnS.lower ho (by simp), b2.trans (hb.mono (by simp))⟩

set_option maxRecDepth 100000 in
set_option maxHeartbeats 4000000 in
theorem choicesOf_any {v : Value} {us : List ByteArray} (w : World) (hu : Strs w v us) (hn : us.length ≤ 1000) :
    Calls Try.prog 137 #[v] w fun e w' => ∃ r vs, e = .returned r ∧ Lists w.heap.size w' r vs (choA us 2) ∧ Below w.heap.size w w' := by
  have HU := Shh.mk hu
  obtain ⟨a, cap, rfl, hl, hm, hc⟩ := hu
  have HC := Shh.mk hc
  clear hc
  have HB0 := Shh.mk ((Below.refl w.heap.size w).alloc (Nat.le_refl _) (.cells #[.slice none 0 0] 25))
  have H0 := Shh.mk (Lists.lit (B := w.heap.size) (X := w) (void_own w.heap.size w) (Nat.le_refl _))
  go_enter Try.func137, Try.ntmps137
  go_wp2
  go_loopw [3, 4, 12] (fun o l i wr => ∃ (r : Nat) (va vl : List Value), r ≤ 2 ∧ i = .int .i64 r ∧ Shh (Lists w.heap.size wr o va (choA us r)) ∧ Shh (Lists w.heap.size wr l vl (choB us r)) ∧ Shh (Below w.heap.size w wr)) (fun _ _ i _ => 2 - (intOf i).toNat)
  case atStart => exact ⟨0, _, _, by omega, rfl, H0, H0, HB0⟩
  case round =>
    obtain ⟨r, va, vl, hr, rfl, hA, hL, hB⟩ := hrel
    obtain ⟨hal, aa, ac, rfl, ha1, ha2, -⟩ := lists_own hA.out
    obtain ⟨hvl, la, lc, rfl, hl1, hl2, hl3⟩ := lists_own hL.out
    by_cases hlt : r < 2
    · obtain ⟨ws, hws⟩ : ∃ x, x = wr := ⟨_, rfl⟩
      subst hws
      have hal9 : va.length ≤ 1001 := by have := choA_len hn hlt; omega
      have hvl9 : vl.length ≤ 1000 := by have := choB_len hn hlt; omega
      have HRow := Shh.mk (fun k (hk : k < vl.length) => show (rowG (choB us r) k).length ≤ 2 by
        have : rowG (choB us r) k ∈ choB us r := by
          unfold rowG
          rw [List.getD_eq_getElem?_getD, List.getElem?_eq_getElem (by omega)]
          exact List.getElem_mem _
        rw [choB_row us r _ this]; omega)
      have HL3 := Shh.mk hl3
      have HLEN := Shh.mk hvl
      have HST := Shh.mk (show Shh (Lists ws.heap.size ws (.slice none 0 0) [] (nextTo us (choB us r) 0)) from ⟨by unfold nextTo; simpa using Lists.void _ _⟩)
      have HNX := Shh.mk (show nextTo us (choB us r) vl.length = choB us (r + 1) by rw [hvl]; rfl)
      have HBw := Shh.mk (Below.refl ws.heap.size ws)
      have hr2 : (r : Int) < 2 := by omega
      clear hal hvl hl3
      go_wp2
      go_loopw [5, 16] (fun o i wr => ∃ (k : Nat) (vs : List Value), k ≤ vl.length ∧ i = .int .i64 k ∧ Shh (Lists ws.heap.size wr o vs (nextTo us (choB us r) k)) ∧ Shh (Below ws.heap.size ws wr)) (fun _ i _ => vl.length - (intOf i).toNat)
      case atStart => exact ⟨0, _, Nat.zero_le _, rfl, HST.out, HBw⟩
      case round =>
        clear HST HBw
        obtain ⟨k, vs, hk, rfl, ho, hBk⟩ := hrel
        obtain ⟨-, oa, oc, rfl, hp1, hp2, -⟩ := lists_own ho.out
        by_cases hkl : k < vl.length
        · obtain ⟨g, rfl, hg1, hg2⟩ := HL3.out (by omega)
          have cu : wr.cell? ⟨g, k, none⟩ = some (usG vl k) := (hBk.out.cell (p := ⟨g, k, none⟩) hg2).trans (hL.out.cell hkl)
          have HO := Shh.mk (OwnS.strs (hL.out.kin.own k hkl))
          have hrk := HRow.out k hkl
          obtain ⟨l, hll⟩ : ∃ l, rowG (choB us r) k = l := ⟨_, rfl⟩
          rw [hll] at HO hrk
          obtain ⟨ua, uc, huv, -, -, -⟩ := own_form (hL.out.kin.own k hkl)
          rw [hll] at huv
          rw [huv] at cu HO
          have H2 := Shh.mk (show Shh (Lists ws.heap.size wr (.slice oa vs.length oc) vs (nextTo us (choB us r) k ++ rowN us l 0)) from ⟨by unfold rowN; simpa using ho.out⟩)
          have HT := Shh.mk (show nextTo us (choB us r) (k + 1) = nextTo us (choB us r) k ++ rowN us l us.length by rw [nextTo_snoc, hll])
          have HML := Shh.mk (show (nextTo us (choB us r) k).length ≤ 1000000 from Nat.le_trans (nextTo_len us _ k) (Nat.le_trans (Nat.mul_le_mul (show k ≤ 1000 by omega) hn) (by decide)))
          obtain ⟨M, hM⟩ : ∃ M, nextTo us (choB us r) k = M := ⟨_, rfl⟩
          rw [hM] at H2 HT HML
          have hkc : (k : Int) < (vl.length : Int) := by omega
          have hk0 : (0 : Int) ≤ (k : Int) := by omega
          clear ho hM hll huv
          go_wp2
          go_loopw [5, 22] (fun o i wr => ∃ (j : Nat) (vs : List Value), j ≤ us.length ∧ i = .int .i64 j ∧ Shh (Lists ws.heap.size wr o vs (M ++ rowN us l j)) ∧ Shh (Below ws.heap.size ws wr)) (fun _ i _ => us.length - (intOf i).toNat)
          case atStart => exact ⟨0, _, Nat.zero_le _, rfl, H2.out, hBk⟩
          case round =>
            clear hBk H2 cu
            obtain ⟨j, vs3, hj, rfl, ho, hBj⟩ := hrel
            obtain ⟨hv3, oa3, oc3, rfl, hq1, hq2, -⟩ := lists_own ho.out
            have hv9 : vs3.length ≤ 1100000 := by
              rw [List.length_append] at hv3
              have h1 := HML.out
              have h2 := rowN_len us l j
              omega
            clear hv3
            by_cases hlj : j < us.length
            · have hjc : (j : Int) < (us.length : Int) := by omega
              have hj0 : (0 : Int) ≤ (j : Int) := by omega
              obtain ⟨ba, ob, rfl, hba, hca⟩ := HC.out (by omega)
              have cj : wr.cell? ⟨ba, ob + j, none⟩ = some (.string (strAt us j)) := ((hB.out.trans (hBj.out.mono hB.out.size)).cell (p := ⟨ba, ob + j, none⟩) hba).trans (hca j hlj)
              obtain ⟨y, hy⟩ : ∃ y, strAt us j = y := ⟨_, rfl⟩
              obtain ⟨t, ht⟩ : ∃ t, inTo l y l.length = t := ⟨_, rfl⟩
              have HY := Shh.mk (fun (e : t = false) => show M ++ rowN us l (j + 1) = M ++ rowN us l j ++ [l ++ [y]] by rw [rowN_yes us l (by rw [hy, ht, e]), hy, List.append_assoc])
              have HN := Shh.mk (fun (e : t = true) => show M ++ rowN us l (j + 1) = M ++ rowN us l j by rw [rowN_no us l (by rw [hy, ht, e])])
              have HTT := Shh.mk ht
              rw [hy] at cj
              clear hca hy ht
              have hBs := hBj.out.size
              have HO3 := Shh.mk (HO.out.below hBj.out)
              go_wp2_with fail
              refine (containsS_any y _ HO3.out).mono ?_
              rw [HTT.out]
              rintro e w3 ⟨rfl, rfl⟩
              cases t with
              | true =>
                have HX := Shh.mk (HN.out rfl)
                clear HY HN HTT
                go_wp2
                go_roundw
                case rel => exact ⟨j + 1, _, by omega, by go_num, by rw [HX.out]; exact ho, hBj⟩
                case measure => simp [intOf]; omega
              | false =>
                have HX := Shh.mk (HY.out rfl)
                clear HY HN HTT
                go_wp2_with fail
                refine (concat2i (by simp) (HO3.out.alloc _) (OwnS.strs (lit_one wr y rfl (Nat.le_refl _))) (by simp; omega)).mono ?_
                rintro e w4 ⟨ra, rn, rc, rfl, ho4, hb4⟩
                have hb4' := Shh.mk (((Below.refl wr.heap.size wr).alloc (Nat.le_refl _) (.cells #[.string y] 9)).trans (hb4.mono (by simp)))
                have hs4 := hb4'.out.size
                have hH4 : (wr.alloc (.cells #[.string y] 9)).heap.size = wr.heap.size + 1 := by simp
                rw [hH4] at ho4
                have HO4 := Shh.mk ho4
                clear ho4 hb4 hH4
                go_wp2_with (at_builtin; go_loud (refine wpList_append_list (W0 := wr) rfl _ _ rfl _ _ vs3 _ (l ++ [y]) rfl rfl (by first | rfl | simp) rfl ho.out (by omega) (by omega) hb4'.out (OwnS.lower HO4.out (by omega)) (fun j hj => by have := OwnS.block HO4.out j hj; omega) ?_; intro g5 c5 w5 ho5 hk5))
                have HB5 := Shh.mk (lists_below hBj.out ho.out hk5 ho5)
                rw [← HX.out] at ho5
                have HO5 := Shh.mk ho5
                clear ho5 hk5
                go_wp2
                go_roundw
                case rel => exact ⟨j + 1, _, by omega, by go_num, HO5, HB5⟩
                case measure => simp [intOf]; omega
            · obtain rfl : j = us.length := by omega
              have HO9 := Shh.mk (show Shh (Lists ws.heap.size wr (.slice oa3 vs3.length oc3) vs3 (nextTo us (choB us r) (k + 1))) from ⟨by rw [HT.out]; exact ho.out⟩)
              clear ho
              go_wp2
              go_roundw
              case rel => exact ⟨k + 1, _, by omega, by go_num, HO9.out, hBj⟩
              case measure => simp [intOf]; omega
        · obtain rfl : k = vl.length := by omega
          have ho9 := ho.out
          rw [HNX.out] at ho9
          obtain ⟨hv9, -⟩ := lists_own ho9
          have hz9 : vs.length ≤ 1000000 := by
            rw [hv9, ← HNX.out]
            exact Nat.le_trans (nextTo_len us _ _) (Nat.le_trans (Nat.mul_le_mul hvl9 hn) (by decide))
          have HA9 := Shh.mk (hA.out.quiet hBk.out)
          have hsz := hB.out.size
          have hsk := hBk.out.size
          have HO9 := Shh.mk ho9
          clear ho ho9 hv9
          go_wp2_with (at_builtin; go_loud (refine wpList_append_all (S := ws.heap.size) rfl _ _ rfl rfl rfl HA9.out HO9.out (by omega) (fun b hb => (hA.out.under b hb).2) (fun j hj b hb => (hA.out.kin.under hj b hb).2) (by omega) (by omega) ?_; intro xa6 c6 w6 ho6 hl6 hk6))
          have HB6 := Shh.mk ((hB.out.trans (hBk.out.mono hsz)).trans (hk6.below (B := w.heap.size) (fun i hi e => by have := (hA.out.under i e).1; omega) (by omega)))
          have HO6 := Shh.mk (show Lists w.heap.size w6 (.slice xa6 (va.length + vs.length) c6) (va ++ vs) (choA us (r + 1)) from ho6)
          have HL6 := Shh.mk (hl6.lower hsz)
          clear ho6 hl6 hk6
          go_wp2
          go_roundw
          case rel => exact ⟨r + 1, _, _, by omega, by go_num, HO6, HL6, HB6⟩
          case measure => simp [intOf]; omega
    · obtain rfl : r = 2 := by omega
      go_wp2
      go_ret
      exact ⟨_, _, rfl, hA.out, hB.out⟩
end Go.Proofs.Ytilagppmljpclaa

namespace Go.Proofs.Ytilagppmljpclaa
open Go.RowKit

theorem info_der : (Try.prog.info? 50).map (fun i => (i.zero, i.size, i.bytes)) = some (some (.agg #[.string ByteArray.empty, .slice none 0 0]), 2, 40) := by kernel_rfl
theorem own_apartN {B n size : Nat} {e : TypeId} {w w' : World} {v : Value} {xs : List Value} {S : Nat → Prop} (h : w.ownsRow B e size v n xs) (hk : Apart S w w') (hv : ∀ k, v.ownBlock = some k → ¬ S k) : w'.ownsRow B e size v n xs := by
  refine ⟨h.1, ?_⟩
  rcases h.2 with h | ⟨g', cap, cur, rfl, hg1, hg, r⟩
  · exact .inl h
  · exact .inr ⟨g', cap, cur, rfl, hg1, (hk.block g' (Array.getElem?_eq_some_iff.1 hg).1 (hv g' rfl)).trans hg, r⟩
theorem own_formN {B n size : Nat} {e : TypeId} {w : World} {v : Value} {xs : List Value} (h : w.ownsRow B e size v n xs) :
    ∃ (a : Option Addr) (cap : Nat), v = .slice a n cap ∧ n ≤ cap ∧ cap ≤ maxLen ∧ (0 < n → ∃ g, a = some ⟨g, 0, none⟩ ∧ B ≤ g ∧ g < w.heap.size) := by
  rcases h.2 with ⟨rfl, rfl⟩ | ⟨g, cap, cur, rfl, hB, hg, hn, hm, _⟩
  · exact ⟨none, 0, rfl, Nat.le_refl _, Nat.zero_le _, fun h => absurd h (by omega)⟩
  · exact ⟨_, cap, rfl, hn, hm, fun _ => ⟨g, rfl, hB, (Array.getElem?_eq_some_iff.1 hg).1⟩⟩
def cellsD (us : List Value) (ds : List Stm) : List Value := (List.range us.length).flatMap (fun j => [.string (stmG ds j).word, usG us j])
theorem stmG_snoc (ds : List Stm) (d : Stm) (j : Nat) (h : j ≤ ds.length) : stmG (ds ++ [d]) j = if j = ds.length then d else stmG ds j := by
  unfold stmG
  rw [List.getD_eq_getElem?_getD, List.getD_eq_getElem?_getD]
  split
  · subst_vars; rw [List.getElem?_append_right (Nat.le_refl _)]; simp
  · rw [List.getElem?_append_left (by omega)]
theorem flatMap_same {α : Type} {f g : Nat → List α} : ∀ {n : Nat}, (∀ j, j < n → f j = g j) → (List.range n).flatMap f = (List.range n).flatMap g
  | 0, _ => rfl
  | n + 1, h => by rw [List.range_succ, List.flatMap_append, List.flatMap_append, flatMap_same (n := n) (fun j hj => h j (by omega))]; simp [h n (by omega)]
theorem cellsD_snoc (us : List Value) (ds : List Stm) (u : Value) (d : Stm) (h : us.length = ds.length) : cellsD (us ++ [u]) (ds ++ [d]) = cellsD us ds ++ [.string d.word, u] := by
  unfold cellsD
  rw [List.length_append, List.length_singleton, List.range_succ, List.flatMap_append]
  congr 1
  · refine flatMap_same fun j hj => ?_
    rw [stmG_snoc _ _ _ (by omega), usG_snoc _ _ _ (by omega), if_neg (by omega), if_neg (by omega)]
  · simp only [List.flatMap_cons, List.flatMap_nil, List.append_nil]
    rw [stmG_snoc _ _ _ (by omega), usG_snoc _ _ _ (by omega), if_pos h, if_pos rfl]
theorem flatMap_two {α : Type} {f : Nat → List α} (hf : ∀ j, (f j).length = 2) : ∀ {n j : Nat}, j < n → ((List.range n).flatMap f)[j * 2]? = (f j)[0]? ∧ ((List.range n).flatMap f)[j * 2 + 1]? = (f j)[1]? := by
  have hl : ∀ n, ((List.range n).flatMap f).length = n * 2 := by
    intro n
    induction n with
    | zero => rfl
    | succ n ih => rw [List.range_succ, List.flatMap_append, List.length_append, ih]; simp [hf]; omega
  intro n
  induction n with
  | zero => intro j h; omega
  | succ n ih =>
    intro j hj
    rw [List.range_succ, List.flatMap_append]
    by_cases h : j < n
    · rw [List.getElem?_append_left (by rw [hl]; omega), List.getElem?_append_left (by rw [hl]; omega)]
      exact ih h
    · obtain rfl : j = n := by omega
      rw [List.getElem?_append_right (by rw [hl]; omega), List.getElem?_append_right (by rw [hl]; omega), hl]
      have e1 : j * 2 - j * 2 = 0 := by omega
      have e2 : j * 2 + 1 - j * 2 = 1 := by omega
      rw [e1, e2]
      simp
/-- A row of derivations of the call's own. -/
structure Ders (B : Nat) (w : World) (v : Value) (us : List Value) (ds : List Stm) : Prop where
  row : w.ownsRow B 50 2 v us.length (cellsD us ds)
  kin : Kin B w us (ds.map Stm.uses)
  off : ∀ j, j < us.length → ∀ k, (usG us j).ownBlock = some k → v.ownBlock ≠ some k
theorem Ders.len {B : Nat} {w : World} {v : Value} {us : List Value} {ds : List Stm} (h : Ders B w v us ds) : us.length = ds.length := by have := h.kin.len; rwa [List.length_map] at this
theorem Ders.under {B : Nat} {w : World} {v : Value} {us : List Value} {ds : List Stm} (h : Ders B w v us ds) : ∀ k, v.ownBlock = some k → B ≤ k ∧ k < w.heap.size := fun k hk => World.ownsRow.lt h.row k hk
theorem Ders.apart {B : Nat} {w w' : World} {v : Value} {us : List Value} {ds : List Stm} {S : Nat → Prop} (h : Ders B w v us ds) (hk : Apart S w w') (hv : ∀ k, v.ownBlock = some k → ¬ S k) (hu : ∀ j, j < us.length → ∀ k, (usG us j).ownBlock = some k → ¬ S k) : Ders B w' v us ds :=
  ⟨own_apartN h.row hk hv, h.kin.apart hk hu, h.off⟩
theorem Ders.quiet {B : Nat} {w w' : World} {v : Value} {us : List Value} {ds : List Stm} (h : Ders B w v us ds) (hb : Below w.heap.size w w') : Ders B w' v us ds :=
  h.apart (Apart.of_below (S := fun _ => False) hb) (fun _ _ e => e) (fun _ _ _ _ e => e)
theorem Ders.void (B : Nat) (w : World) : Ders B w (.slice none 0 0) [] [] := ⟨⟨rfl, .inl ⟨rfl, rfl⟩⟩, Kin.nil B w, fun j h => absurd h (by simp)⟩
theorem Ders.lit0 {B : Nat} (X : World) (hB : B ≤ X.heap.size) : Ders B (X.alloc (.cells #[] 50)) (.slice (some ⟨X.heap.size, 0, none⟩) 0 0) [] [] :=
  ⟨World.ownsRow_lit (size := 2) X #[] 0 hB (by unfold maxLen; omega) rfl, Kin.nil B _, fun j h => absurd h (by simp)⟩
theorem Ders.cell {B g n cap : Nat} {w : World} {us : List Value} {ds : List Stm} (h : Ders B w (.slice (some ⟨g, 0, none⟩) n cap) us ds) {k : Nat} (hk : k < us.length) : w.cell? ⟨g, k * 2, none⟩ = some (.string (stmG ds k).word) ∧ w.cell? ⟨g, k * 2 + 1, none⟩ = some (usG us k) := by
  obtain ⟨a, cap', hv, -⟩ := own_formN h.row
  injection hv with h1 h2 h3
  subst h2
  have h4 := flatMap_two (f := fun j => [Value.string (stmG ds j).word, usG us j]) (fun _ => rfl) hk
  exact ⟨(World.ownsRow.cellAt h.row (k * 2) (by omega)).trans h4.1, (World.ownsRow.cellAt h.row (k * 2 + 1) (by omega)).trans h4.2⟩
theorem Ders.stms {B : Nat} {w : World} {v : Value} {us : List Value} {ds : List Stm} (h : Ders B w v us ds) : Stms w v ds := by
  obtain ⟨a, cap, rfl, h1, h2, h3⟩ := own_formN h.row
  have hl := h.len
  rw [hl] at h1 h3 ⊢
  refine ⟨a, cap, rfl, h1, h2, fun hp => ?_⟩
  obtain ⟨g, rfl, _, hlt⟩ := h3 hp
  refine ⟨g, 0, rfl, hlt, fun j hj => ?_⟩
  obtain ⟨c0, c1⟩ := h.cell (k := j) (by omega)
  refine ⟨by rw [Nat.zero_add]; exact c0, _, by rw [Nat.zero_add]; exact c1, ?_⟩
  have h5 := OwnS.strs (h.kin.own j (by omega))
  have e : rowG (ds.map Stm.uses) j = (stmG ds j).uses := by
    unfold rowG stmG
    rw [List.getD_eq_getElem?_getD, List.getD_eq_getElem?_getD, List.getElem?_map, List.getElem?_eq_getElem hj]
    rfl
  rw [e] at h5
  exact h5
theorem cell_two_new (w : World) (x y : Value) (t : TypeId) : ∀ j u, [x, y][j]? = some u → (w.alloc (.cells #[x, y] t)).cell? ((⟨w.heap.size, 0, none⟩ : Addr).add j) = some u := by
  intro j u hj
  have q := (Blk.made w t #[x, y]).cells
  match j, hj with
  | 0, hj => simp at hj; subst hj; exact q 0
  | 1, hj => simp at hj; subst hj; exact q 1
  | j + 2, hj => simp at hj
/-- One derivation more: what it comes to. The row of names need not be new: it lies in none of the others' blocks. -/
theorem Ders.append {B g n cap : Nat} {w1 w' : World} {v u : Value} {us : List Value} {ds : List Stm} {d : Stm} (h : Ders B w1 v us ds) (hu : OwnS B w1 u d.uses) (hf : ∀ k, u.ownBlock = some k → v.ownBlock ≠ some k ∧ ∀ j, j < us.length → (usG us j).ownBlock ≠ some k)
    (ho : w'.ownsRow B 50 2 (.slice (some ⟨g, 0, none⟩) n cap) (us.length + 1) (cellsD us ds ++ [.string d.word, u])) (hk : Apart (fun b => v.ownBlock = some b) w1 w') (hl : v.ownBlock = some g ∨ w1.heap.size ≤ g) : Ders B w' (.slice (some ⟨g, 0, none⟩) n cap) (us ++ [u]) (ds ++ [d]) := by
  have hlen := h.len
  have hu' : OwnS B w' u d.uses := hu.apartI hk fun k hk e => (hf k hk).1 e
  have hkin : Kin B w' us (ds.map Stm.uses) := h.kin.apart hk fun j hj k hk e => h.off j hj k hk e
  refine ⟨?_, ?_, fun j hj k hk e => ?_⟩
  · rw [List.length_append, List.length_singleton, cellsD_snoc _ _ _ _ hlen]; exact ho
  · rw [List.map_append]
    refine ⟨by simp [hlen], fun j hj => ?_, fun i j hi hj hij k hk => ?_⟩
    · rw [List.length_append, List.length_singleton] at hj
      rw [usG_snoc _ _ _ (by omega)]
      show OwnS B w' _ (rowG (ds.map Stm.uses ++ [d.uses]) j)
      rw [rowG_snoc _ _ _ (by rw [List.length_map]; omega), List.length_map, ← hlen]
      by_cases hx : j = us.length
      · rw [if_pos hx, if_pos hx]; exact hu'
      · rw [if_neg hx, if_neg hx]; exact hkin.own j (by omega)
    · rw [List.length_append, List.length_singleton] at hi hj
      rw [usG_snoc _ _ _ (by omega)] at hk ⊢
      by_cases hx : i = us.length
      · rw [if_pos hx] at hk
        rw [if_neg (by omega)]
        exact (hf k hk).2 j (by omega)
      · rw [if_neg hx] at hk
        by_cases hy : j = us.length
        · rw [if_pos hy]
          exact fun e => (hf k e).2 i (by omega) hk
        · rw [if_neg hy]
          exact h.kin.two i j (by omega) (by omega) hij k hk
  · rw [List.length_append, List.length_singleton] at hj
    rw [usG_snoc _ _ _ (by omega)] at hk
    simp [Value.ownBlock] at e
    subst e
    by_cases hx : j = us.length
    · rw [if_pos hx] at hk
      rcases hl with hl | hl
      · exact (hf _ hk).1 hl
      · have := (World.ownsRow.lt hu _ hk).2; omega
    · rw [if_neg hx] at hk
      rcases hl with hl | hl
      · exact h.off j (by omega) _ hk hl
      · have := (h.kin.under (j := j) (by omega) _ hk).2; omega
/-- The append of one derivation, at the operation. -/
theorem wpList_append_der {ops : Array Oper} {rest : List Oper} {o : Oper} {a : Act} {Q : Exit → Act → World → Prop} {B H : Nat} {W : World} (hgd : o.guard = none) (s x : Operand)
    (ho : o.op = .call { callee := .builtin .append, args := #[s, x], argTypes := #[55, 55] })
    (v u : Value) (us : List Value) (ds : List Stm) (d : Stm) (hs : a.eval s = v) (hx : a.eval x = .slice (some ⟨H, 0, none⟩) 1 1) (hH : W.heap.size = H) (hu1 : u.oneCell' = true)
    (hown : Ders B W v us ds) (hlen : us.length ≤ 1100000) (hB : B ≤ W.heap.size) (hu : OwnS B W u d.uses) (hf : ∀ k, u.ownBlock = some k → v.ownBlock ≠ some k ∧ ∀ j, j < us.length → (usG us j).ownBlock ≠ some k)
    (h : ∀ g cap w', Ders B w' (.slice (some ⟨g, 0, none⟩) (us.length + 1) cap) (us ++ [u]) (ds ++ [d]) → Apart (fun b => v.ownBlock = some b) W w' → (v.ownBlock = some g ∨ W.heap.size ≤ g) → wpList Try.prog ops Q rest (a.put o.dst (.slice (some ⟨g, 0, none⟩) (us.length + 1) cap)) w') :
    wpList Try.prog ops Q (o :: rest) a (W.alloc (.cells #[.string d.word, u] 50)) := by
  obtain ⟨i0, hi, hz0, hz1, hz2⟩ := info_parts info_der
  subst hH
  refine wpList_append_lies _ hgd s x 55 ho B 50 i0 (.agg #[.string ByteArray.empty, .slice none 0 0]) 2 40 Try.underlying55 hi hz0 hz1 hz2 rfl (by decide) v us.length (cellsD us ds) hs (World.ownsRow.alloc hown.row _) ⟨W.heap.size, 0, none⟩ 1 1 [.string d.word, u] hx rfl ?_ ?_ (by decide) ?_ ?_ ?_ _ rfl ?_
  · exact cell_two_new _ _ _ _
  · intro y hy; simp at hy; rcases hy with h9 | h9 <;> rw [h9] <;> first | exact hu1 | rfl
  · simp [maxLen]; omega
  · omega
  · simp; omega
  · intro g cap w' ho' hg hl _
    have hap : Apart (fun b => v.ownBlock = some b) W w' := apart_grownI hg
    have hl' : v.ownBlock = some g ∨ W.heap.size ≤ g := hl.imp id fun e => by rw [e]; simp
    exact h g cap w' (hown.append hu hf ho' hap hl') hap hl'
/-- The same in a region that draws. -/
theorem step_append_der {ops : Array Oper} {o : Oper} {a : Act} {K : Act → World → Prop} {Q : Exit → Act → World → Prop} {E : Prop} {B H : Nat} {W0 W : World} (hgd : o.guard = none) (s x : Operand)
    (ho : o.op = .call { callee := .builtin .append, args := #[s, x], argTypes := #[55, 55] })
    (v u : Value) (us : List Value) (ds : List Stm) (d : Stm) (hs : a.eval s = v) (hx : a.eval x = .slice (some ⟨H, 0, none⟩) 1 1) (hH : W.heap.size = H) (hu1 : u.oneCell' = true)
    (hown : Ders B W0 v us ds) (hb : Below W0.heap.size W0 W) (hlen : us.length ≤ 1100000) (hB : B ≤ W0.heap.size) (hu : OwnS B W0 u d.uses) (hf : ∀ k, u.ownBlock = some k → v.ownBlock ≠ some k ∧ ∀ j, j < us.length → (usG us j).ownBlock ≠ some k)
    (h : ∀ g cap w', Ders B w' (.slice (some ⟨g, 0, none⟩) (us.length + 1) cap) (us ++ [u]) (ds ++ [d]) → Apart (fun b => v.ownBlock = some b) W0 w' → (v.ownBlock = some g ∨ W0.heap.size ≤ g) → K (a.put o.dst (.slice (some ⟨g, 0, none⟩) (us.length + 1) cap)) w') :
    if Region.wanted o (yielded ops a.tmps) = true then Oper.wp Try.prog o a (W.alloc (.cells #[.string d.word, u] 50)) K Q else E := by
  obtain ⟨i0, hi, hz0, hz1, hz2⟩ := info_parts info_der
  subst hH
  have hbs := hb.size
  refine step_append_lies _ hgd s x 55 ho B 50 i0 (.agg #[.string ByteArray.empty, .slice none 0 0]) 2 40 Try.underlying55 hi hz0 hz1 hz2 rfl (by decide) v us.length (cellsD us ds) hs (World.ownsRow.alloc (hown.quiet hb).row _) ⟨W.heap.size, 0, none⟩ 1 1 [.string d.word, u] hx rfl ?_ ?_ (by decide) ?_ ?_ ?_ _ rfl ?_
  · exact cell_two_new _ _ _ _
  · intro y hy; simp at hy; rcases hy with h9 | h9 <;> rw [h9] <;> first | exact hu1 | rfl
  · simp [maxLen]; omega
  · omega
  · simp; omega
  · intro g cap w' ho' hg hl _
    have hap : Apart (fun b => v.ownBlock = some b) W0 w' := (Apart.of_below (S := fun b => v.ownBlock = some b) hb).trans (apart_grownI hg) fun _ _ e => e
    have hl' : v.ownBlock = some g ∨ W0.heap.size ≤ g := hl.imp id fun e => by rw [e]; simp; omega
    exact h g cap w' (hown.append hu hf ho' hap hl') hap hl'
theorem step_append_derD {ops : Array Oper} {o : Oper} {a : Act} {K : Act → World → Prop} {Q : Exit → Act → World → Prop} {E : Prop} {B H : Nat} {W0 W : World} (hgd : o.guard = none) (s x : Operand)
    (ho : o.op = .call { callee := .builtin .append, args := #[s, x], argTypes := #[55, 55] })
    (v u : Value) (us : List Value) (ds : List Stm) (d : Stm) (hs : a.eval s = v) (hx : a.eval x = .slice (some ⟨H, 0, none⟩) 1 1) (hH : W.heap.size = H) (hu1 : u.oneCell' = true)
    (hown : Ders B W0 v us ds) (hb : Below W0.heap.size W0 W) (hlen : us.length ≤ 1100000) (hB : B ≤ W0.heap.size) (hu : OwnS B W0 u d.uses) (hf : ∀ k, u.ownBlock = some k → v.ownBlock ≠ some k ∧ ∀ j, j < us.length → (usG us j).ownBlock ≠ some k)
    (h : ∀ g cap w', Ders B w' (.slice (some ⟨g, 0, none⟩) (us.length + 1) cap) (us ++ [u]) (ds ++ [d]) → Apart (fun b => v.ownBlock = some b) W0 w' → (v.ownBlock = some g ∨ W0.heap.size ≤ g) → K (a.put o.dst (.slice (some ⟨g, 0, none⟩) (us.length + 1) cap)) w') :
    if Region.wanted o (yielded ops a.tmps) = true then Oper.wp Try.prog o a (W.alloc (.cells #[.string d.word, u] 50)).drew K Q else E := by
  obtain ⟨i0, hi, hz0, hz1, hz2⟩ := info_parts info_der
  subst hH
  have hbs := hb.size
  have hb1 := (below_alI hb (.cells #[.string d.word, u] 50)).drew
  refine step_append_lies _ hgd s x 55 ho B 50 i0 (.agg #[.string ByteArray.empty, .slice none 0 0]) 2 40 Try.underlying55 hi hz0 hz1 hz2 rfl (by decide) v us.length (cellsD us ds) hs (hown.quiet hb1).row ⟨W.heap.size, 0, none⟩ 1 1 [.string d.word, u] hx rfl ?_ ?_ (by decide) ?_ ?_ ?_ _ rfl ?_
  · exact cell_two_new _ _ _ _
  · intro y hy; simp at hy; rcases hy with h9 | h9 <;> rw [h9] <;> first | exact hu1 | rfl
  · simp [maxLen]; omega
  · omega
  · simp [World.drew]; omega
  · intro g cap w' ho' hg hl _
    have hap : Apart (fun b => v.ownBlock = some b) W0 w' := (Apart.of_below (S := fun b => v.ownBlock = some b) hb1).trans ((Apart.refl _ _).grown hg (fun _ hk _ => hk) : Apart (fun b => v.ownBlock = some b) _ w') fun _ _ e => e
    have hl' : v.ownBlock = some g ∨ W0.heap.size ≤ g := hl.imp id fun e => by rw [e]; simp [World.drew]; omega
    exact h g cap w' (hown.append hu hf ho' hap hl') hap hl'
end Go.Proofs.Ytilagppmljpclaa

namespace Go.Proofs.Ytilagppmljpclaa
open Go.RowKit

theorem pigeon : ∀ (m n : Nat) (f : Nat → Nat), (∀ i, i < n → f i < m) → (∀ i j, i < n → j < n → f i = f j → i = j) → n ≤ m
  | 0, n, f, h, _ => by
    rcases Nat.eq_zero_or_pos n with h0 | h0
    · omega
    · have := h 0 h0; omega
  | m + 1, n, f, h, hi => by
    rcases Nat.eq_zero_or_pos n with h0 | h0
    · omega
    · have := pigeon m (n - 1) (fun i => if f i < f (n - 1) then f i else f i - 1) (fun i hin => by
        have h1 := h i (by omega)
        have h2 := h (n - 1) (by omega)
        have h3 : f i ≠ f (n - 1) := fun e => by have := hi i (n - 1) (by omega) (by omega) e; omega
        split <;> omega) (fun i j hin hjn e => by
        have h3 : f i ≠ f (n - 1) := fun e => by have := hi i (n - 1) (by omega) (by omega) e; omega
        have h4 : f j ≠ f (n - 1) := fun e => by have := hi j (n - 1) (by omega) (by omega) e; omega
        refine hi i j (by omega) (by omega) ?_
        split at e <;> split at e <;> omega)
      omega
theorem rise_lt {us : List ByteArray} (h : Rise us) {i j : Nat} (hij : i < j) (hj : j < us.length) : upS (strAt us i) (strAt us j) = true := h i j hij hj
theorem rise_ne {us : List ByteArray} (h : Rise us) {i j : Nat} (hi : i < us.length) (hj : j < us.length) (hne : i ≠ j) : ¬ strAt us i = strAt us j := by
  rcases Nat.lt_or_ge i j with h1 | h1
  · exact upS_ne (rise_lt h h1 hj)
  · exact fun e => upS_ne (rise_lt h (show j < i by omega) hi) e.symm
theorem okG_rise {xs : List Aff} {ss : List Stm} {j : Nat} (h : okG xs ss = true) (hj : j < ss.length) : Rise (stmG ss j).uses := by
  have h1 := (okG_split h).2 j hj
  unfold okSt stemB at h1
  simp only [Bool.and_eq_true] at h1
  refine rise_of fun i hi => ?_
  have h2 := allTo_at h1.1.1 hi
  unfold useB at h2
  rw [Bool.and_eq_true, Bool.or_eq_true, Nat.add_sub_cancel] at h2
  rcases h2.2 with h3 | h3
  · have := of_decide_eq_true h3; omega
  · exact h3
theorem okG_small {xs : List Aff} {ss : List Stm} (h : okG xs ss = true) : xs.length ≤ 12 ∧ ss.length ≤ 30 := by
  rcases Nat.lt_or_ge 12 xs.length with h1 | h1
  · rw [okG_len (fun e => by omega)] at h; cases h
  · rcases Nat.lt_or_ge 30 ss.length with h2 | h2
    · rw [okG_len (fun e => by omega)] at h; cases h
    · exact ⟨h1, h2⟩
theorem okG_uses {xs : List Aff} {ss : List Stm} {j : Nat} (h : okG xs ss = true) (hj : j < ss.length) : (stmG ss j).uses.length ≤ 12 := by
  have hr := okG_rise h hj
  have hk := (okG_stem h hj).2
  have hn := (names_of h).1
  have h1 : ∀ i, i < (stmG ss j).uses.length → idxOf xs (strAt (stmG ss j).uses i) < xs.length ∧ (affG xs (idxOf xs (strAt (stmG ss j).uses i))).n = strAt (stmG ss j).uses i := fun i hi => by
    obtain ⟨k, h1, h2, h3⟩ := known_idx hn (hk i hi)
    rw [h3]
    exact ⟨h1, h2⟩
  refine Nat.le_trans (pigeon xs.length _ (fun i => idxOf xs (strAt (stmG ss j).uses i)) (fun i hi => (h1 i hi).1) (fun a b ha hb e => ?_)) (okG_small h).1
  have h2 := (h1 a ha).2
  have h3 := (h1 b hb).2
  rw [e] at h2
  rcases Nat.decEq a b with hne | he
  · exact absurd (h2.symm.trans h3) (rise_ne hr ha hb hne)
  · exact he
theorem rowN_nil (us : List ByteArray) (k : Nat) : rowN us [] k = (List.range k).map (fun j => [strAt us j]) := by
  have e : (List.range k).filter (fun j => !(inTo [] (strAt us j) ([] : List ByteArray).length)) = List.range k := List.filter_eq_self.2 (fun j _ => rfl)
  unfold rowN
  rw [e]
  rfl
theorem rowN_one {us : List ByteArray} (h : Rise us) {i : Nat} (hi : i < us.length) : ∀ k, k ≤ us.length → rowN us [strAt us i] k = twoRow us i k
  | 0, _ => rfl
  | k + 1, hk => by
    have ih := rowN_one h hi k (by omega)
    by_cases hx : i = k
    · subst hx
      rw [twoRow_no, ← ih]
      refine rowN_no _ _ ?_
      show (false || ((strAt us i).toList == (strAt us i).toList)) = true
      simp
    · rw [twoRow_yes us hx, ← ih]
      refine rowN_yes _ _ ?_
      have h1 := rise_ne h hi (show k < us.length by omega) hx
      show (false || ((strAt [strAt us i] 0).toList == (strAt us k).toList)) = false
      show (false || ((strAt us i).toList == (strAt us k).toList)) = false
      rw [Bool.false_or]
      rcases hb : ((strAt us i).toList == (strAt us k).toList) with _ | _
      · rfl
      · exact absurd (bytes_same hb) h1
theorem rowG_ones (us : List ByteArray) {i : Nat} (h : i < us.length) : rowG ((List.range us.length).map (fun j => [strAt us j])) i = [strAt us i] := by
  unfold rowG
  rw [List.getD_eq_getElem?_getD, List.getElem?_map, List.getElem?_range h]
  rfl
/-- Of rising names the program chooses the lists that the model has. -/
theorem choA_ways {us : List ByteArray} (h : Rise us) : choA us 2 = waysU us := by
  have h1 : choB us 1 = (List.range us.length).map (fun j => [strAt us j]) := by
    show nextTo us [[]] 1 = _
    rw [nextTo_snoc]
    show [] ++ rowN us [] us.length = _
    rw [rowN_nil]
    rfl
  have h2 : ∀ i, i ≤ us.length → nextTo us ((List.range us.length).map (fun j => [strAt us j])) i = twoTo us i := by
    intro i hi
    induction i with
    | zero => rfl
    | succ i ih => rw [nextTo_snoc, twoTo_snoc, ih (by omega), rowG_ones us (by omega), rowN_one h (by omega) _ (Nat.le_refl _)]
  show (choA us 0 ++ choB us 1) ++ nextTo us (choB us 1) (choB us 1).length = _
  rw [h1]
  have h3 : ((List.range us.length).map (fun j => [strAt us j])).length = us.length := by simp
  rw [h3, h2 _ (Nat.le_refl _)]
  rfl
theorem strAt_memG {us : List ByteArray} {i : Nat} (h : i < us.length) : strAt us i ∈ us := strAt_mem h
theorem waysU_row {us l : List ByteArray} (h : l ∈ waysU us) : l.length ≤ 2 ∧ ∀ u ∈ l, ∃ i, i < us.length ∧ u = strAt us i := by
  unfold waysU oneTo twoTo twoRow at h
  simp only [List.mem_append, List.mem_cons, List.mem_map, List.mem_range, List.mem_flatMap, List.mem_filter] at h
  rcases h with (rfl | ⟨j, hj, rfl⟩) | ⟨a, ha, j, ⟨hj, -⟩, rfl⟩
  · exact ⟨by simp, fun u hu => by simp at hu⟩
  · exact ⟨by simp, fun u hu => ⟨j, hj, by simpa using hu⟩⟩
  · refine ⟨by simp, fun u hu => ?_⟩
    simp at hu
    rcases hu with hu | hu
    · exact ⟨a, ha, hu⟩
    · exact ⟨j, hj, hu⟩
theorem waysU_len {us : List ByteArray} (h : us.length ≤ 12) : (waysU us).length ≤ 200 := by
  unfold waysU
  rw [List.length_append, oneTo_len]
  have h1 := twoTo_len us us.length
  have h2 : us.length * us.length ≤ 12 * 12 := Nat.mul_le_mul h h
  omega

/-! ### Derivations of a grammar -/
def mkD (w : ByteArray) (l : List ByteArray) : Stm := ⟨w, l⟩
def hitB (xs : List Aff) (word : ByteArray) (d : Stm) : Bool := decide ((wordX xs d.uses d.word).2 = 0) && ((wordX xs d.uses d.word).1.toList == word.toList)
def stemD (ss : List Stm) (i k : Nat) : List Stm := ((waysU (stmG ss i).uses).take k).map (mkD (stmG ss i).word)
def dersTo (ss : List Stm) (i : Nat) : List Stm := (List.range i).flatMap (fun j => stemD ss j (waysU (stmG ss j).uses).length)
theorem dersTo_snoc (ss : List Stm) (i : Nat) : dersTo ss (i + 1) = dersTo ss i ++ stemD ss i (waysU (stmG ss i).uses).length := by
  unfold dersTo
  rw [List.range_succ, List.flatMap_append]
  simp
theorem stemD_snoc (ss : List Stm) {i k : Nat} (h : k < (waysU (stmG ss i).uses).length) : stemD ss i (k + 1) = stemD ss i k ++ [mkD (stmG ss i).word (rowG (waysU (stmG ss i).uses) k)] := by
  unfold stemD
  rw [List.take_succ_eq_append_getElem h, List.map_append]
  unfold rowG
  rw [List.getD_eq_getElem?_getD, List.getElem?_eq_getElem h]
  rfl
theorem stemD_len (ss : List Stm) (i k : Nat) : (stemD ss i k).length ≤ k := by unfold stemD; simp; omega
theorem dersTo_len {xs : List Aff} {ss : List Stm} (h : okG xs ss = true) : ∀ {i : Nat}, i ≤ ss.length → (dersTo ss i).length ≤ i * 200
  | 0, _ => by simp [dersTo]
  | i + 1, hi => by
    rw [dersTo_snoc, List.length_append]
    have h1 := dersTo_len h (i := i) (by omega)
    have h2 := stemD_len ss i (waysU (stmG ss i).uses).length
    have h3 := waysU_len (okG_uses h (j := i) (by omega))
    omega
def derOut (xs : List Aff) (ss : List Stm) (word : ByteArray) : List Stm × Int :=
  if okG xs ss = true then (if longB word = true then ((dersTo ss ss.length).filter (hitB xs word), 0) else ([], 7)) else ([], 1)
theorem derOut_bad {xs : List Aff} {ss : List Stm} {word : ByteArray} (h : okG xs ss = false) : derOut xs ss word = ([], 1) := by unfold derOut; rw [h]; rfl
theorem derOut_no {xs : List Aff} {ss : List Stm} {word : ByteArray} (h : okG xs ss = true) (hw : longB word = false) : derOut xs ss word = ([], 7) := by unfold derOut; rw [h, hw]; rfl
theorem derOut_yes {xs : List Aff} {ss : List Stm} {word : ByteArray} (h : okG xs ss = true) (hw : longB word = true) : derOut xs ss word = ((dersTo ss ss.length).filter (hitB xs word), 0) := by unfold derOut; rw [h, hw]; rfl
end Go.Proofs.Ytilagppmljpclaa

namespace Go.Proofs.Ytilagppmljpclaa
open Go.RowKit

theorem GramAt.belowI {w w' : World} {g : Nat} {va vs : Value} {xs : List Aff} {ss : List Stm} (h : GramAt w g va vs xs ss) (hb : Below w.heap.size w w') : GramAt w' g va vs xs ss := ⟨h.blk.kept hb h.blk.lt, h.gram.below hb⟩
/-- A row of derivations whose rows of names are old ones (below S) or of the first k of vs, which lie from S up to T; its own block is none of those. -/
structure Mid (B S T : Nat) (w : World) (v : Value) (us : List Value) (ds : List Stm) (vs : List Value) (k : Nat) : Prop where
  ders : Ders B w v us ds
  far : ∀ b, v.ownBlock = some b → b < S ∨ T ≤ b
  near : ∀ j, j < vs.length → ∀ b, (usG vs j).ownBlock = some b → S ≤ b ∧ b < T
  src : ∀ j, j < us.length → ∀ b, (usG us j).ownBlock = some b → b < S ∨ ∃ i, i < k ∧ i < vs.length ∧ (usG vs i).ownBlock = some b
  size : T ≤ w.heap.size
theorem Mid.skip {B S T k : Nat} {w : World} {v : Value} {us vs : List Value} {ds : List Stm} (h : Mid B S T w v us ds vs k) : Mid B S T w v us ds vs (k + 1) :=
  ⟨h.ders, h.far, h.near, fun j hj b hb => (h.src j hj b hb).imp id fun ⟨i, h1, h2⟩ => ⟨i, by omega, h2⟩, h.size⟩
theorem Mid.quiet {B S T k : Nat} {w w' : World} {v : Value} {us vs : List Value} {ds : List Stm} (h : Mid B S T w v us ds vs k) (hb : Below w.heap.size w w') : Mid B S T w' v us ds vs k :=
  ⟨h.ders.quiet hb, h.far, h.near, h.src, Nat.le_trans h.size hb.size⟩
theorem Mid.free {B S T k : Nat} {w : World} {v : Value} {us vs : List Value} {ds : List Stm} {L : List (List ByteArray)} (h : Mid B S T w v us ds vs k) (hk : k < vs.length) (hL : Kin S w vs L) :
    ∀ b, (usG vs k).ownBlock = some b → v.ownBlock ≠ some b ∧ ∀ j, j < us.length → (usG us j).ownBlock ≠ some b := by
  intro b hb
  have h1 := h.near k hk b hb
  refine ⟨fun e => by have := h.far b e; omega, fun j hj e => ?_⟩
  rcases h.src j hj b e with h2 | ⟨i, h2, h3, h4⟩
  · omega
  · exact hL.two i k h3 hk (by omega) b h4 hb
theorem Mid.put {B S T k g n cap : Nat} {w w' : World} {v : Value} {us vs : List Value} {ds : List Stm} {d : Stm} (h : Mid B S T w v us ds vs k) (hk : k < vs.length)
    (ho : Ders B w' (.slice (some ⟨g, 0, none⟩) n cap) (us ++ [usG vs k]) (ds ++ [d])) (hap : Apart (fun b => v.ownBlock = some b) w w') (hl : v.ownBlock = some g ∨ w.heap.size ≤ g) : Mid B S T w' (.slice (some ⟨g, 0, none⟩) n cap) (us ++ [usG vs k]) (ds ++ [d]) vs (k + 1) := by
  have hs := h.size
  refine ⟨ho, fun b hb => ?_, h.near, fun j hj b hb => ?_, Nat.le_trans h.size hap.size⟩
  · simp [Value.ownBlock] at hb
    subst hb
    rcases hl with hl | hl
    · exact h.far _ hl
    · exact .inr (by omega)
  · rw [List.length_append, List.length_singleton] at hj
    rw [usG_snoc _ _ _ (by omega)] at hb
    by_cases hx : j = us.length
    · rw [if_pos hx] at hb
      exact .inr ⟨k, by omega, hk, hb⟩
    · rw [if_neg hx] at hb
      exact (h.src j (by omega) b hb).imp id fun ⟨i, h1, h2⟩ => ⟨i, by omega, h2⟩
/-- What is read from rows of the stretch lies as it did behind an append. -/
theorem Mid.kin {B S T k : Nat} {w w' : World} {v : Value} {us vs : List Value} {ds : List Stm} {L : List (List ByteArray)} (h : Mid B S T w v us ds vs k) (hL : Kin S w vs L) (hap : Apart (fun b => v.ownBlock = some b) w w') : Kin S w' vs L :=
  hL.apart hap fun j hj b hb e => by have := h.near j hj b hb; have := h.far b e; omega
theorem Mid.lists {B S T k : Nat} {w w' : World} {v r : Value} {us vs : List Value} {ds : List Stm} {L : List (List ByteArray)} (h : Mid B S T w v us ds vs k) (hL : Lists S w r vs L) (hr : ∀ b, r.ownBlock = some b → b < T) (hap : Apart (fun b => v.ownBlock = some b) w w') : Lists S w' r vs L :=
  hL.apart hap (fun b hb e => by have := (hL.under b hb).1; have := hr b hb; have := h.far b e; omega) fun j hj b hb e => by have := h.near j hj b hb; have := h.far b e; omega
theorem Mid.below {B S T k : Nat} {w0 w w' : World} {v : Value} {us vs : List Value} {ds : List Stm} (h : Mid w0.heap.size S T w v us ds vs k) (hb : Below w0.heap.size w0 w) (hap : Apart (fun b => v.ownBlock = some b) w w') (_ : B = w0.heap.size) : Below w0.heap.size w0 w' :=
  hb.trans (hap.below (fun i hi e => by have := (h.ders.under i e).1; omega) hb.size)
theorem Mid.start {B : Nat} {ws w : World} {v : Value} {us vs : List Value} {ds : List Stm} {L : List (List ByteArray)} (h : Ders B ws v us ds) (hb : Below ws.heap.size ws w) (hL : Kin ws.heap.size w vs L) : Mid B ws.heap.size w.heap.size w v us ds vs 0 :=
  ⟨h.quiet hb, fun b hb => .inl (h.under b hb).2, fun _ hj b hb => hL.under hj b hb, fun _ hj b hb => .inl (h.kin.under hj b hb).2, Nat.le_refl _⟩
end Go.Proofs.Ytilagppmljpclaa
