/-
  All ways to place a word with tiles: the program's, by a function that calls itself through a variable.
-/
import Derived.Test.YtilagppmljpclaaJ2
import Derived.Test.YtilagppmljpclaaQ8
import Derived.ArgAppend
namespace Go.Proofs.Ytilagppmljpclaa
open Go.RowKit

/-! ### A byte more, always in new memory -/
theorem info_byteJ : (Try.prog.info? 5).map (fun i => (i.zero, i.size, i.bytes)) = some (some (.int .u8 0), 1, 1) := by kernel_rfl
theorem bytes_len (l : List UInt8) : (Lib.byteCells l).length = l.length := by simp [Lib.byteCells]
theorem own_news {B g cap : Nat} {w w' : World} {l : List UInt8} (h : OwnB B w (.slice (some ⟨g, 0, none⟩) l.length cap) l) (hb : Below w.heap.size w w') :
    ∀ b : Addr, (some ⟨g, 0, none⟩ : Option Addr) = some b → ∀ j u, (Lib.byteCells l)[j]? = some u → w'.cell? (b.add j) = some u := by
  intro b hb2 j u hj
  injection hb2 with hb2
  subst hb2
  have hjl : j < l.length := by
    rcases Nat.lt_or_ge j l.length with h | h
    · exact h
    · rw [List.getElem?_eq_none (by rw [bytes_len]; exact h)] at hj; cases hj
  have hlt := (World.ownsRow.lt h g rfl).2
  rw [Go.WideShapes.add_plain, Nat.zero_add, ← hj, ← World.ownsRow.cellAt (size := 1) h j (by omega)]
  exact hb.cell (p := ⟨g, j, none⟩) hlt
theorem own_moreJ {w w1 : World} {v : Value} {l : List UInt8} {c : UInt8} {B n : Nat} (h : w1.ownsRow B 5 1 v n (Lib.byteCells l ++ [.int .u8 (c.toNat : Int)])) (hn : n = l.length + 1) (hB : w.heap.size ≤ B) : OwnB w.heap.size w1 v (l ++ [c]) := by
  have := own_lower h hB
  unfold OwnB
  rw [Lib.byteCells, List.map_append, List.length_append, List.length_singleton, ← hn]
  exact this
set_option maxHeartbeats 1000000 in
theorem extended_any {B : Nat} {v : Value} {l : List UInt8} (c : UInt8) (w : World) (h : OwnB B w v l) (hl : l.length ≤ 1000) :
    Calls Try.prog 47 #[v, .int .u8 (c.toNat : Int)] w fun e w' => ∃ v', e = .returned v' ∧ OwnB w.heap.size w' v' (l ++ [c]) ∧ Below w.heap.size w w' := by
  obtain ⟨i0, hi, hz0, hz1, hz2⟩ := info_parts info_byteJ
  have HI := Shh.mk hi
  have HO := Shh.mk h
  have HB0 := Shh.mk ((Below.refl w.heap.size w).alloc (Nat.le_refl _) (.cells #[.int .u8 (c.toNat : Int)] 5))
  clear hi
  rcases h.2 with ⟨rfl, h0⟩ | ⟨g, cap, cur, rfl, -, -, hnc, hcm, -⟩
  · obtain rfl : l = [] := List.eq_nil_of_length_eq_zero h0
    clear h h0
    go_enter Try.func47, Try.ntmps47
    go_wp2_with (at_builtin; refine wpList_append_grows _ rfl _ _ 22 rfl 5 i0 (.int .u8 0) 1 1 Try.underlying22 HI.out hz0 hz1 hz2 rfl (by decide) none 0 0 [] rfl (fun _ => ⟨rfl, rfl⟩) rfl (fun b hb => by cases hb) ⟨w.heap.size, 0, none⟩ 1 1 [.int .u8 (c.toNat : Int)] rfl rfl (cell_one_new _ _ _) (by intro u hu; simp at hu; subst hu; rfl) (by omega) (by unfold maxLen; omega) (by omega) ?_; intro v' w1 ho1 hg1)
    have HO1 := Shh.mk (own_moreJ (w := w) (l := []) ho1 rfl (by simp))
    have HB1 := Shh.mk (HB0.out.grown hg1 (by simp) (fun k hk => by cases hk))
    clear ho1 hg1
    go_wp2
    go_ret
    exact ⟨_, rfl, HO1.out, HB1.out⟩
  · have hn0 : (0 : Int) ≤ (l.length : Int) := by omega
    have hnci : (l.length : Int) ≤ (cap : Int) := by omega
    have HN := Shh.mk (own_news HO.out HB0.out)
    have HL := Shh.mk (bytes_len l)
    clear h
    go_enter Try.func47, Try.ntmps47
    go_wp2_with (at_builtin; refine wpList_append_grows _ rfl _ _ 22 rfl 5 i0 (.int .u8 0) 1 1 Try.underlying22 HI.out hz0 hz1 hz2 rfl (by decide) (some ⟨g, 0, none⟩) l.length l.length (Lib.byteCells l) rfl (fun e => by cases e) (by rw [HL.out]; omega) HN.out ⟨w.heap.size, 0, none⟩ 1 1 [.int .u8 (c.toNat : Int)] rfl rfl (cell_one_new _ _ _) (by intro u hu; simp at hu; subst hu; rfl) (by omega) (by unfold maxLen; omega) (by omega) ?_; intro v' w1 ho1 hg1)
    have HO1 := Shh.mk (own_moreJ (w := w) (l := l) ho1 rfl (by simp))
    have HB1 := Shh.mk (HB0.out.grown hg1 (by simp) (fun k hk => by cases hk))
    clear ho1 hg1
    go_wp2
    go_ret
    exact ⟨_, rfl, HO1.out, HB1.out⟩

/-! ### Placing, letter by letter -/
/-- All ways to place a word behind what is placed already; the same with one more tile of a kind taken. -/
def outW (pl : List UInt8) (F : Nat → Nat) (l : List UInt8) : List ByteArray := (waysL F l).map fun x => txt (pl ++ x)
def outK (pl : List UInt8) (F : Nat → Nat) (K : Nat) (x : UInt8) (l : List UInt8) : List ByteArray := if F K = 0 then [] else outW (pl ++ [x]) (decK F K) l
theorem outW_nil (pl : List UInt8) (F : Nat → Nat) : outW pl F [] = [txt pl] := by simp [outW, waysL]
theorem outW_cons (pl : List UInt8) (F : Nat → Nat) (c : UInt8) (l : List UInt8) : outW pl F (c :: l) = outK pl F 0 (capU c) l ++ outK pl F (kindN c) c l := by
  unfold outW outK
  rw [waysL, List.map_append]
  congr 1
  all_goals
    split
    · rfl
    · unfold outW
      rw [List.map_map]
      apply List.map_congr_left
      intro x _
      simp
theorem outW_len (pl : List UInt8) (F : Nat → Nat) (l : List UInt8) : (outW pl F l).length ≤ 2 ^ l.length := by
  unfold outW
  rw [List.length_map]
  exact waysL_len l F
theorem outK_len (pl : List UInt8) (F : Nat → Nat) (K : Nat) (x : UInt8) (l : List UInt8) : (outK pl F K x l).length ≤ 2 ^ l.length := by
  unfold outK
  split
  · exact Nat.zero_le _
  · exact outW_len _ _ _

/-- Four variables of the function that places. -/
structure Vars where
  word : Nat
  ways : Nat
  left : Nat
  place : Nat
def Vars.has (c : Vars) (k : Nat) : Prop := k = c.word ∨ k = c.ways ∨ k = c.left ∨ k = c.place
def Vars.ptrs (c : Vars) : Array Value := #[.pointer (some ⟨c.word, 0, none⟩), .pointer (some ⟨c.ways, 0, none⟩), .pointer (some ⟨c.left, 0, none⟩), .pointer (some ⟨c.place, 0, none⟩)]
structure Vars.Apart (B : Nat) (c : Vars) : Prop where
  a1 : c.word ≠ c.ways
  a2 : c.word ≠ c.left
  a3 : c.word ≠ c.place
  a4 : c.ways ≠ c.left
  a5 : c.ways ≠ c.place
  a6 : c.left ≠ c.place
  b1 : B ≤ c.word
  b2 : B ≤ c.ways
  b3 : B ≤ c.left
  b4 : B ≤ c.place
/-- What the four variables hold. -/
structure Sit (B : Nat) (c : Vars) (word : ByteArray) (w : World) (y : Value) (ys : List ByteArray) (F : Nat → Nat) : Prop where
  word : Blk w c.word 9 #[.string word]
  ways : Blk w c.ways 25 #[y]
  own : OwnS B w y ys
  left : Blk w c.left 74 (arrN F)
  place : Blk w c.place 87 #[.func (.func 61) #[] c.ptrs]
  off : ∀ k, y.ownBlock = some k → ¬ c.has k
theorem Sit.below {B : Nat} {c : Vars} {word : ByteArray} {w w' : World} {y : Value} {ys : List ByteArray} {F : Nat → Nat} (h : Sit B c word w y ys F) (hb : Below w.heap.size w w') : Sit B c word w' y ys F :=
  ⟨h.word.kept hb h.word.lt, h.ways.kept hb h.ways.lt, OwnS.kept h.own hb, h.left.kept hb h.left.lt, h.place.kept hb h.place.lt, h.off⟩
/-- Another number of tiles of one kind. -/
theorem Sit.count {B : Nat} {c : Vars} {word : ByteArray} {w : World} {y : Value} {ys : List ByteArray} {F G : Nat → Nat} (h : Sit B c word w y ys F) (hc : c.Apart B) (k : Nat) (u : Value) (hG : (arrN F).setIfInBounds k u = arrN G) :
    Sit B c word (w.setCell ⟨c.left, k, none⟩ u) y ys G := by
  have hl := h.left.stored k u
  rw [hG] at hl
  refine ⟨h.word.other hc.a2 u, h.ways.other hc.a4 u, ?_, hl, h.place.other hc.a6.symm u, h.off⟩
  refine OwnS.apart h.own ((Go.Proofs.Ytilagppmljpclaa.Apart.refl (fun b => b = c.left) w).setCell (fun _ => rfl) u) fun k hk e => h.off k hk (by rw [e]; exact .inr (.inr (.inl rfl)))
theorem arrN_dec {F : Nat → Nat} {k : Nat} (h : F k ≠ 0) : (arrN F).setIfInBounds k (.int .i64 ((F k : Int) - 1)) = arrN (decK F k) := by
  unfold arrN
  rw [arrI_set]
  refine arrI_congr fun j _ => ?_
  unfold decK
  by_cases e : j = k
  · rw [if_pos e, if_pos e, e]; omega
  · rw [if_neg e, if_neg e]
theorem arrN_inc {F : Nat → Nat} {k : Nat} (h : F k ≠ 0) : (arrN (decK F k)).setIfInBounds k (.int .i64 ((F k - 1 : Nat) + 1 : Int)) = arrN F := by
  unfold arrN
  rw [arrI_set]
  refine arrI_congr fun j _ => ?_
  unfold decK
  by_cases e : j = k
  · rw [if_pos e, e]; omega
  · rw [if_neg e, if_neg e]
theorem arrN_at (F : Nat → Nat) {k : Nat} (h : k < 27) : (arrN F)[k]? = some (.int .i64 (F k : Int)) := arrI_at _ h
/-- A text that is being placed lies apart from the variables and the row of ways. -/
structure Held (c : Vars) (B : Nat) (w : World) (y v : Value) (pl : List UInt8) : Prop where
  own : OwnB B w v pl
  off : ∀ k, v.ownBlock = some k → ¬ c.has k ∧ y.ownBlock ≠ some k
/-- What a call of the function that places leaves. -/
structure Placed (B : Nat) (c : Vars) (word : ByteArray) (w w' : World) (y : Value) (ys : List ByteArray) (F : Nat → Nat) (zs : List ByteArray) (y' : Value) : Prop where
  sit : Sit B c word w' y' (ys ++ zs) F
  apart : Go.Proofs.Ytilagppmljpclaa.Apart (fun k => k = c.ways ∨ k = c.left ∨ y.ownBlock = some k) w w'
  near : ∀ k, y'.ownBlock = some k → y.ownBlock = some k ∨ w.heap.size ≤ k
theorem Sit.far {B : Nat} {c : Vars} {word : ByteArray} {w : World} {y : Value} {ys : List ByteArray} {F : Nat → Nat} (h : Sit B c word w y ys F) {k : Nat} (hk : c.has k) : y.ownBlock ≠ some k := fun e => h.off k e hk
/-- One way more. -/
theorem Sit.push {B : Nat} {c : Vars} {word : ByteArray} {w w' : World} {y : Value} {ys : List ByteArray} {F : Nat → Nat} {g n cap : Nat} {t : ByteArray} (h : Sit B c word w y ys F) (hc : c.Apart B)
    (ho : OwnS B w' (.slice (some ⟨g, 0, none⟩) n cap) (ys ++ [t])) (hk : Go.Proofs.Ytilagppmljpclaa.Apart (fun b => y.ownBlock = some b) w w') (hl : y.ownBlock = some g ∨ w.heap.size ≤ g) :
    Sit B c word (w'.setCell ⟨c.ways, 0, none⟩ (.slice (some ⟨g, 0, none⟩) n cap)) (.slice (some ⟨g, 0, none⟩) n cap) (ys ++ [t]) F := by
  have hg : ∀ k, c.has k → g ≠ k := fun k hk e => by
    rcases hl with hl | hl
    · exact h.far hk (by rw [hl, e])
    · rcases hk with hk | hk | hk | hk
      · have := h.word.lt; omega
      · have := h.ways.lt; omega
      · have := h.left.lt; omega
      · have := h.place.lt; omega
  have w1 := (h.word.apart hk (h.far (.inl rfl))).other (p := ⟨c.ways, 0, none⟩) hc.a1 (.slice (some ⟨g, 0, none⟩) n cap)
  have w2 := (h.ways.apart hk (h.far (.inr (.inl rfl)))).stored 0 (.slice (some ⟨g, 0, none⟩) n cap)
  have w3 := (h.left.apart hk (h.far (.inr (.inr (.inl rfl))))).other (p := ⟨c.ways, 0, none⟩) hc.a4.symm (.slice (some ⟨g, 0, none⟩) n cap)
  have w4 := (h.place.apart hk (h.far (.inr (.inr (.inr rfl))))).other (p := ⟨c.ways, 0, none⟩) hc.a5.symm (.slice (some ⟨g, 0, none⟩) n cap)
  refine ⟨w1, w2, ?_, w3, w4, fun k hk hh => ?_⟩
  · exact OwnS.apart ho ((Go.Proofs.Ytilagppmljpclaa.Apart.refl (fun k => k = c.ways) w').setCell (p := ⟨c.ways, 0, none⟩) (fun _ => rfl) _) (fun k hk e => by
      simp [Value.ownBlock] at hk
      exact hg c.ways (.inr (.inl rfl)) (by rw [hk, e]))
  · simp [Value.ownBlock] at hk
    exact hg k hh hk
/-- A string more behind a row of the call's own, the new row's address told. -/
theorem wpList_appendH {ops : Array Oper} {rest : List Oper} {o : Oper} {a : Act} {Q : Exit → Act → World → Prop} {B H : Nat} {W : World} (hgd : o.guard = none) (s x : Operand)
    (ho : o.op = .call { callee := .builtin .append, args := #[s, x], argTypes := #[25, 25] })
    (v : Value) (ss : List ByteArray) (c : ByteArray) (hs : a.eval s = v) (hx : a.eval x = .slice (some ⟨H, 0, none⟩) 1 1) (hH : W.heap.size = H)
    (hown : OwnS B W v ss) (hlen : ss.length ≤ 1000000) (hB : B ≤ W.heap.size)
    (h : ∀ g cap w', OwnS B w' (.slice (some ⟨g, 0, none⟩) (ss.length + 1) cap) (ss ++ [c]) → Go.Proofs.Ytilagppmljpclaa.Apart (fun b => v.ownBlock = some b) W w' → (v.ownBlock = some g ∨ W.heap.size ≤ g) → wpList Try.prog ops Q rest (a.put o.dst (.slice (some ⟨g, 0, none⟩) (ss.length + 1) cap)) w') :
    wpList Try.prog ops Q (o :: rest) a (W.alloc (.cells #[.string c] 9)) := by
  subst hH
  exact wpList_appendJ hgd s x ho v ss c hs hx hown hlen hB h
end Go.Proofs.Ytilagppmljpclaa
