/-
  Placements: the order of plays: the program's small comparisons, the model's.
-/
import Derived.Test.YtmkdbahdhobdjaaCP
import Derived.Test.YtmkdbahdhobdjaaShelfC
import Derived.Lib.Bytealg
import Derived.Deep.RegionHeld3
namespace Go.Proofs.Ytmkdbahdhobdjaa
open Go.RowKit Go.Deep

def cmpI (x y : Int) : Int := if x < y then -1 else if y < x then 1 else 0
theorem cmpI_ne {x y : Int} (h : x ≠ y) : cmpI x y ≠ 0 := by
  unfold cmpI
  by_cases ha : x < y
  · rw [if_pos ha]; decide
  · rw [if_neg ha, if_pos (by omega)]; decide
def cmpD (a b : Bool) : Int := if a = b then 0 else if b = true then -1 else 1
/-- The first of four numbers that is not 0. -/
def orL : List Int → Int
  | [] => 0
  | x :: r => if x = 0 then orL r else x
theorem isNaN_any (x : Int) (W : World) : Calls Try.prog 146 #[.int .i64 x] W fun e w' => e = .returned (.bool false) ∧ W = w' := by
  go_enter Try.func146, Try.ntmps146
  go_wp2
  go_ret
  simp
theorem compareI_any (x y : Int) (W : World) : Calls Try.prog 106 #[.int .i64 x, .int .i64 y] W fun e w' => e = .returned (.int .i64 (cmpI x y)) ∧ W = w' := by
  by_cases h1 : x < y
  · have HR := ShO.mk (show cmpI x y = -1 by unfold cmpI; rw [if_pos h1])
    go_enter Try.func106, Try.ntmps106
    go_wp2_with (go_at_call 146; refine (isNaN_any _ W).mono ?_; rintro e w1 ⟨rfl, rfl⟩)
    go_ret
    rw [HR.out]
    exact ⟨rfl, rfl⟩
  · by_cases h2 : y < x
    · have HR := ShO.mk (show cmpI x y = 1 by unfold cmpI; rw [if_neg h1, if_pos h2])
      go_enter Try.func106, Try.ntmps106
      go_wp2_with (go_at_call 146; refine (isNaN_any _ W).mono ?_; rintro e w1 ⟨rfl, rfl⟩)
      go_ret
      rw [HR.out]
      exact ⟨rfl, rfl⟩
    · have HR := ShO.mk (show cmpI x y = 0 by unfold cmpI; rw [if_neg h1, if_neg h2])
      go_enter Try.func106, Try.ntmps106
      go_wp2_with (go_at_call 146; refine (isNaN_any _ W).mono ?_; rintro e w1 ⟨rfl, rfl⟩)
      go_ret
      rw [HR.out]
      exact ⟨rfl, rfl⟩
theorem sign_any (x y : Int) (W : World) : Calls Try.prog 145 #[.int .i64 x, .int .i64 y] W fun e w' => e = .returned (.int .i64 (cmpI x y)) ∧ W = w' := by
  by_cases h1 : x < y
  · have HR := ShO.mk (show cmpI x y = -1 by unfold cmpI; rw [if_pos h1])
    go_enter Try.func145, Try.ntmps145
    go_wp2
    go_ret
    rw [HR.out]
    exact ⟨rfl, rfl⟩
  · by_cases h2 : y < x
    · have HR := ShO.mk (show cmpI x y = 1 by unfold cmpI; rw [if_neg h1, if_pos h2])
      go_enter Try.func145, Try.ntmps145
      go_wp2
      go_ret
      rw [HR.out]
      exact ⟨rfl, rfl⟩
    · have HR := ShO.mk (show cmpI x y = 0 by unfold cmpI; rw [if_neg h1, if_neg h2])
      go_enter Try.func145, Try.ntmps145
      go_wp2
      go_ret
      rw [HR.out]
      exact ⟨rfl, rfl⟩
theorem below_twoC {W : World} {a b : Array Value} {s t : TypeId} : Below W.heap.size W ((W.alloc (.cells a s)).alloc (.cells b t)) := ((Below.refl _ _).alloc (Nat.le_refl _) _).alloc (by simp) _
set_option maxRecDepth 100000 in
theorem compareDirections_any (r k : Int) (d : Bool) (s : ByteArray) (r' k' : Int) (d' : Bool) (s' : ByteArray) (W : World) :
    Calls Try.prog 105 #[.agg #[.int .i64 r, .int .i64 k, .bool d, .string s], .agg #[.int .i64 r', .int .i64 k', .bool d', .string s']] W fun e w' => e = .returned (.int .i64 (cmpD d d')) ∧ Below W.heap.size W w' := by
  cases d <;> cases d' <;>
  · go_enter Try.func105, Try.ntmps105
    go_wp2
    go_ret
    exact ⟨rfl, below_twoC⟩
set_option maxRecDepth 100000 in
set_option maxHeartbeats 2000000 in
theorem or_any {g : Nat} (x0 x1 x2 x3 : Int) (W : World) (c : ∀ j, W.cell? ⟨g, j, none⟩ = (#[Value.int .i64 x0, Value.int .i64 x1, Value.int .i64 x2, Value.int .i64 x3] : Array Value)[j]?) :
    Calls Try.prog 104 #[.slice (some ⟨g, 0, none⟩) 4 4] W fun e w' => e = .returned (.int .i64 (orL [x0, x1, x2, x3])) ∧ W = w' := by
  have C := ShO.mk c
  clear c
  go_enter Try.func104, Try.ntmps104
  go_wp2
  go_loopw [5, 8] (fun _ i wr => ∃ (j : Nat), j ≤ 4 ∧ i = .int .i64 (j : Int) ∧ ShO (orL [x0, x1, x2, x3] = orL (([x0, x1, x2, x3] : List Int).drop j)) ∧ W = wr) (fun _ i _ => 4 - (intOf i).toNat)
  case atStart => exact ⟨0, Nat.zero_le _, rfl, ⟨rfl⟩, rfl⟩
  case round =>
    obtain ⟨j, hj, rfl, ho, rfl⟩ := hrel
    by_cases hlt : j < 4
    · obtain ⟨x, hx⟩ : ∃ x, ([x0, x1, x2, x3] : List Int)[j]? = some x := ⟨_, List.getElem?_eq_getElem (by simpa using hlt)⟩
      have cj : W.cell? ⟨g, j, none⟩ = some (.int .i64 x) := by
        rw [C.out]
        have : j = 0 ∨ j = 1 ∨ j = 2 ∨ j = 3 := by omega
        rcases this with rfl | rfl | rfl | rfl <;> simp at hx <;> subst hx <;> rfl
      have hd : ([x0, x1, x2, x3] : List Int).drop j = x :: ([x0, x1, x2, x3] : List Int).drop (j + 1) := by
        rw [List.getElem?_eq_some_iff] at hx
        obtain ⟨h1, h2⟩ := hx
        rw [List.drop_eq_getElem_cons h1, h2]
      have hj0 : (0 : Int) ≤ (j : Int) := by omega
      have hj1 : (j : Int) < 4 := by omega
      by_cases h0 : x = 0
      · have HO := ShO.mk (show orL [x0, x1, x2, x3] = orL (([x0, x1, x2, x3] : List Int).drop (j + 1)) by rw [ho.out, hd, orL, if_pos h0])
        have hne : (x != 0) = false := by rw [h0]; rfl
        clear hd hx ho
        go_wp2
        go_roundw
        case rel => exact ⟨j + 1, by omega, by go_num, HO, trivial⟩
        case measure => simp [intOf]; omega
      · have HO := ShO.mk (show orL [x0, x1, x2, x3] = x by rw [ho.out, hd, orL, if_neg h0])
        have hne : (x != 0) = true := bne_iff_ne.2 h0
        clear hd hx ho
        go_wp2
        go_ret
        rw [HO.out]
        exact ⟨rfl, rfl⟩
    · obtain rfl : j = 4 := by omega
      have HO := ShO.mk (show orL [x0, x1, x2, x3] = 0 by rw [ho.out]; rfl)
      clear ho
      go_wp2
      go_ret
      rw [HO.out]
      exact ⟨rfl, rfl⟩

theorem cmp_less : ∀ a b : List UInt8, (Lib.compareBytes a b = -1 ∧ Op.bytesLess a b = true ∧ (a == b) = false) ∨ (Lib.compareBytes a b = 0 ∧ Op.bytesLess a b = false ∧ (a == b) = true) ∨ (Lib.compareBytes a b = 1 ∧ Op.bytesLess a b = false ∧ (a == b) = false)
  | [], [] => .inr (.inl ⟨rfl, rfl, rfl⟩)
  | [], b :: y => .inl ⟨rfl, rfl, rfl⟩
  | a :: x, [] => .inr (.inr ⟨rfl, rfl, rfl⟩)
  | a :: x, b :: y => by
    by_cases h1 : a < b
    · have hne : (a == b) = false := by rw [beq_eq_false_iff_ne]; rintro rfl; exact absurd h1 (by simp)
      exact .inl ⟨by rw [Lib.compareBytes, if_pos h1], by simp [Op.bytesLess, h1], by simp [hne]⟩
    · by_cases h2 : b < a
      · have hne : (a == b) = false := by rw [beq_eq_false_iff_ne]; rintro rfl; exact absurd h2 (by simp)
        exact .inr (.inr ⟨by rw [Lib.compareBytes, if_neg h1, if_pos h2], by simp [Op.bytesLess, h1, hne], by simp [hne]⟩)
      · obtain rfl : a = b := by
          apply UInt8.toNat_inj.1
          rw [UInt8.lt_iff_toNat_lt] at h1 h2
          omega
        rcases cmp_less x y with ⟨e1, e2, e3⟩ | ⟨e1, e2, e3⟩ | ⟨e1, e2, e3⟩
        · exact .inl ⟨by rw [Lib.compareBytes, if_neg h1, if_neg h1, e1], by simp [Op.bytesLess, e2], by simp at e3 ⊢; exact e3⟩
        · exact .inr (.inl ⟨by rw [Lib.compareBytes, if_neg h1, if_neg h1, e1], by simp [Op.bytesLess, e2], by simp at e3 ⊢; exact e3⟩)
        · exact .inr (.inr ⟨by rw [Lib.compareBytes, if_neg h1, if_neg h1, e1], by simp [Op.bytesLess, e2], by simp at e3 ⊢; exact e3⟩)
theorem cmp_str (s t : ByteArray) : (Lib.compareBytes s.data.toList t.data.toList = -1 ∧ Op.bytesLess s.toList t.toList = true ∧ (s.toList == t.toList) = false) ∨ (Lib.compareBytes s.data.toList t.data.toList = 0 ∧ Op.bytesLess s.toList t.toList = false ∧ (s.toList == t.toList) = true) ∨ (Lib.compareBytes s.data.toList t.data.toList = 1 ∧ Op.bytesLess s.toList t.toList = false ∧ (s.toList == t.toList) = false) := by
  rw [ByteArray.toList_eq, ByteArray.toList_eq]
  exact cmp_less s.data.toList t.data.toList
/-- How two plays compare. -/
def cmpOut (r k : Int) (d : Bool) (s : ByteArray) (r' k' : Int) (d' : Bool) (s' : ByteArray) : Int := orL [cmpD d d', cmpI r r', cmpI k k', Lib.compareBytes s.data.toList s'.data.toList]
set_option maxRecDepth 100000 in
set_option maxHeartbeats 2000000 in
theorem l12Compare_any (r k : Int) (d : Bool) (s : ByteArray) (r' k' : Int) (d' : Bool) (s' : ByteArray) (W : World) :
    Calls Try.prog 103 #[.agg #[.int .i64 r, .int .i64 k, .bool d, .string s], .agg #[.int .i64 r', .int .i64 k', .bool d', .string s']] W fun e w' => e = .returned (.int .i64 (cmpOut r k d s r' k' d' s')) ∧ Below W.heap.size W w' := by
  have B0 := ShO.mk (below_twoC (W := W) (a := #[.int .i64 r, .int .i64 k, .bool d, .string s]) (b := #[.int .i64 r', .int .i64 k', .bool d', .string s']) (s := 56) (t := 56))
  cases hd : (d != d')
  · obtain rfl : d = d' := by simpa using hd
    have hd0 : cmpD d d = 0 := by unfold cmpD; rw [if_pos rfl]
    by_cases hr : r = r'
    · subst hr
      have h1 : (r != r) = false := by simp
      have hr0 : cmpI r r = 0 := by unfold cmpI; rw [if_neg (Int.lt_irrefl r), if_neg (Int.lt_irrefl r)]
      by_cases hk : k = k'
      · subst hk
        have h2 : (k != k) = false := by simp
        have hk0 : cmpI k k = 0 := by unfold cmpI; rw [if_neg (Int.lt_irrefl k), if_neg (Int.lt_irrefl k)]
        have HR := ShO.mk (show cmpOut r k d s r k d s' = Lib.compareBytes s.data.toList s'.data.toList by
          unfold cmpOut
          simp only [orL, hd0, hr0, hk0, if_true]
          split <;> simp_all)
        clear hd hd0 hr0 hk0
        rcases cmp_str s s' with ⟨e1, e2, e3⟩ | ⟨e1, e2, e3⟩ | ⟨e1, e2, e3⟩ <;>
        · rw [e1] at HR
          clear e1
          go_enter Try.func103, Try.ntmps103
          go_wp2
          go_ret
          rw [HR.out]
          exact ⟨rfl, B0.out⟩
      · have h2 : (k != k') = true := bne_iff_ne.2 hk
        have hk0 : cmpI k k' ≠ 0 := cmpI_ne hk
        have HR := ShO.mk (show cmpOut r k d s r k' d s' = cmpI k k' by
          unfold cmpOut
          simp only [orL, hd0, hr0, if_true, if_neg hk0])
        clear hd hd0 hr0 hk0
        go_enter Try.func103, Try.ntmps103
        go_wp2_with fail
        refine (sign_any _ _ _).mono ?_
        rintro e w1 ⟨rfl, rfl⟩
        go_wp2
        go_ret
        rw [HR.out]
        exact ⟨rfl, B0.out⟩
    · have h1 : (r != r') = true := bne_iff_ne.2 hr
      have hr0 : cmpI r r' ≠ 0 := cmpI_ne hr
      have HR := ShO.mk (show cmpOut r k d s r' k' d s' = cmpI r r' by
        unfold cmpOut
        simp only [orL, hd0, if_true, if_neg hr0])
      clear hd hd0 hr0
      go_enter Try.func103, Try.ntmps103
      go_wp2_with fail
      refine (sign_any _ _ _).mono ?_
      rintro e w1 ⟨rfl, rfl⟩
      go_wp2
      go_ret
      rw [HR.out]
      exact ⟨rfl, B0.out⟩
  · have HR := ShO.mk (show cmpOut r k d s r' k' d' s' = cmpD d d' by
      have h0 : cmpD d d' ≠ 0 := by cases d <;> cases d' <;> first | (simp at hd; done) | decide
      unfold cmpOut
      simp only [orL, if_neg h0])
    have hne : d ≠ d' := bne_iff_ne.1 hd
    cases d <;> cases d' <;> first
      | exact absurd rfl hne
      | (clear hd hne
         go_enter Try.func103, Try.ntmps103
         go_wp2
         go_ret
         rw [HR.out]
         exact ⟨rfl, B0.out⟩)
theorem specComparePlays_any (r k : Int) (d : Bool) (s : ByteArray) (r' k' : Int) (d' : Bool) (s' : ByteArray) (W : World) :
    Calls Try.prog 49 #[.agg #[.int .i64 r, .int .i64 k, .bool d, .string s], .agg #[.int .i64 r', .int .i64 k', .bool d', .string s']] W fun e w' => e = .returned (.int .i64 (cmpOut r k d s r' k' d' s')) ∧ Below W.heap.size W w' := by
  have B0 := ShO.mk (below_twoC (W := W) (a := #[.int .i64 r, .int .i64 k, .bool d, .string s]) (b := #[.int .i64 r', .int .i64 k', .bool d', .string s']) (s := 56) (t := 56))
  go_enter Try.func49, Try.ntmps49
  go_wp2_with fail
  refine (l12Compare_any r k d s r' k' d' s' _).mono ?_
  rintro e w1 ⟨rfl, hb1⟩
  go_wp2
  go_ret
  exact ⟨rfl, B0.out.trans (hb1.mono B0.out.size)⟩

/-- What the cells of two plays hold. -/
def TwoP (b1 b2 : Nat) (r k : Int) (d : Bool) (s : ByteArray) (r' k' : Int) (d' : Bool) (s' : ByteArray) (w : World) : Prop :=
  (w.cell? ⟨b1, 0, none⟩ = some (.int .i64 r) ∧ w.cell? ⟨b1, 1, none⟩ = some (.int .i64 k) ∧ w.cell? ⟨b1, 2, none⟩ = some (.bool d) ∧ w.cell? ⟨b1, 3, none⟩ = some (.string s)) ∧
  (w.cell? ⟨b2, 0, none⟩ = some (.int .i64 r') ∧ w.cell? ⟨b2, 1, none⟩ = some (.int .i64 k') ∧ w.cell? ⟨b2, 2, none⟩ = some (.bool d') ∧ w.cell? ⟨b2, 3, none⟩ = some (.string s'))
theorem twoP {b1 b2 : Nat} {t1 t2 : TypeId} {r k : Int} {d : Bool} {s : ByteArray} {r' k' : Int} {d' : Bool} {s' : ByteArray} {w w' : World} (p1 : Blk w b1 t1 #[.int .i64 r, .int .i64 k, .bool d, .string s]) (p2 : Blk w b2 t2 #[.int .i64 r', .int .i64 k', .bool d', .string s']) (hb : Below w.heap.size w w') : TwoP b1 b2 r k d s r' k' d' s' w' := by
  have q1 := (p1.kept hb p1.lt).cells
  have q2 := (p2.kept hb p2.lt).cells
  exact ⟨⟨q1 0, q1 1, q1 2, q1 3⟩, ⟨q2 0, q2 1, q2 2, q2 3⟩⟩
theorem callsC {P : Program} {f : FuncId} {args : Array Value} {e0 : Ending} {w0 W : World} (hb : Below w0.heap.size w0 W)
    (h : Calls P f args W fun e w' => e = e0 ∧ Below W.heap.size W w') : Calls P f args W fun e w' => e = e0 ∧ Below w0.heap.size w0 w' :=
  h.mono fun _ _ ⟨h1, h2⟩ => ⟨h1, hb.trans (h2.mono hb.size)⟩
set_option maxRecDepth 100000 in
set_option maxHeartbeats 4000000 in
theorem implComparePlays_any (r k : Int) (d : Bool) (s : ByteArray) (r' k' : Int) (d' : Bool) (s' : ByteArray) (W : World) :
    Calls Try.prog 50 #[.agg #[.int .i64 r, .int .i64 k, .bool d, .string s], .agg #[.int .i64 r', .int .i64 k', .bool d', .string s']] W fun e w' => e = .returned (.int .i64 (cmpOut r k d s r' k' d' s')) ∧ Below W.heap.size W w' := by
  have b0 := below_twoC (W := W) (a := #[.int .i64 r, .int .i64 k, .bool d, .string s]) (b := #[.int .i64 r', .int .i64 k', .bool d', .string s']) (s := 56) (t := 56)
  have p0 := (Blk.made W 56 #[.int .i64 r, .int .i64 k, .bool d, .string s]).alloc (.cells #[.int .i64 r', .int .i64 k', .bool d', .string s'] 56)
  have q0 := Blk.made (W.alloc (.cells #[.int .i64 r, .int .i64 k, .bool d, .string s] 56)) 56 #[.int .i64 r', .int .i64 k', .bool d', .string s']
  rw [World.size_alloc] at q0
  obtain ⟨w0, hw0⟩ : ∃ w0, (W.alloc (.cells #[.int .i64 r, .int .i64 k, .bool d, .string s] 56)).alloc (.cells #[.int .i64 r', .int .i64 k', .bool d', .string s'] 56) = w0 := ⟨_, rfl⟩
  rw [hw0] at b0 p0 q0
  have B0 := ShO.mk b0
  have HK := ShO.mk (fun w' (hb : Below w0.heap.size w0 w') => twoP p0 q0 hb)
  unfold TwoP at HK
  obtain ⟨x0, hx0⟩ : ∃ x, cmpD d d' = x := ⟨_, rfl⟩
  obtain ⟨x1, hx1⟩ : ∃ x, cmpI r r' = x := ⟨_, rfl⟩
  obtain ⟨x2, hx2⟩ : ∃ x, cmpI k k' = x := ⟨_, rfl⟩
  obtain ⟨x3, hx3⟩ : ∃ x, Lib.compareBytes s.data.toList s'.data.toList = x := ⟨_, rfl⟩
  have HR := ShO.mk (show cmpOut r k d s r' k' d' s' = orL [x0, x1, x2, x3] by unfold cmpOut; rw [hx0, hx1, hx2, hx3])
  have H0 := ShO.mk (show ∀ w, Calls Try.prog 105 #[.agg #[.int .i64 r, .int .i64 k, .bool d, .string s], .agg #[.int .i64 r', .int .i64 k', .bool d', .string s']] w (fun e w' => e = .returned (.int .i64 x0) ∧ Below w.heap.size w w') from fun w => hx0 ▸ compareDirections_any r k d s r' k' d' s' w)
  have H1 := ShO.mk (show ∀ w, Calls Try.prog 106 #[.int .i64 r, .int .i64 r'] w (fun e w' => e = .returned (.int .i64 x1) ∧ w = w') from fun w => hx1 ▸ compareI_any r r' w)
  have H2 := ShO.mk (show ∀ w, Calls Try.prog 106 #[.int .i64 k, .int .i64 k'] w (fun e w' => e = .returned (.int .i64 x2) ∧ w = w') from fun w => hx2 ▸ compareI_any k k' w)
  have H3 := ShO.mk (show ∀ w, Calls Try.prog 107 #[.string s, .string s'] w (fun e w' => e = .returned (.int .i64 x3) ∧ w' = w) from fun w => hx3 ▸ Try.strings_Compare s s' w)
  clear b0 p0 q0 hx0 hx1 hx2 hx3
  go_enter Try.func50, Try.ntmps50
  go_wp2
  (try rw [hw0])
  go_region_held3 (fun w' => (w'.cell? ⟨W.heap.size, 0, none⟩ = some (.int .i64 r) ∧ w'.cell? ⟨W.heap.size, 1, none⟩ = some (.int .i64 k) ∧ w'.cell? ⟨W.heap.size, 2, none⟩ = some (.bool d) ∧ w'.cell? ⟨W.heap.size, 3, none⟩ = some (.string s)) ∧
      (w'.cell? ⟨W.heap.size + 1, 0, none⟩ = some (.int .i64 r') ∧ w'.cell? ⟨W.heap.size + 1, 1, none⟩ = some (.int .i64 k') ∧ w'.cell? ⟨W.heap.size + 1, 2, none⟩ = some (.bool d') ∧ w'.cell? ⟨W.heap.size + 1, 3, none⟩ = some (.string s')))
    (with_reducible exact HK.out _ (by first | assumption | exact (Below.refl _ _).drew | exact Below.alloc (by assumption) (Below.size (by assumption)) _))
    (first
      | (go_at_call 105; with_reducible refine (callsC (w0 := w0) (by first | assumption | exact (Below.refl _ _).drew) (H0.out _)).mono ?_; rintro e w1 ⟨rfl, hb1⟩)
      | (go_at_call 106; with_reducible refine (H1.out _).mono ?_; rintro e w2 ⟨rfl, rfl⟩)
      | (go_at_call 106; with_reducible refine (H2.out _).mono ?_; rintro e w3 ⟨rfl, rfl⟩)
      | (go_at_call 107; with_reducible refine (H3.out _).mono ?_; rintro e w4 ⟨rfl, rfl⟩)
      | (go_at_call 104; refine (or_any x0 x1 x2 x3 _ (Blk.made _ _ _).cells).mono ?_; rintro e w5 ⟨rfl, rfl⟩))
  all_goals
    have HB1 := ShO.mk (B0.out.trans (hb1.mono B0.out.size))
    go_wp2
    go_ret
    rw [HR.out]
    exact ⟨rfl, HB1.out.alloc HB1.out.size _⟩
end Go.Proofs.Ytmkdbahdhobdjaa
