/-
  Placements: the board behind a play: the program's after, MakePlay of the program.
-/
import Derived.Test.YtmkdbahdhobdjaaDoorCZ
import Derived.Test.YtmkdbahdhobdjaaDoorBH
import Derived.Test.YtmkdbahdhobdjaaDoorBE
import Derived.Laws.IdiomRangeMap
namespace Go.Proofs.YtmkdbahdhobdjaaDoor
open Go.RowKit Go.Joins Go.Deep Go.Maps

theorem FrO.grown {w w' : World} {g n : Nat} {l : List UInt8} {row : Option Nat} (h : FrO w g n l) (hg : w.grownBy w' row) (hne : some g ≠ row) : FrO w' g n l := by
  obtain ⟨cs, h1, h2⟩ := h
  exact ⟨cs, (hg.block g (Array.getElem?_eq_some_iff.1 h1).1 hne).trans h1, h2⟩
theorem FrO.alloc {w : World} {g n : Nat} {l : List UInt8} (h : FrO w g n l) (o : Obj) : FrO (w.alloc o) g n l := h.grown (World.grownBy_alloc w o none) (by simp)
theorem FrO.ltB {w : World} {g n : Nat} {l : List UInt8} (h : FrO w g n l) : g < w.heap.size := by
  obtain ⟨cs, h1, _⟩ := h
  exact (Array.getElem?_eq_some_iff.1 h1).1
theorem FrO.len {w : World} {g n : Nat} {l : List UInt8} (h : FrO w g n l) : l.length = n := h.choose_spec.2.1
theorem Blk.grownC {w w' : World} {g : Nat} {t : TypeId} {cs : Array Value} {row : Option Nat} (h : Blk w g t cs) (hg : w.grownBy w' row) (hne : some g ≠ row) : Blk w' g t cs := (hg.block g h.lt hne).trans h
theorem idx_sq {d : Bool} {N A B i : Nat} : (sqOf d A B i).1 * (N : Int) + (sqOf d A B i).2 = ((idxP d N A (B + i) : Nat) : Int) := by
  unfold sqOf idxP flR flC
  cases d <;> simp [Int.natCast_add, Int.natCast_mul]
theorem sq_small {d : Bool} {A B i : Nat} (hA : A ≤ 15) (hB : B + i ≤ 15) : 0 ≤ (sqOf d A B i).1 ∧ (sqOf d A B i).1 ≤ 15 ∧ 0 ≤ (sqOf d A B i).2 ∧ (sqOf d A B i).2 ≤ 15 := by
  unfold sqOf flR flC
  cases d <;> simp <;> omega
theorem litU8_inj {a b : Int} (h : (DataW.lit (.int .u8 a) : DataW Unit) = .lit (.int .u8 b)) : a = b := by
  injection h with h
  injection h
theorem grown_setCell (w : World) (p : Addr) (v : Value) : w.grownBy (w.setCell p v) (some p.block) :=
  ⟨rfl, rfl, rfl, by simp [World.setCell], fun k hk hne => Below.heap_setCell w p v k (fun e => hne (by rw [e]))⟩
/-- The step of a range over the letters of a play. -/
theorem wpList_next_sq (w : World) {ops : Array Oper} {rest : List Oper} {o : Oper} {a : Act} {Q : Exit → Act → World → Prop} (hg : o.guard = none) (it : Operand) (hop : o.op = Op.next it false)
    (d : Bool) (A B : Nat) (s : ByteArray) (fr : List Nat) (D : DataW Unit) (hhas : ∀ kl, Maps.has D kl = true → ∃ i ∈ fr, kl = kq (sqOf d A B i)) (hhere : ∀ i ∈ fr, Maps.has D (kq (sqOf d A B i)) = true ∧ ∀ z, D.atKey (kq (sqOf d A B i)) z = .lit (.int .u8 ((atB s i).toNat : Int)))
    (hok : ∀ i ∈ fr, SqOk (sqOf d A B i)) (b r n : Nat) (left : Lit → Bool) (cnt : Nat)
    (hit : a.eval it = .pointer (some ⟨r, 0, none⟩)) (h : w.ranges Tryd.prog 104 (plainElem Tryd.prog 5) b r n D left cnt) (hleft : ∀ kl, left kl = true → Maps.has D kl = true)
    (hDone : cnt = 0 → (∀ kl, left kl = false) → wpList Tryd.prog ops Q rest (a.put o.dst (.tuple #[.bool false])) w)
    (hMore : ∀ (i : Nat) (w' : World) (cnt' : Nat), i ∈ fr → w'.ranges Tryd.prog 104 (plainElem Tryd.prog 5) b r n D (fun z => left z && !z.sameKey (kq (sqOf d A B i))) cnt' → cnt' < cnt →
      w.grownBy w' (some r) → w'.heap.size = w.heap.size → (Instr.entry (.pointer (some ⟨r, 0, none⟩))).run Tryd.prog w' = .ok (.tuple #[.agg #[.int .i64 (sqOf d A B i).1, .int .i64 (sqOf d A B i).2], .int .u8 ((atB s i).toNat : Int)]) w' →
      wpList Tryd.prog ops Q rest (a.put o.dst (.tuple #[.bool true, .agg #[.int .i64 (sqOf d A B i).1, .int .i64 (sqOf d A B i).2], .int .u8 ((atB s i).toNat : Int)])) w') :
    wpList Tryd.prog ops Q (o :: rest) a w := by
  refine wpList_next_ranges w hg it hop 104 sq_law (plainElem Tryd.prog 5) (fun v => v) (Value.int .u8) (fun key _ _ => ⟨key, rfl⟩) (fun v y hv => by obtain ⟨c, rfl, _⟩ := plainElem_int_inv Tryd.underlying5 hv; exact ⟨c, rfl⟩) b r n D left cnt hit h hDone ?_
  intro x c kl y w' cnt' hkey hlk hv hat hrg hlt hgr hsz hen
  obtain ⟨i, hi, rfl⟩ := hhas kl (hleft kl hlk)
  obtain rfl : x = .agg #[.int .i64 (sqOf d A B i).1, .int .i64 (sqOf d A B i).2] := sq_law.inj hkey (sq_key w (hok i hi))
  obtain ⟨c', ec, rfl, _⟩ := plainElem_int_inv Tryd.underlying5 hv
  cases ec
  obtain rfl := litU8_inj ((hat (.lit (.int .u8 0))).symm.trans ((hhere i hi).2 (.lit (.int .u8 0))))
  exact hMore i w' cnt' hi hrg hlt hgr hsz hen

/-- What a row of bytes holds while letters are laid on it. -/
structure Laid (d : Bool) (N A B : Nat) (c s : ByteArray) (fr : List Nat) (left : Lit → Bool) (l : List UInt8) : Prop where
  done : ∀ i ∈ fr, left (kq (sqOf d A B i)) = false → l[idxP d N A (B + i)]? = some (atB s i)
  rest : ∀ j, j < N * N → (∀ i ∈ fr, j ≠ idxP d N A (B + i)) → l[j]? = c.data.toList[j]?
theorem Laid.step {d : Bool} {N A B i : Nat} {c s : ByteArray} {fr : List Nat} {left : Lit → Bool} {l : List UInt8} (h : Laid d N A B c s fr left l) (w : World) (hA : A < N) (hfr : ∀ i ∈ fr, B + i < N) (hok : ∀ i ∈ fr, SqOk (sqOf d A B i)) (hi : i ∈ fr) (hl : l.length = N * N) :
    Laid d N A B c s fr (fun z => left z && !z.sameKey (kq (sqOf d A B i))) (l.set (idxP d N A (B + i)) (atB s i)) := by
  have hlt : idxP d N A (B + i) < l.length := by rw [hl]; exact idx_lt hA (hfr i hi)
  refine ⟨fun m hm h0 => ?_, fun j hj hne => ?_⟩
  · by_cases e : m = i
    · subst e
      rw [List.getElem?_set, if_pos rfl, if_pos hlt]
    · have hne : idxP d N A (B + i) ≠ idxP d N A (B + m) := fun e2 => e (by have := (idx_inj hA (hfr i hi) hA (hfr m hm) e2).2; omega)
      rw [List.getElem?_set, if_neg hne]
      refine h.done m hm ?_
      have hk : kq (sqOf d A B m) ≠ kq (sqOf d A B i) := fun e2 => e (sqOf_inj (kq_inj w (hok m hm) (hok i hi) e2))
      rw [Maps.sameKey_ne hk, Bool.not_false, Bool.and_true] at h0
      exact h0
  · rw [List.getElem?_set, if_neg (fun e => hne i hi e.symm)]
    exact h.rest j hj hne
theorem Laid.made {d : Bool} {N A B : Nat} {p c s f : ByteArray} {r k : Int} {left : Lit → Bool} {l : List UInt8} (h : Laid d N A B c s (frL f (A * N + B) s.size) left l) (hz : Fits N p c r k d s A B f) (hc : c.size = N * N) (hl : l.length = N * N) (h0 : ∀ kl, left kl = false) :
    (⟨l.toArray⟩ : ByteArray) = madeS d N f s (A * N + B) := by
  have hat : ∀ j, atB ⟨l.toArray⟩ j = (l[j]?).getD 0 := fun j => by unfold atB; rw [List.getD_eq_getElem?_getD]
  refine made_is hz hc (by show l.toArray.size = _; rw [List.size_toArray, hl]) (fun i hi => ?_) (fun j hj hne => ?_)
  · rw [hat, h.done i hi (h0 _)]
    rfl
  · rw [hat, h.rest j hj hne]
    unfold atB
    rw [List.getD_eq_getElem?_getD]

set_option maxRecDepth 100000 in
set_option maxHeartbeats 4000000 in
theorem after_any {N A B : Nat} {p c s f : ByteArray} {r k : Int} {d : Bool} {D : DataW Unit} {gm : Nat} {av : Option Addr} {an ac : Nat} (W : World) (hz : Fits N p c r k d s A B f) (h15 : N ≤ 15) (hc : c.size = N * N)
    (hM : LetM W gm d A B s (frL f (A * N + B) s.size) D) :
    Calls Tryd.prog 82 #[.agg #[.int .i64 r, .int .i64 k, .bool d, .string s, .int .i64 (N : Int), .string p, .string c, .slice av an ac, .map (some gm)]] W fun e w' => e = .returned (.agg #[.int .i64 (N : Int), .string p, .string (madeS d N f s (A * N + B))]) ∧ Below W.heap.size W w' := by
  have hfr : ∀ i ∈ frL f (A * N + B) s.size, B + i < N := fun i hi => by have := (frL_mem.1 hi).1; have := hz.hn; omega
  have HFR := ShO.mk hfr
  have HOK := ShO.mk (show ∀ i ∈ frL f (A * N + B) s.size, SqOk (sqOf d A B i) from fun i hi => sqOf_ok (by have := hz.hA; omega) (by have := hfr i hi; omega))
  have HA := ShO.mk hz.hA
  have H15 := ShO.mk h15
  have HCS := ShO.mk hc
  have HFIN := ShO.mk (fun (l : List UInt8) (left : Lit → Bool) h hl h0 => Laid.made (d := d) (N := N) (A := A) (B := B) (c := c) (s := s) (left := left) (l := l) h hz hc hl h0)
  obtain ⟨S, hS⟩ : ∃ S, madeS d N f s (A * N + B) = S := ⟨_, rfl⟩
  obtain ⟨fr, hfrq⟩ : ∃ fr, frL f (A * N + B) s.size = fr := ⟨_, rfl⟩
  rw [hfrq] at hM HFR HOK HFIN
  rw [hS] at HFIN ⊢
  clear hfr hz h15 hS hfrq
  -- the worlds ahead of the loop
  have ba : Below W.heap.size W ((W.alloc (.cells #[.int .i64 r, .int .i64 k, .bool d, .string s, .int .i64 (N : Int), .string p, .string c, .slice av an ac, .map (some gm)] 96)).alloc (.cells #[.int .i64 0, .string ⟨#[]⟩, .string ⟨#[]⟩] 27)) := ((Below.refl _ _).alloc (Nat.le_refl _) _).alloc (by simp) _
  have xa := (Blk.made W 96 #[.int .i64 r, .int .i64 k, .bool d, .string s, .int .i64 (N : Int), .string p, .string c, .slice av an ac, .map (some gm)]).alloc (.cells #[.int .i64 0, .string ⟨#[]⟩, .string ⟨#[]⟩] 27)
  have ra := Blk.made (W.alloc (.cells #[.int .i64 r, .int .i64 k, .bool d, .string s, .int .i64 (N : Int), .string p, .string c, .slice av an ac, .map (some gm)] 96)) 27 #[.int .i64 0, .string ⟨#[]⟩, .string ⟨#[]⟩]
  have sa : ((W.alloc (.cells #[.int .i64 r, .int .i64 k, .bool d, .string s, .int .i64 (N : Int), .string p, .string c, .slice av an ac, .map (some gm)] 96)).alloc (.cells #[.int .i64 0, .string ⟨#[]⟩, .string ⟨#[]⟩] 27)).heap.size = W.heap.size + 1 + 1 := by simp
  rw [World.size_alloc] at ra
  obtain ⟨wa, hwa⟩ : ∃ wa, (W.alloc (.cells #[.int .i64 r, .int .i64 k, .bool d, .string s, .int .i64 (N : Int), .string p, .string c, .slice av an ac, .map (some gm)] 96)).alloc (.cells #[.int .i64 0, .string ⟨#[]⟩, .string ⟨#[]⟩] 27) = wa := ⟨_, rfl⟩
  rw [hwa] at ba xa ra sa
  have b1 := ba.alloc ba.size (.cells #[.int .i64 (N : Int), .string p, .string c] 27)
  have x1 := xa.alloc (.cells #[.int .i64 (N : Int), .string p, .string c] 27)
  have r1 := ra.alloc (.cells #[.int .i64 (N : Int), .string p, .string c] 27)
  have v1 := Blk.made wa 27 #[.int .i64 (N : Int), .string p, .string c]
  have s1 : (wa.alloc (.cells #[.int .i64 (N : Int), .string p, .string c] 27)).heap.size = W.heap.size + 1 + 1 + 1 := by rw [World.size_alloc, sa]
  rw [sa] at v1
  obtain ⟨w1, hw1⟩ : ∃ w1, wa.alloc (.cells #[.int .i64 (N : Int), .string p, .string c] 27) = w1 := ⟨_, rfl⟩
  rw [hw1] at b1 x1 r1 v1 s1
  have hcv := run_bytes_of_string (P := Tryd.prog) w1 9 79 5 c Tryd.underlying9 Tryd.underlying79 Tryd.underlying5
  have hfb := fro_made w1 c (grownCap w1 c.size 0 5)
  have hB := ((Below.refl w1.heap.size w1).drew).alloc (Nat.le_refl _) (.cells (bytesRow c (grownCap w1 c.size 0 5)) 5 ((bytesRow c (grownCap w1 c.size 0 5)).size, (bytesRow c (grownCap w1 c.size 0 5)).size + 1))
  obtain ⟨w2, hw2⟩ : ∃ w2, w1.drew.alloc (.cells (bytesRow c (grownCap w1 c.size 0 5)) 5 ((bytesRow c (grownCap w1 c.size 0 5)).size, (bytesRow c (grownCap w1 c.size 0 5)).size + 1)) = w2 := ⟨_, rfl⟩
  rw [hw2] at hcv hfb hB
  obtain ⟨cap, hcap⟩ : ∃ cap, grownCap w1 c.size 0 5 = cap := ⟨_, rfl⟩
  rw [hcap, s1] at hcv
  rw [s1] at hfb
  have b2 : Below W.heap.size W w2 := b1.trans (hB.mono b1.size)
  have B2 := ShO.mk b2
  have X2 := ShO.mk (x1.kept hB x1.lt)
  have R2 := ShO.mk (r1.kept hB r1.lt)
  have V2 := ShO.mk (v1.kept hB v1.lt)
  have F2 := ShO.mk hfb
  have hM2 := hM.below b2
  have hown := hM2.own
  have HGM := ShO.mk hM.lt
  have HHAS := ShO.mk hM.has
  have HHERE := ShO.mk hM.here
  have ca := xa.cells
  have c1 := v1.cells
  have c2 := X2.out.cells
  clear hw2 hfb hB hcap xa ra b1 x1 r1 v1 b2 hM hM2 hc ba
  go_enter Tryd.func82, Tryd.ntmps82
  go_wp2_with (at_range; refine wpList_range_own _ rfl _ 94 rfl 104 5 sq_law Tryd.underlying94 (plainElem Tryd.prog 5) gm fr.length D rfl hown ?_; intro w3 hrg3 hg3 hs3)
  go_frame
  have B3 := ShO.mk (B2.out.grown hg3 B2.out.size (fun j hj => by cases hj))
  have R3 := ShO.mk (R2.out.grownC hg3 (by simp))
  have V3 := ShO.mk (V2.out.grownC hg3 (by simp))
  have F3 := ShO.mk (F2.out.grown hg3 (by simp))
  have HL2 := ShO.mk F2.out.ltB
  have HS2 := ShO.mk B2.out.size
  clear ca c1 c2 hcv hwa hw1 sa s1 hg3 hs3 hown
  go_loopw [5, 6] (fun _ _ wr => ∃ (left : Lit → Bool) (cnt : Nat) (l : List UInt8), wr.ranges Tryd.prog 104 (plainElem (H := Unit) Tryd.prog 5) gm w2.heap.size fr.length D left cnt ∧ Below W.heap.size W wr ∧
      ShO (Blk wr (W.heap.size + 1) 27 #[.int .i64 0, .string ⟨#[]⟩, .string ⟨#[]⟩]) ∧ ShO (Blk wr (W.heap.size + 1 + 1) 27 #[.int .i64 (N : Int), .string p, .string c]) ∧ ShO (FrO wr (W.heap.size + 1 + 1 + 1) c.size l) ∧
      ShO (∀ kl, left kl = true → Maps.has D kl = true) ∧ ShO (Laid d N A B c s fr left l))
    (fun _ _ wr => wr.rangeLeft gm w2.heap.size)
  case atStart => exact ⟨_, _, _, hrg3, B3.out, R3, V3, F3, ⟨fun _ h => h⟩, ⟨⟨fun i hi h => Bool.noConfusion ((HHERE.out i hi).1.symm.trans h), fun j _ _ => rfl⟩⟩⟩
  case round =>
    obtain ⟨left, cnt, l, hrg, hbw, hr, hv, hf, hlh, hlay⟩ := hrel
    have HBW := ShO.mk hbw
    clear hrg3 hbw
    go_wp2_with (at_next; refine wpList_next_sq _ rfl _ rfl d A B s fr D HHAS.out HHERE.out HOK.out gm w2.heap.size fr.length left cnt rfl hrg hlh.out ?_ ?_)
    · intro _ hl0
      have hfin := HFIN.out l left hlay.out (hf.out.len.trans HCS.out) hl0
      have hcf := conv_frO (cap := cap) hf.out
      rw [hfin] at hcf
      have cv := hv.out.cells
      have mv := hv.out.marks
      have v5 := hv.out.stored 2 (.string S)
      have r5 := hr.out.other (p := ⟨W.heap.size + 1 + 1, 2, none⟩) (by show W.heap.size + 1 ≠ W.heap.size + 1 + 1; omega) (.string S)
      have b5 : Below W.heap.size W (wr.setCell ⟨W.heap.size + 1 + 1, 2, none⟩ (.string S)) := HBW.out.setCell (p := ⟨W.heap.size + 1 + 1, 2, none⟩) (by show W.heap.size ≤ W.heap.size + 1 + 1; omega) _
      obtain ⟨w5, hw5⟩ : ∃ w5, wr.setCell ⟨W.heap.size + 1 + 1, 2, none⟩ (.string S) = w5 := ⟨_, rfl⟩
      rw [hw5] at v5 r5 b5
      have B5 := ShO.mk b5
      have c5 : ∀ j, w5.cell? ⟨W.heap.size + 1 + 1, j, none⟩ = (#[Value.int .i64 (N : Int), Value.string p, Value.string S] : Array Value)[j]? := v5.cells
      have rc := r5.cells
      have rf := r5.marks
      clear hrg hlay hlh hf hl0 hfin b5 v5 r5
      go_wp2
      refine bodyPost_ret (v := .agg #[.int .i64 (N : Int), .string p, .string S]) (by simp [results, Tryd.results82, go_sem, rc]) rfl ?_
      exact ⟨rfl, below_threeO B5.out (Nat.le_succ _) _ _ _⟩
    · intro i w4 cnt4 hi hrg4 hlt hg4 hs4 hen
      have hin := HFR.out i hi
      have hidx := idx_sq (d := d) (N := N) (A := A) (B := B) (i := i)
      have hJlt := idx_lt (d := d) HA.out hin
      obtain ⟨a0, a1, e0, e1⟩ := sq_small (d := d) (A := A) (B := B) (i := i) (by have := HA.out; have := H15.out; omega) (by have := H15.out; omega)
      have hst := hlay.out.step w4 HA.out HFR.out HOK.out hi (hf.out.len.trans HCS.out)
      obtain ⟨a, ha⟩ : ∃ a, (sqOf d A B i).1 = a := ⟨_, rfl⟩
      obtain ⟨b, hb⟩ : ∃ b, (sqOf d A B i).2 = b := ⟨_, rfl⟩
      obtain ⟨J, hJ⟩ : ∃ J, idxP d N A (B + i) = J := ⟨_, rfl⟩
      obtain ⟨u, hu⟩ : ∃ u, atB s i = u := ⟨_, rfl⟩
      rw [ha] at hidx hen a0 a1
      rw [hb] at hidx hen e0 e1
      rw [hJ] at hidx hJlt hst
      rw [hu] at hen hst
      simp only [ha, hb, hu]
      have hNN : N * N ≤ 15 * 15 := Nat.mul_le_mul H15.out H15.out
      have hq0 : 0 ≤ a * (N : Int) := Int.mul_nonneg a0 (by omega)
      have hwm : IntKind.i64.wrap (a * (N : Int)) = a * (N : Int) := IntWalk.i64_in _ (by omega)
      obtain ⟨Q, hQ⟩ : ∃ Q, a * (N : Int) = Q := ⟨_, rfl⟩
      rw [hQ] at hidx hq0 hwm
      have hwq : IntKind.i64.wrap (Q + b) = (J : Int) := by rw [hidx]; exact IntWalk.i64_in _ (by omega)
      have hJc : J < c.size := by rw [HCS.out]; exact hJlt
      have hJ0 : (0 : Int) ≤ (J : Int) := by omega
      have hJ1 : (J : Int) < (c.size : Int) := by omega
      have v4 := hv.out.grownC hg4 (by simp; have := HL2.out; omega)
      have r4 := hr.out.grownC hg4 (by simp; have := HL2.out; omega)
      have f4 := hf.out.grown hg4 (by simp; have := HL2.out; omega)
      have b4 := HBW.out.grown hg4 HBW.out.size (fun j hj => by cases hj; exact HS2.out)
      have v5 := v4.alloc (.cells #[.int .i64 a, .int .i64 b] 104)
      have r5 := r4.alloc (.cells #[.int .i64 a, .int .i64 b] 104)
      have f5 := f4.alloc (.cells #[.int .i64 a, .int .i64 b] 104)
      have b5 := b4.alloc b4.size (.cells #[.int .i64 a, .int .i64 b] 104)
      have rg5 := hrg4.alloc (.cells #[.int .i64 a, .int .i64 b] 104)
      have q5 := (Blk.made w4 104 #[.int .i64 a, .int .i64 b]).cells
      obtain ⟨w5, hw5⟩ : ∃ w5, w4.alloc (.cells #[.int .i64 a, .int .i64 b] 104) = w5 := ⟨_, rfl⟩
      rw [hw5] at v5 r5 f5 b5 rg5 q5
      rw [hs4] at q5
      have cv := v5.cells
      obtain ⟨o, ho⟩ : ∃ o, l[J]? = some o := ⟨_, List.getElem?_eq_getElem (by rw [f5.len]; exact hJc)⟩
      have x0 := f5.cell ho
      have m0 := f5.mark hJc
      have V6 := ShO.mk (v5.other (p := ⟨W.heap.size + 1 + 1 + 1, J, none⟩) (by show W.heap.size + 1 + 1 ≠ W.heap.size + 1 + 1 + 1; omega) (.int .u8 (u.toNat : Int)))
      have R6 := ShO.mk (r5.other (p := ⟨W.heap.size + 1 + 1 + 1, J, none⟩) (by show W.heap.size + 1 ≠ W.heap.size + 1 + 1 + 1; omega) (.int .u8 (u.toNat : Int)))
      have F6 := ShO.mk (f5.store hJc u)
      have B6 := ShO.mk (b5.setCell (p := ⟨W.heap.size + 1 + 1 + 1, J, none⟩) (by show W.heap.size ≤ W.heap.size + 1 + 1 + 1; omega) (.int .u8 (u.toNat : Int)))
      have hrg6 := rg5.kept (grown_setCell w5 ⟨W.heap.size + 1 + 1 + 1, J, none⟩ (.int .u8 (u.toNat : Int))) (by simp; have := HGM.out; omega) (by simp; have := HL2.out; omega)
      have HLH6 := ShO.mk (show ∀ kl, (fun z => left z && !z.sameKey (kq (sqOf d A B i))) kl = true → Maps.has D kl = true from fun kl h => hlh.out kl (by rw [Bool.and_eq_true] at h; exact h.1))
      have HST := ShO.mk hst
      have HLT := ShO.mk hlt
      obtain ⟨w6, hw6⟩ : ∃ w6, w5.setCell ⟨W.heap.size + 1 + 1 + 1, J, none⟩ (.int .u8 (u.toNat : Int)) = w6 := ⟨_, rfl⟩
      rw [hw6] at V6 R6 F6 B6 hrg6
      have HRG6 := ShO.mk hrg6
      have HRG := ShO.mk hrg
      clear hrg hrg4 hrg6 rg5 hlay hlh hf hr hv v4 r4 f4 b4 v5 r5 f5 b5 hst hlt hg4 ho hidx hJlt hNN hi hin ha hb hJ hu
      go_wp2
      go_roundw
      case rel => exact ⟨_, cnt4, _, HRG6.out, B6.out, R6, V6, F6, HLH6, HST⟩
      case measure => rw [HRG6.out.left_eq, HRG.out.left_eq]; exact HLT.out
/-- A range over no map, and its step. -/
theorem wpList_range_nilQ (w : World) {w' : World} {ops : Array Oper} {rest : List Oper} {o : Oper} {a : Act} {Q : Exit → Act → World → Prop} (hg : o.guard = none) (m : Operand) (t : TypeId) (hop : o.op = Op.range t m) (k e : TypeId) (ht : Tryd.prog.underlying t = some (.map k e))
    (hm : a.eval m = .map none) (hw : w.alloc (.mapIter none 0 #[] 0) = w') (hK : wpList Tryd.prog ops Q rest (a.put o.dst (.pointer (some ⟨w.heap.size, 0, none⟩))) w') : wpList Tryd.prog ops Q (o :: rest) a w := by
  refine wpList_plain hg fun K' hK' => ?_
  unfold Oper.wp
  simp [execOp, hop, hm, run_range_nilMap w t k e ht, Result.andThen]
  rw [hw]
  exact hK' _ _ hK
theorem wpList_next_nilQ (w : World) {ops : Array Oper} {rest : List Oper} {o : Oper} {a : Act} {Q : Exit → Act → World → Prop} (hg : o.guard = none) (it : Operand) (hop : o.op = Op.next it false) (r : Nat)
    (hit : a.eval it = .pointer (some ⟨r, 0, none⟩)) (h : (Instr.next (.pointer (some ⟨r, 0, none⟩)) false o.type).run Tryd.prog w = .ok (.tuple #[.bool false]) w) (hK : wpList Tryd.prog ops Q rest (a.put o.dst (.tuple #[.bool false])) w) : wpList Tryd.prog ops Q (o :: rest) a w := by
  refine wpList_plain hg fun K' hK' => ?_
  unfold Oper.wp
  simp [execOp, hop, hit, h, Result.andThen]
  exact hK' _ _ hK
set_option maxRecDepth 100000 in
set_option maxHeartbeats 4000000 in
theorem after_nil (n : Int) (p c : ByteArray) (W : World) :
    Calls Tryd.prog 82 #[.agg #[.int .i64 0, .int .i64 0, .bool false, .string ⟨#[]⟩, .int .i64 n, .string p, .string c, .slice none 0 0, .map none]] W fun e w' => e = .returned (.agg #[.int .i64 n, .string p, .string c]) ∧ Below W.heap.size W w' := by
  have ba : Below W.heap.size W ((W.alloc (.cells #[.int .i64 0, .int .i64 0, .bool false, .string ⟨#[]⟩, .int .i64 n, .string p, .string c, .slice none 0 0, .map none] 96)).alloc (.cells #[.int .i64 0, .string ⟨#[]⟩, .string ⟨#[]⟩] 27)) := ((Below.refl _ _).alloc (Nat.le_refl _) _).alloc (by simp) _
  have xa := (Blk.made W 96 #[.int .i64 0, .int .i64 0, .bool false, .string ⟨#[]⟩, .int .i64 n, .string p, .string c, .slice none 0 0, .map none]).alloc (.cells #[.int .i64 0, .string ⟨#[]⟩, .string ⟨#[]⟩] 27)
  have ra := Blk.made (W.alloc (.cells #[.int .i64 0, .int .i64 0, .bool false, .string ⟨#[]⟩, .int .i64 n, .string p, .string c, .slice none 0 0, .map none] 96)) 27 #[.int .i64 0, .string ⟨#[]⟩, .string ⟨#[]⟩]
  have sa : ((W.alloc (.cells #[.int .i64 0, .int .i64 0, .bool false, .string ⟨#[]⟩, .int .i64 n, .string p, .string c, .slice none 0 0, .map none] 96)).alloc (.cells #[.int .i64 0, .string ⟨#[]⟩, .string ⟨#[]⟩] 27)).heap.size = W.heap.size + 1 + 1 := by simp
  rw [World.size_alloc] at ra
  obtain ⟨wa, hwa⟩ : ∃ wa, (W.alloc (.cells #[.int .i64 0, .int .i64 0, .bool false, .string ⟨#[]⟩, .int .i64 n, .string p, .string c, .slice none 0 0, .map none] 96)).alloc (.cells #[.int .i64 0, .string ⟨#[]⟩, .string ⟨#[]⟩] 27) = wa := ⟨_, rfl⟩
  rw [hwa] at ba xa ra sa
  have b1 := ba.alloc ba.size (.cells #[.int .i64 n, .string p, .string c] 27)
  have x1 := xa.alloc (.cells #[.int .i64 n, .string p, .string c] 27)
  have r1 := ra.alloc (.cells #[.int .i64 n, .string p, .string c] 27)
  have v1 := Blk.made wa 27 #[.int .i64 n, .string p, .string c]
  have s1 : (wa.alloc (.cells #[.int .i64 n, .string p, .string c] 27)).heap.size = W.heap.size + 1 + 1 + 1 := by rw [World.size_alloc, sa]
  rw [sa] at v1
  obtain ⟨w1, hw1⟩ : ∃ w1, wa.alloc (.cells #[.int .i64 n, .string p, .string c] 27) = w1 := ⟨_, rfl⟩
  rw [hw1] at b1 x1 r1 v1 s1
  have hcv := run_bytes_of_string (P := Tryd.prog) w1 9 79 5 c Tryd.underlying9 Tryd.underlying79 Tryd.underlying5
  have hfb := fro_made w1 c (grownCap w1 c.size 0 5)
  have hB := ((Below.refl w1.heap.size w1).drew).alloc (Nat.le_refl _) (.cells (bytesRow c (grownCap w1 c.size 0 5)) 5 ((bytesRow c (grownCap w1 c.size 0 5)).size, (bytesRow c (grownCap w1 c.size 0 5)).size + 1))
  obtain ⟨w2, hw2⟩ : ∃ w2, w1.drew.alloc (.cells (bytesRow c (grownCap w1 c.size 0 5)) 5 ((bytesRow c (grownCap w1 c.size 0 5)).size, (bytesRow c (grownCap w1 c.size 0 5)).size + 1)) = w2 := ⟨_, rfl⟩
  rw [hw2] at hcv hfb hB
  obtain ⟨cap, hcap⟩ : ∃ cap, grownCap w1 c.size 0 5 = cap := ⟨_, rfl⟩
  rw [hcap, s1] at hcv
  rw [s1] at hfb
  have b2 : Below W.heap.size W w2 := b1.trans (hB.mono b1.size)
  have c2 := (x1.kept hB x1.lt).cells
  have b3 := b2.alloc b2.size (.mapIter none 0 #[] 0)
  have v3 := (v1.kept hB v1.lt).alloc (.mapIter none 0 #[] 0)
  have r3 := (r1.kept hB r1.lt).alloc (.mapIter none 0 #[] 0)
  have f3 := hfb.alloc (.mapIter none 0 #[] 0)
  have hnx : (Instr.next (.pointer (some ⟨w2.heap.size, 0, none⟩)) false 0).run Tryd.prog (w2.alloc (.mapIter none 0 #[] 0)) = .ok (.tuple #[.bool false]) (w2.alloc (.mapIter none 0 #[] 0)) := run_next_nilMap (P := Tryd.prog) w2 0 0 0 #[]
  obtain ⟨w3, hw3⟩ : ∃ w3, w2.alloc (.mapIter none 0 #[] 0) = w3 := ⟨_, rfl⟩
  rw [hw3] at b3 v3 r3 f3 hnx
  have hcf : (convert 79 9 (.slice (some ⟨W.heap.size + 1 + 1 + 1, 0, none⟩) c.size cap)).run Tryd.prog w3 = .ok (.string c) w3 := conv_frO (cap := cap) f3
  have cv := v3.cells
  have mv := v3.marks
  have v5 := v3.stored 2 (.string c)
  have r5 := r3.other (p := ⟨W.heap.size + 1 + 1, 2, none⟩) (by show W.heap.size + 1 ≠ W.heap.size + 1 + 1; omega) (.string c)
  have b5 : Below W.heap.size W (w3.setCell ⟨W.heap.size + 1 + 1, 2, none⟩ (.string c)) := b3.setCell (p := ⟨W.heap.size + 1 + 1, 2, none⟩) (by show W.heap.size ≤ W.heap.size + 1 + 1; omega) _
  obtain ⟨w5, hw5⟩ : ∃ w5, w3.setCell ⟨W.heap.size + 1 + 1, 2, none⟩ (.string c) = w5 := ⟨_, rfl⟩
  rw [hw5] at v5 r5 b5
  have B5 := ShO.mk b5
  have c5 : ∀ j, w5.cell? ⟨W.heap.size + 1 + 1, j, none⟩ = (#[Value.int .i64 n, Value.string p, Value.string c] : Array Value)[j]? := v5.cells
  have rc := r5.cells
  have rf := r5.marks
  have ca := xa.cells
  have c1 := v1.cells
  clear hw2 hfb hB hcap xa ra b1 x1 r1 v1 b2 b3 v3 r3 f3 v5 r5 b5 ba
  go_enter Tryd.func82, Tryd.ntmps82
  go_wp2_with (at_range; refine wpList_range_nilQ _ rfl _ 94 rfl 104 5 Tryd.underlying94 rfl hw3 ?_)
  go_frame
  go_loopw [5, 6] (fun _ _ wr => wr = w3) (fun _ _ _ => 0)
  case atStart => rfl
  case round =>
    subst hrel
    go_wp2_with (at_next; refine wpList_next_nilQ _ rfl _ rfl w2.heap.size rfl hnx ?_)
    refine bodyPost_ret (v := .agg #[.int .i64 n, .string p, .string c]) (by simp [results, Tryd.results82, go_sem, rc]) rfl ?_
    exact ⟨rfl, below_threeO B5.out (Nat.le_succ _) _ _ _⟩

/-! ### MakePlay -/
def makeOut (n : Int) (p c : ByteArray) (r k : Int) (d : Bool) (s : ByteArray) : Bd × Int :=
  if okPl n p c r k d s = true then ((n, p, madeS d n.toNat (flS d n.toNat c) s ((flR d r k).toNat * n.toNat + (flC d r k).toNat)), 0) else (noBd, 1)
theorem makeOut_no {n : Int} {p c s : ByteArray} {r k : Int} {d : Bool} (h : okPl n p c r k d s = false) : makeOut n p c r k d s = (noBd, 1) := by
  unfold makeOut
  rw [if_neg (by rw [h]; decide)]
theorem makeOut_yes {N A B : Nat} {p c s f : ByteArray} {r k : Int} {d : Bool} (h : Fits N p c r k d s A B f) : makeOut (N : Int) p c r k d s = (((N : Int), p, madeS d N f s (A * N + B)), 0) := by
  unfold makeOut
  rw [if_pos h.okP, h.r_is, h.k_is, flR_flR, flC_flC, h.f_is]
  simp
set_option maxRecDepth 100000 in
set_option maxHeartbeats 4000000 in
theorem implMakePlay_any (n : Int) (p c s : ByteArray) (r k : Int) (d : Bool) (W : World) (hs : s.size ≤ 1048576) (hT : Tabs W) :
    Calls Tryd.prog 43 #[.agg #[.int .i64 n, .string p, .string c], .agg #[.int .i64 r, .int .i64 k, .bool d, .string s]] W fun e w' => e = .returned (bdRes (makeOut n p c r k d s)) ∧ Below W.heap.size W w' := by
  have b0 := (below_placed (W := W) (n := n) (p := p) (c := c) (r := r) (k := k) (d := d) (s := s)).alloc (by simp; omega) (.cells #[.int .i64 0, .string ⟨#[]⟩, .string ⟨#[]⟩] 27)
  have q0 := Blk.made ((W.alloc (.cells #[.int .i64 n, .string p, .string c] 27)).alloc (.cells #[.int .i64 r, .int .i64 k, .bool d, .string s] 44)) 27 #[.int .i64 0, .string ⟨#[]⟩, .string ⟨#[]⟩]
  simp only [World.size_alloc] at q0
  have B0 := ShO.mk b0
  have Q0 := ShO.mk q0
  have HT := ShO.mk hT
  clear hT b0 q0
  go_enter Tryd.func43, Tryd.ntmps43
  go_wp2_with fail
  refine (placementOf_any n p c s r k d _ hs (HT.out.on B0.out)).mono ?_
  rintro e w1 ⟨X, code, rfl, h⟩
  have HI := ShO.mk h.info
  have B1 := ShO.mk (B0.out.trans (h.1.mono B0.out.size))
  have Q1 := ShO.mk (Q0.out.kept h.1 Q0.out.lt)
  obtain ⟨-, ⟨hok, rfl, rfl⟩ | ⟨N, A, B, f, v, gm, D, rfl, hz, rfl, rfl, hq, hM, -⟩⟩ := h
  · have HR := ShO.mk (makeOut_no hok)
    clear hok
    go_wp2_with (first
      | (refine wpList_load_row rfl 96 _ rfl w1.heap.size (by rfl) 96 noX (0, 0) _ (Blk.row (Blk.made _ _ _) _) Tryd.underlying96 rfl (plX_info _ _ _ _ _ _ _ _ _) ?_)
      | (refine wpList_store_row rfl 96 _ _ rfl w1.heap.size noX (by rfl) (by rfl) 96 _ (Blk.made _ _ _) HI.out.2.1 (by rw [HI.out.1]; rfl) HI.out.2.2 ?_))
    refine (after_nil 0 ⟨#[]⟩ ⟨#[]⟩ _).mono ?_
    rintro e w3 ⟨rfl, hb3⟩
    have b2 := below_row (B1.out.alloc B1.out.size (.cells #[.int .i64 0, .int .i64 0, .bool false, .string ⟨#[]⟩, .int .i64 0, .string ⟨#[]⟩, .string ⟨#[]⟩, .slice none 0 0, .map none] 96)) B1.out.size noX
    have q2 := (Q1.out.alloc (.cells #[.int .i64 0, .int .i64 0, .bool false, .string ⟨#[]⟩, .int .i64 0, .string ⟨#[]⟩, .string ⟨#[]⟩, .slice none 0 0, .map none] 96)).row_other (g' := w1.heap.size) (Nat.ne_of_lt Q1.out.lt) noX
    have B3 := ShO.mk (b2.trans (hb3.mono b2.size))
    have q3 := q2.kept hb3 q2.lt
    have rc := q3.cells
    have rf := q3.marks
    clear b2 q2 q3 hb3
    go_wp2
    refine bodyPost_ret (v := .tuple #[.agg #[.int .i64 0, .string ⟨#[]⟩, .string ⟨#[]⟩], .int .i64 1]) (by simp [results, Tryd.results43, go_sem, rc]) rfl ?_
    rw [HR.out]
    exact ⟨rfl, below_threeO B3.out (by show W.heap.size ≤ W.heap.size + 1 + 1; omega) _ _ _⟩
  · obtain ⟨va, vc, rfl, -⟩ := hq.form
    obtain ⟨N', hN, h5, h15, hp, hc⟩ := okBd_nat hz.ok
    obtain rfl : N' = N := by omega
    have HR := ShO.mk (makeOut_yes hz)
    have HM := ShO.mk hM
    have HZ := ShO.mk hz
    have H15 := ShO.mk h15
    have HC := ShO.mk hc
    clear hq hz h15 hc hp h5 hN hM
    obtain ⟨nl, hnl⟩ : ∃ nl, (newL d A B (frL f (A * N' + B) s.size)).length = nl := ⟨_, rfl⟩
    rw [hnl] at HI
    go_wp2_with (first
      | (refine wpList_load_row rfl 96 _ rfl w1.heap.size (by rfl) 96 (plX r k d s (N' : Int) p c (.slice va nl vc) (.map (some gm))) (0, 0) _ (Blk.row (Blk.made _ _ _) _) Tryd.underlying96 rfl (plX_info _ _ _ _ _ _ _ _ _) ?_)
      | (refine wpList_store_row rfl 96 _ _ rfl w1.heap.size (plX r k d s (N' : Int) p c (.slice va nl vc) (.map (some gm))) (by rfl) (by rfl) 96 _ (Blk.made _ _ _) HI.out.2.1 (by rw [HI.out.1]; rfl) HI.out.2.2 ?_))
    have hb2 : Below w1.heap.size w1 ((w1.alloc (.cells #[.int .i64 0, .int .i64 0, .bool false, .string ⟨#[]⟩, .int .i64 0, .string ⟨#[]⟩, .string ⟨#[]⟩, .slice none 0 0, .map none] 96)).setRow w1.heap.size (plX r k d s (N' : Int) p c (.slice va nl vc) (.map (some gm)))) := below_row ((Below.refl _ _).alloc (Nat.le_refl _) _) (Nat.le_refl _) _
    refine (after_any _ HZ.out H15.out HC.out (HM.out.below hb2)).mono ?_
    rintro e w3 ⟨rfl, hb3⟩
    have b2 := B1.out.trans (hb2.mono B1.out.size)
    have q2 := Q1.out.kept hb2 Q1.out.lt
    have B3 := ShO.mk (b2.trans (hb3.mono b2.size))
    have q3 := q2.kept hb3 q2.lt
    have rc := q3.cells
    have rf := q3.marks
    obtain ⟨S, hS⟩ : ∃ S, madeS d N' f s (A * N' + B) = S := ⟨_, rfl⟩
    rw [hS] at HR ⊢
    clear b2 q2 q3 hb3 hb2 hS
    go_wp2
    refine bodyPost_ret (v := .tuple #[.agg #[.int .i64 (N' : Int), .string p, .string S], .int .i64 0]) (by simp [results, Tryd.results43, go_sem, rc]) rfl ?_
    rw [HR.out]
    exact ⟨rfl, below_threeO B3.out (by show W.heap.size ≤ W.heap.size + 1 + 1; omega) _ _ _⟩
end Go.Proofs.YtmkdbahdhobdjaaDoor
