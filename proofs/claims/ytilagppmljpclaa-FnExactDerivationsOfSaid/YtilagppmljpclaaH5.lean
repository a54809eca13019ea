/-
  The laws' helpers on grammars: copies of stems and of grammars.
-/
import Derived.Test.YtilagppmljpclaaH4
namespace Go.Proofs.Ytilagppmljpclaa
open Go.ChangeShapes Go.WideShapes Go.ChangeAt Go.RowKit Go.Joins Go.Deep


set_option maxHeartbeats 2000000 in
theorem toStem_any {u : Value} (n : ByteArray) (us : List ByteArray) (w : World) (hu : Strs w u us) (hn : us.length ≤ 1048576) :
    Calls Try.prog 127 #[.agg #[.string n, u]] w fun e w' => ∃ a cap, e = .returned (.agg #[.string n, .slice a us.length cap]) ∧ OwnS w.heap.size w' (.slice a us.length cap) us ∧ Below w.heap.size w w' := by
  have HU := Shh.mk (((hu.alloc (.cells #[.string n, u] 168)).alloc (.cells #[.string ⟨#[]⟩, .slice none 0 0] 111)).alloc (.cells #[.string n, .slice none 0 0] 111))
  obtain ⟨ua, uc, rfl, -⟩ := hu
  go_enter Try.func127, Try.ntmps127
  go_wp2_with fail
  refine (toStringS_any _ HU.out hn).mono ?_
  rintro e w1 ⟨u1, rfl, ho, hb1⟩
  obtain ⟨a, cap, rfl, hc1, hc2, -⟩ := own_form ho
  have hz1 : w.heap.size + 2 < w1.heap.size := by have := hb1.size; simp at this; omega
  have q1 := ((Blk.made (w.alloc (.cells #[.string n, .slice ua us.length uc] 168)) 111 #[.string ⟨#[]⟩, .slice none 0 0]).alloc (.cells #[.string n, .slice none 0 0] 111)).kept hb1 (by simp)
  have q2 := (Blk.made ((w.alloc (.cells #[.string n, .slice ua us.length uc] 168)).alloc (.cells #[.string ⟨#[]⟩, .slice none 0 0] 111)) 111 #[.string n, .slice none 0 0]).kept hb1 (by simp)
  simp only [World.size_alloc] at q1 q2 ho
  have HO := Shh.mk ho
  have c1 := q1.cells
  have c2 := q2.cells
  have m1 := q1.marks
  have m2 := q2.marks
  have hB1 := Shh.mk ((((((Below.refl w.heap.size w).alloc (Nat.le_refl _) (.cells #[.string n, .slice ua us.length uc] 168)).alloc (by simp) (.cells #[.string ⟨#[]⟩, .slice none 0 0] 111)).alloc (by simp; omega) (.cells #[.string n, .slice none 0 0] 111))).trans (hb1.mono (by simp; omega)))
  clear ho hb1 q1 q2
  go_wp2
  refine bodyPost_ret (v := .agg #[.string n, .slice a us.length cap]) (by simp [results, Try.results127, go_sem, c1]) rfl ?_
  refine ⟨a, cap, rfl, ?_, ?_⟩
  · exact (((HO.out.off (by omega) _ _).off (by omega) _ _).off (by omega) _ _).lower (by omega)
  · exact ((hB1.out.setCell (by simp; omega) _).setCell (by simp) _).setCell (by simp) _

/-- A block that holds the first k stems. -/
def StmRow (wr : World) (g : Nat) (ss : List Stm) (k : Nat) : Prop :=
  ∃ cur, Blk wr g 111 cur ∧ cur.size = ss.length * 2 ∧ ∀ j, j < k → cur[j * 2]? = some (.string (stmG ss j).word) ∧ ∃ u, cur[j * 2 + 1]? = some u ∧ OwnS (g + 1) wr u (stmG ss j).uses
theorem StmRow.is {wr : World} {g : Nat} {ss : List Stm} {k j : Nat} (h : StmRow wr g ss k) (hj : j < k) : StmIs wr g (0 + j * 2) (stmG ss j) := by
  obtain ⟨cur, hb, hs, hc⟩ := h
  rw [Nat.zero_add]
  obtain ⟨h0, u, h1, h2⟩ := hc j hj
  exact ⟨(hb.cells _).trans h0, u, (hb.cells _).trans h1, h2.strs⟩
theorem StmRow.kept {wr w' : World} {g : Nat} {ss : List Stm} {k : Nat} (h : StmRow wr g ss k) (hb : Below wr.heap.size wr w') : StmRow w' g ss k := by
  obtain ⟨cur, h1, h2, h3⟩ := h
  exact ⟨cur, h1.kept hb h1.lt, h2, fun j hj => ⟨(h3 j hj).1, by obtain ⟨u, e, ho⟩ := (h3 j hj).2; exact ⟨u, e, ho.kept hb⟩⟩⟩
theorem StmRow.grow {wr : World} {g : Nat} {ss : List Stm} {k : Nat} (h : StmRow wr g ss k) (hk : k < ss.length) {x : Stm} (hx : stmG ss k = x) {u : Value} (hu : OwnS (g + 1) wr u x.uses) :
    StmRow ((wr.setCell ⟨g, k * 2, none⟩ (.string x.word)).setCell ⟨g, k * 2 + 1, none⟩ u) g ss (k + 1) := by
  obtain ⟨cur, hb, hs, hc⟩ := h
  refine ⟨_, (hb.stored _ _).stored _ _, by simpa using hs, fun j hj => ?_⟩
  rw [set_get _ (by simp; omega), set_get _ (by omega), set_get _ (by simp; omega), set_get _ (by omega)]
  rcases Nat.lt_or_ge j k with h1 | h1
  · rw [if_neg (by omega), if_neg (by omega), if_neg (by omega), if_neg (by omega)]
    obtain ⟨h0, u', e, ho⟩ := hc j h1
    exact ⟨h0, u', e, (ho.off (by omega) _ _).off (by omega) _ _⟩
  · obtain rfl : j = k := by omega
    rw [if_neg (by omega), if_pos rfl, if_pos rfl, hx]
    exact ⟨rfl, u, rfl, (hu.off (by omega) _ _).off (by omega) _ _⟩
theorem StmRow.free {wr : World} {g : Nat} {ss : List Stm} {k : Nat} (h : StmRow wr g ss k) (hk : k < ss.length) :
    (∃ y0 y1, wr.cell? ⟨g, k * 2, none⟩ = some y0 ∧ wr.cell? ⟨g, k * 2 + 1, none⟩ = some y1) ∧ ∀ j, wr.frozen? ⟨g, j, none⟩ = false := by
  obtain ⟨cur, hb, hs, _⟩ := h
  exact ⟨⟨_, _, (hb.cells _).trans (Array.getElem?_eq_getElem (by omega)), (hb.cells _).trans (Array.getElem?_eq_getElem (by omega))⟩, hb.marks⟩
theorem StmRow.off {wr : World} {g : Nat} {ss : List Stm} {k : Nat} (h : StmRow wr g ss k) {b : Nat} (hb : b < g) (j : Nat) (u : Value) : StmRow (wr.setCell ⟨b, j, none⟩ u) g ss k := by
  obtain ⟨cur, h1, h2, h3⟩ := h
  exact ⟨cur, h1.other (p := ⟨b, j, none⟩) (fun e => by simp only at e; omega) u, h2, fun i hi => ⟨(h3 i hi).1, by obtain ⟨v, e, ho⟩ := (h3 i hi).2; exact ⟨v, e, ho.off (by omega) j u⟩⟩⟩
theorem StmRow.stms {wr : World} {g : Nat} {ss : List Stm} (h : StmRow wr g ss ss.length) (hn : ss.length ≤ 1048576) : Stms wr (.slice (some ⟨g, 0, none⟩) ss.length ss.length) ss :=
  ⟨_, _, rfl, Nat.le_refl _, by unfold maxLen; omega, fun _ => ⟨g, 0, rfl, by obtain ⟨cur, h1, _⟩ := h; exact h1.lt, fun _ hj => h.is hj⟩⟩
theorem infoT : (Try.prog.info? 111).map (fun i => (i.zero, i.size, i.bytes)) = some (some (.agg #[.string ⟨#[]⟩, .slice none 0 0]), 2, 40) := by kernel_rfl

set_option maxRecDepth 100000 in
set_option maxHeartbeats 2000000 in
theorem toStemS_any {v : Value} {ss : List Stm} (w : World) (h : Stms w v ss) (hn : ss.length ≤ 1048576) (hu : ∀ x ∈ ss, x.uses.length ≤ 1048576) :
    Calls Try.prog 72 #[v] w fun e w' => e = .returned (.slice (some ⟨w.heap.size, 0, none⟩) ss.length ss.length) ∧ StmRow w' w.heap.size ss ss.length ∧ Below w.heap.size w w' := by
  obtain ⟨i0, hi, hz0, hz1, hz2⟩ := info_parts infoT
  obtain ⟨a, cap, rfl, hl, hm, hc⟩ := h
  unfold maxLen at hm
  have HC := Shh.mk hc
  clear hc
  go_enter Try.func72, Try.ntmps72
  go_wp2_with (refine wpList_make_full _ rfl _ _ 46 rfl w.heap.size 111 i0 _ 2 Try.underlying46 hi hz0 hz1 .i64 .i64 _ _ ss.length rfl rfl rfl rfl (by rw [hz2]; omega) (by unfold maxLen; omega) (Nat.le_refl _) ?_; intro w1 hown hgrow)
  have hrow0 : StmRow w1 w.heap.size ss 0 := by
    obtain ⟨cur, h1, h2⟩ := own_blk hown
    exact ⟨cur, h1, h2, fun j hj => absurd hj (by omega)⟩
  have hb0 : Below w.heap.size w w1 := (Below.refl _ _).grown hgrow (Nat.le_refl _) (fun k hk => by cases hk)
  have HR0 := Shh.mk hrow0
  clear hown hgrow hrow0
  go_loopw [4] (fun i wr => ∃ k : Nat, k ≤ ss.length ∧ i = .int .i64 k ∧ Shh (StmRow wr w.heap.size ss k) ∧ Below w.heap.size w wr) (fun i _ => ss.length - (intOf i).toNat)
  case atStart => exact ⟨0, Nat.zero_le _, rfl, HR0, hb0⟩
  case round =>
    obtain ⟨k, hk, rfl, ho, hb⟩ := hrel
    clear HR0 hb0
    by_cases hlt : k < ss.length
    · obtain ⟨ba, oa, rfl, hba, hca⟩ := HC.out (by omega)
      have hA := StmIs.below (hca k hlt) hb hba
      have hul := hu _ (stmG_mem hlt)
      obtain ⟨x, hx⟩ : ∃ x, stmG ss k = x := ⟨_, rfl⟩
      rw [hx] at hA hul
      have HX := Shh.mk hx
      obtain ⟨n, us⟩ := x
      obtain ⟨k0, u, k1, hus⟩ := hA
      simp only at k0 k1 hus hul
      have HUS := Shh.mk hus
      obtain ⟨ua, uc, rfl, -⟩ := hus
      have hgl : w.heap.size < wr.heap.size := by obtain ⟨cur, h1, _⟩ := ho.out; exact h1.lt
      clear hca hx
      go_wp2_with fail
      refine (toStem_any n us _ HUS.out hul).mono ?_
      rintro e w2 ⟨ta, tc, rfl, hto, hb2⟩
      have ho2 := ho.out.kept hb2
      have hB2 := hb.trans (hb2.mono hb.size)
      obtain ⟨⟨y0, y1, e0, e1⟩, hfz⟩ := ho2.free hlt
      have HG := Shh.mk (ho2.grow hlt HX.out (OwnS.lower hto (by omega)))
      have HB := Shh.mk ((hB2.setCell (p := ⟨w.heap.size, k * 2, none⟩) (Nat.le_refl _) (.string n)).setCell (p := ⟨w.heap.size, k * 2 + 1, none⟩) (Nat.le_refl _) (.slice ta us.length tc))
      clear ho2 k0 k1 hto
      go_wp2
      go_roundw
      case rel => exact ⟨k + 1, by omega, by go_num, HG, HB.out⟩
      case measure => simp [intOf]; omega
    · obtain rfl : k = ss.length := by omega
      go_wp2
      go_ret
      exact ⟨rfl, ho.out, hb⟩

/-- A grammar in memory, and what is known of its parts. -/
structure Gram (W : World) (va vs : Value) (xs : List Aff) (ss : List Stm) : Prop where
  affs : Affs W va xs
  stms : Stms W vs ss
theorem Gram.below {W w' : World} {va vs : Value} {xs : List Aff} {ss : List Stm} (h : Gram W va vs xs ss) (hb : Below W.heap.size W w') : Gram w' va vs xs ss := ⟨h.affs.below hb, h.stms.below hb⟩
theorem Gram.alloc {W : World} {va vs : Value} {xs : List Aff} {ss : List Stm} (h : Gram W va vs xs ss) (o : Obj) : Gram (W.alloc o) va vs xs ss := ⟨h.affs.alloc o, h.stms.alloc o⟩
/-- What the sizes tell of a grammar's parts. -/
structure Small (xs : List Aff) (ss : List Stm) : Prop where
  xlen : xs.length ≤ 1048576
  slen : ss.length ≤ 1048576
  ulen : ∀ x ∈ ss, x.uses.length ≤ 1048576
  aff : ∀ x ∈ xs, affW x ≤ 1048576
  word : ∀ x ∈ ss, x.word.size ≤ 1048576
  use : ∀ x ∈ ss, ∀ u ∈ x.uses, u.size ≤ 1048576
theorem small_of {xs : List Aff} {ss : List Stm} (h : gramW xs ss ≤ 1048576) : Small xs ss := by
  unfold gramW affsW stmsW at h
  have hs : ∀ x ∈ ss, stmW x ≤ 1048576 := by
    intro x hx
    obtain ⟨i, hi, rfl⟩ := mem_getD stm0 hx
    have := sumTo_at (fun j => stmW (stmG ss j)) hi
    simp only [stmG] at this h
    omega
  refine ⟨by omega, by omega, fun x hx => ?_, fun x hx => ?_, fun x hx => ?_, fun x hx u hu => ?_⟩
  · have := hs x hx
    unfold stmW strsW at this
    omega
  · obtain ⟨i, hi, rfl⟩ := mem_getD aff0 hx
    have := sumTo_at (fun j => affW (affG xs j)) hi
    simp only [affG] at this h
    omega
  · have := hs x hx
    unfold stmW at this
    omega
  · have h1 := hs x hx
    unfold stmW strsW at h1
    obtain ⟨i, hi, rfl⟩ := mem_getD ByteArray.empty hu
    have := sumTo_at (fun j => (strAt x.uses j).size) hi
    simp only [strAt] at this h1
    omega

set_option maxHeartbeats 2000000 in
theorem toGrammar_any {va vs : Value} {xs : List Aff} {ss : List Stm} (w : World) (h : Gram w va vs xs ss) (hs : Small xs ss) :
    Calls Try.prog 23 #[.agg #[va, vs]] w fun e w' => ∃ a s, e = .returned (.agg #[.slice a xs.length xs.length, .slice s ss.length ss.length]) ∧ Gram w' (.slice a xs.length xs.length) (.slice s ss.length ss.length) xs ss ∧ Below w.heap.size w w' := by
  have HG := Shh.mk (((h.alloc (.cells #[va, vs] 39)).alloc (.cells #[.slice none 0 0, .slice none 0 0] 48)).alloc (.cells #[.slice none 0 0, .slice none 0 0] 48))
  have H0 := Shh.mk h
  obtain ⟨⟨aa, ac, rfl, -⟩, ⟨sa, sc, rfl, -⟩⟩ := h
  go_enter Try.func23, Try.ntmps23
  go_wp2_with fail
  refine (toAffixS_any _ HG.out.affs hs.xlen).mono ?_
  rintro e w1 ⟨rfl, ha, hb1⟩
  have hz1 : w.heap.size + 3 ≤ w1.heap.size := by have := hb1.size; simp at this; omega
  have q0 := Shh.mk ((((Blk.made w 39 #[.slice aa xs.length ac, .slice sa ss.length sc]).alloc (.cells #[.slice none 0 0, .slice none 0 0] 48)).alloc (.cells #[.slice none 0 0, .slice none 0 0] 48)).kept hb1 (by simp; omega))
  have q1 := ((Blk.made (w.alloc (.cells #[.slice aa xs.length ac, .slice sa ss.length sc] 39)) 48 #[.slice none 0 0, .slice none 0 0]).alloc (.cells #[.slice none 0 0, .slice none 0 0] 48)).kept hb1 (by simp)
  have q2 := (Blk.made ((w.alloc (.cells #[.slice aa xs.length ac, .slice sa ss.length sc] 39)).alloc (.cells #[.slice none 0 0, .slice none 0 0] 48)) 48 #[.slice none 0 0, .slice none 0 0]).kept hb1 (by simp)
  simp only [World.size_alloc] at q1 q2 ha ⊢
  have Q1 := Shh.mk q1
  have Q2 := Shh.mk q2
  have hB1 := (((((Below.refl w.heap.size w).alloc (Nat.le_refl _) (.cells #[.slice aa xs.length ac, .slice sa ss.length sc] 39)).alloc (by simp) (.cells #[.slice none 0 0, .slice none 0 0] 48)).alloc (by simp; omega) (.cells #[.slice none 0 0, .slice none 0 0] 48))).trans (hb1.mono (by simp; omega))
  have c0 := q0.out.cells
  have c2 := q2.cells
  have m2 := q2.marks
  obtain ⟨ga, hga⟩ : ∃ ga, w.heap.size + 1 + 1 + 1 = ga := ⟨_, rfl⟩
  rw [hga] at ha ⊢
  have hlta : ga < w1.heap.size := by obtain ⟨cur, h1, _⟩ := ha; exact h1.lt
  have hB2 := hB1.setCell (p := ⟨w.heap.size + 1 + 1, 0, none⟩) (by simp; omega) (.slice (some ⟨ga, 0, none⟩) xs.length xs.length)
  have HS := Shh.mk (H0.out.stms.below hB2)
  have HA := Shh.mk (ha.off (b := w.heap.size + 1 + 1) (by omega) 0 (.slice (some ⟨ga, 0, none⟩) xs.length xs.length))
  have R2 := Shh.mk (q2.stored 0 (.slice (some ⟨ga, 0, none⟩) xs.length xs.length))
  have R1 := Shh.mk (q1.other (p := ⟨w.heap.size + 1 + 1, 0, none⟩) (by simp) (.slice (some ⟨ga, 0, none⟩) xs.length xs.length))
  clear q1 q2 hb1 ha
  go_wp2_with fail
  refine (toStemS_any _ HS.out hs.slen hs.ulen).mono ?_
  rintro e w3 ⟨rfl, hst, hb3⟩
  have hsz2 : (w1.setCell ⟨w.heap.size + 1 + 1, 0, none⟩ (.slice (some ⟨ga, 0, none⟩) xs.length xs.length)).heap.size = w1.heap.size := by simp [World.setCell]
  have hB3 := Shh.mk (hB2.trans (hb3.mono (by rw [hsz2]; omega)))
  have HA3 := Shh.mk (HA.out.kept hb3)
  have p2 := (R2.out.kept hb3 (by rw [hsz2]; omega))
  have p1 := (R1.out.kept hb3 (by rw [hsz2]; omega))
  clear c0 c2 m2 hb3 hB1 hB2 HS HA R1 R2
  rw [hsz2] at hst ⊢
  have HST := Shh.mk hst
  clear hst hsz2
  have c2 := p2.cells
  have m2 := p2.marks
  have c1 := p1.cells
  have m1 := p1.marks
  clear p1 p2
  go_wp2
  refine bodyPost_ret (v := .agg #[.slice (some ⟨ga, 0, none⟩) xs.length xs.length, .slice (some ⟨w1.heap.size, 0, none⟩) ss.length ss.length]) (by simp [results, Try.results23, go_sem, c1]) rfl ?_
  refine ⟨_, _, rfl, ⟨?_, ?_⟩, ?_⟩
  · exact (((HA3.out.off (by omega) _ _).off (by omega) _ _).off (by omega) _ _).affs hs.xlen
  · exact (((HST.out.off (by omega) _ _).off (by omega) _ _).off (by omega) _ _).stms hs.slen
  · exact ((hB3.out.setCell (by simp; omega) _).setCell (by simp) _).setCell (by simp) _
end Go.Proofs.Ytilagppmljpclaa
