/-
  Placements: the squares on which a play places tiles: NewSquares of the program; squares that a law compares.
-/
import Derived.Test.YtmkdbahdhobdjaaDoorNS
import Derived.Test.YtmkdbahdhobdjaaDoorCZ
namespace Go.Proofs.YtmkdbahdhobdjaaDoor
open Go.RowKit Go.Joins Go.Deep

theorem OwnQ.lowerN {B B' : Nat} {w : World} {v : Value} {ls : List Sq} (h : OwnQ B w v ls) (hb : B' ≤ B) : OwnQ B' w v ls := by
  refine ⟨h.1, ?_⟩
  rcases h.2 with h | ⟨g, cap, cur, h1, h2, r⟩
  · exact .inl h
  · exact .inr ⟨g, cap, cur, h1, Nat.le_trans hb h2, r⟩
set_option maxRecDepth 100000 in
set_option maxHeartbeats 4000000 in
theorem implNewSquares_any (n : Int) (p c s : ByteArray) (r k : Int) (d : Bool) (W : World) (hs : s.size ≤ 1048576) (hT : Tabs W) :
    Calls Tryd.prog 32 #[.agg #[.int .i64 n, .string p, .string c], .agg #[.int .i64 r, .int .i64 k, .bool d, .string s]] W fun e w' => ∃ v, e = .returned (.tuple #[v, .int .i64 (newOut n p c r k d s).2]) ∧ OwnQ W.heap.size w' v (newOut n p c r k d s).1 ∧ Below W.heap.size W w' := by
  have B0 := ShO.mk (below_placed (W := W) (n := n) (p := p) (c := c) (r := r) (k := k) (d := d) (s := s))
  have HT := ShO.mk hT
  clear hT
  go_enter Tryd.func32, Tryd.ntmps32
  go_wp2_with fail
  refine (placementOf_any n p c s r k d _ hs (HT.out.on B0.out)).mono ?_
  rintro e w1 ⟨X, code, rfl, h⟩
  have HI := ShO.mk h.info
  have B1 := ShO.mk (B0.out.trans (h.1.mono B0.out.size))
  obtain ⟨-, ⟨hok, rfl, rfl⟩ | ⟨N, A, B, f, v, gm, D, rfl, hz, rfl, rfl, hq, hM, -⟩⟩ := h
  · have HR := ShO.mk (newOut_no hok)
    clear hok
    have HB := (Blk.row (Blk.made w1 96 #[.int .i64 0, .int .i64 0, .bool false, .string ⟨#[]⟩, .int .i64 0, .string ⟨#[]⟩, .string ⟨#[]⟩, .slice none 0 0, .map none]) noX)
    have c7 : _ = some (Value.slice none 0 0) := HB.cells 7
    have b2 := below_row (B1.out.alloc B1.out.size (.cells #[.int .i64 0, .int .i64 0, .bool false, .string ⟨#[]⟩, .int .i64 0, .string ⟨#[]⟩, .string ⟨#[]⟩, .slice none 0 0, .map none] 96)) B1.out.size noX
    have B2 := ShO.mk b2
    clear b2 HB
    go_wp2_with (refine wpList_store_row rfl 96 _ _ rfl w1.heap.size noX (by rfl) (by rfl) 96 _ (Blk.made _ _ _) HI.out.2.1 (by rw [HI.out.1]; rfl) HI.out.2.2 ?_)
    refine bodyPost_ret (v := .tuple #[.slice none 0 0, .int .i64 1]) (by simp [results, Tryd.results32, go_sem]) rfl ?_
    rw [HR.out]
    exact ⟨_, rfl, OwnQ.nil _ _, B2.out⟩
  · obtain ⟨va, vc, rfl, -⟩ := hq.form
    obtain ⟨N', hN, h5, h15, hp, hc⟩ := okBd_nat hz.ok
    obtain rfl : N' = N := by omega
    have HR := ShO.mk (newOut_yes hz)
    have HQ := ShO.mk hq
    clear hq hz h15 hc hp h5 hN hM
    obtain ⟨nl, hnl⟩ : ∃ nl, (newL d A B (frL f (A * N' + B) s.size)).length = nl := ⟨_, rfl⟩
    rw [hnl] at HI HQ
    have HB := (Blk.row (Blk.made w1 96 #[.int .i64 0, .int .i64 0, .bool false, .string ⟨#[]⟩, .int .i64 0, .string ⟨#[]⟩, .string ⟨#[]⟩, .slice none 0 0, .map none]) (plX r k d s (N' : Int) p c (.slice va nl vc) (.map (some gm))))
    have c7 : _ = some (Value.slice va nl vc) := HB.cells 7
    have hb2 : Below w1.heap.size w1 ((w1.alloc (.cells #[.int .i64 0, .int .i64 0, .bool false, .string ⟨#[]⟩, .int .i64 0, .string ⟨#[]⟩, .string ⟨#[]⟩, .slice none 0 0, .map none] 96)).setRow w1.heap.size (plX r k d s (N' : Int) p c (.slice va nl vc) (.map (some gm)))) := below_row ((Below.refl _ _).alloc (Nat.le_refl _) _) (Nat.le_refl _) _
    have B2 := ShO.mk (B1.out.trans (hb2.mono B1.out.size))
    have Q2 := ShO.mk ((HQ.out.kept hb2).lowerN (B' := W.heap.size) (by simp; omega))
    clear hb2 HB HQ
    go_wp2_with (refine wpList_store_row rfl 96 _ _ rfl w1.heap.size (plX r k d s (N' : Int) p c (.slice va nl vc) (.map (some gm))) (by rfl) (by rfl) 96 _ (Blk.made _ _ _) HI.out.2.1 (by rw [HI.out.1]; rfl) HI.out.2.2 ?_)
    refine bodyPost_ret (v := .tuple #[.slice va nl vc, .int .i64 0]) (by simp [results, Tryd.results32, go_sem]) rfl ?_
    rw [HR.out]
    exact ⟨_, rfl, Q2.out, B2.out⟩
theorem eqSquare_same (a b : Int) (W : World) : Calls Tryd.prog 74 #[.agg #[.int .i64 a, .int .i64 b], .agg #[.int .i64 a, .int .i64 b]] W fun e w' => e = .returned (.bool true) ∧ Below W.heap.size W w' := by
  go_enter Tryd.func74, Tryd.ntmps74
  go_wp2
  go_ret
  exact ⟨rfl, below_two _ _⟩
end Go.Proofs.YtmkdbahdhobdjaaDoor
