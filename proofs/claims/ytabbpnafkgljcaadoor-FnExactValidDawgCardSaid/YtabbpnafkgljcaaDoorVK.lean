/-
  The accepted strings of a well formed automaton: the model's l06Words.
-/
import Derived.Test.YtabbpnafkgljcaaDoorVI
namespace Go.Proofs.YtabbpnafkgljcaaDoor
open Go.RowKit

theorem catB_empty (t : List UInt8) : catB ByteArray.empty t = txt t := by unfold catB; rfl
theorem wst_start {W : World} {gd : Nat} : WSt W gd (W.heap.size + 1) ((W.alloc (.cells #[] 9)).alloc (.cells #[.pointer (some ⟨gd, 0, none⟩), .slice (some ⟨W.heap.size, 0, none⟩) 0 0, .bool false] 146)) [] false := by
  refine ⟨((Below.refl _ _).alloc (Nat.le_refl _) _).alloc (by rw [World.size_alloc]; omega) _, .slice (some ⟨W.heap.size, 0, none⟩) 0 0, ?_, ?_⟩
  · have h := Blk.made (W.alloc (.cells #[] 9)) 146 #[.pointer (some ⟨gd, 0, none⟩), .slice (some ⟨W.heap.size, 0, none⟩) 0 0, .bool false]
    rw [World.size_alloc] at h
    exact h
  · exact World.ownsRow.alloc (World.ownsRow_lit W #[] 0 (Nat.le_refl _) (by unfold maxLen; omega) rfl) _
set_option maxRecDepth 100000 in
set_option maxHeartbeats 4000000 in
theorem l06Words_any {xs : List Nod} {gd : Nat} {vd : Value} (W : World) (hd : Blk W gd 26 #[vd]) (hx : Nds W vd xs) (hs : Shp xs) (hp : 0 < xs.length) :
    Calls Tryd.prog 78 #[.pointer (some ⟨gd, 0, none⟩)] W fun e w' => ∃ (v : Value) (us : List ByteArray) (f : Bool), e = .returned (.tuple #[v, .bool (!f)]) ∧ OwnS W.heap.size w' v us ∧ (f = false ↔ (gphD xs).okN 14 0 0) ∧ (f = false → us = ((gphD xs).W 13 0).map txt) ∧ Below W.heap.size W w' := by
  have HC := Shh.mk (fun w (h : WSt W gd (W.heap.size + 1) w [] false) => walk_any W hd hx hs (Nat.le_succ _) 14 0 ByteArray.empty [] w hp rfl (Nat.zero_le _) h)
  have HS := Shh.mk (wst_start (W := W) (gd := gd))
  clear hx hs hd
  go_enter Tryd.func78, Tryd.ntmps78
  go_wp2_with fail
  refine (HC.out _ HS.out).mono ?_
  rintro e w2 ⟨⟨vr, rfl⟩, hres⟩
  have HR := Shh.mk (show ∃ (us : List ByteArray) (f : Bool), WSt W gd (W.heap.size + 1) w2 us f ∧ (f = false ↔ (gphD xs).okN 14 0 0) ∧ (f = false → us = ((gphD xs).W 13 0).map txt) by
    rcases hres with ⟨h1, h2⟩ | ⟨h1, acc, h2⟩
    · refine ⟨_, false, h2, Iff.intro (fun _ => h1) (fun _ => rfl), fun _ => ?_⟩
      rw [List.nil_append]
      exact List.map_congr_left fun t _ => catB_empty t
    · exact ⟨acc, true, h2, Iff.intro (fun h => nomatch h) (fun h => absurd h h1), fun h => nomatch h⟩)
  clear hres
  obtain ⟨us, f, hst, hf⟩ := HR.out
  have HF := Shh.mk hf
  obtain ⟨hb, v, q1, q2⟩ := hst
  have HB := Shh.mk hb
  have HO := Shh.mk q2
  have c1 := q1.cells 1
  have c2 := q1.cells 2
  clear hf hb q1 q2
  go_wp2
  go_region
  go_wp2
  go_ret2
  exact ⟨v, us, f, rfl, HO.out, HF.out.1, HF.out.2, HB.out.drew⟩
end Go.Proofs.YtabbpnafkgljcaaDoor
