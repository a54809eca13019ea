/-
  Placements: placementOf at all arguments, ValidPlay of the program (its two directions' parts were written by mkCH.py).
-/
import Derived.Test.YtmkdbahdhobdjaaDoorCY
import Derived.Deep.RegionHeld3
import Derived.Deep.CutRange
namespace Go.Proofs.YtmkdbahdhobdjaaDoor
open Go.RowKit Go.Maps

theorem Boxes.made {w : World} {H : Nat} {n : Int} {p c : ByteArray} {r k : Int} {d : Bool} {s : ByteArray} {X : Array Value} {code : Int} (h : Boxes w H n p c r k d s X code) (X' : Array Value) : Boxes ((w.alloc (.map #[] 0)).setRow (H + 1 + 1) X') H n p c r k d s X' code :=
  ⟨(h.b.alloc _).row_other (by omega) X', (h.p.alloc _).row_other (by omega) X', (h.x.alloc _).row X', (h.c.alloc _).row_other (by omega) X'⟩
/-- An empty map that was made. -/
structure EmpM (w : World) (g : Nat) : Prop where
  blk : w.heap[g]? = some (.map #[] 0)
theorem EmpM.kept {w w' : World} {g : Nat} (h : EmpM w g) (hb : Below w.heap.size w w') : EmpM w' g := ⟨(hb.block g (Array.getElem?_eq_some_iff.1 h.blk).1).trans h.blk⟩
theorem EmpM.lt {w : World} {g : Nat} (h : EmpM w g) : g < w.heap.size := (Array.getElem?_eq_some_iff.1 h.blk).1
theorem map_made (w : World) (g : Nat) (hg : g < w.heap.size) (X : Array Value) : EmpM ((w.alloc (.map #[] 0)).setRow g X) w.heap.size :=
  ⟨(setRow_other _ _ _ _ (by omega)).trans (MapKept.heap_alloc w _).1⟩
theorem EmpM.letM {w : World} {g : Nat} (h : EmpM w g) (d : Bool) (A B : Nat) (s : ByteArray) : LetM w g d A B s [] (.map []) :=
  ⟨⟨#[], 0, h.blk, ⟨by simp, Go.MapKept.stamped_empty 0, by simp⟩, Nat.le_refl _, rfl⟩, fun kl h => (by cases h), fun i hi => (by cases hi)⟩
theorem sq_kept {w X y : World} (hX : (w.alloc (.cells #[.int .i64 0, .int .i64 0] 104)) = X ∨ (w.alloc (.cells #[.int .i64 0, .int .i64 0] 104)).drew = X) (hb : Below X.heap.size X y) : Blk y w.heap.size 104 #[.int .i64 0, .int .i64 0] := by
  rcases hX with rfl | rfl
  · exact (Blk.made w 104 #[.int .i64 0, .int .i64 0]).kept hb (by simp)
  · exact (Blk.drew (Blk.made w 104 #[.int .i64 0, .int .i64 0])).kept hb (Blk.drew (Blk.made w 104 #[.int .i64 0, .int .i64 0])).lt
theorem direction_on {v : Value} (w0 : World) (r k : Int) (d : Bool) (s : ByteArray) (W : World) (hv : dirV d = v) (hb : Below w0.heap.size w0 W) :
    Calls Tryd.prog 121 #[.agg #[.int .i64 r, .int .i64 k, .bool d, .string s]] W fun e w' => e = .returned v ∧ Below w0.heap.size w0 w' ∧ Below W.heap.size W w' :=
  hv ▸ (direction_any r k d s W).mono fun _ _ ⟨h1, h2⟩ => ⟨h1, hb.trans (h2.mono hb.size), h2⟩
def strLenP : Value → Nat
  | .string t => t.size
  | _ => 0
theorem ext_all (s : ByteArray) : s.extract 0 s.size = s := by
  refine ext_at (by rw [ByteArray.size_extract]; omega) fun j hj => ?_
  unfold atB
  rw [Lib.extract_data, List.drop_zero, Nat.sub_zero, List.take_of_length_le (by rw [list_size]; exact Nat.le_refl _)]
theorem empty_list {s : ByteArray} (h : s.size = 0) : s.toList.isEmpty = true := by
  rw [ByteArray.toList_eq]
  have := list_size s
  rw [h] at this
  rw [List.eq_nil_of_length_eq_zero this]
  rfl
theorem nonempty_list {s : ByteArray} (h : 0 < s.size) : s.toList.isEmpty = false := by
  rw [ByteArray.toList_eq]
  cases e : s.data.toList with
  | nil => have := list_size s; rw [e] at this; simp at this; omega
  | cons => rfl
theorem apart_row {S : Nat → Prop} {a w : World} (h : Apart S a w) {g : Nat} (hg : S g) (cs : Array Value) : Apart S a (w.setRow g cs) :=
  ⟨h.os, h.tape, h.output, by simpa using h.size, fun i hi hs => (setRow_other _ _ _ _ (fun e => hs (by rw [e]; exact hg))).trans (h.block i hi hs)⟩
theorem ownQ_lower {B B' : Nat} {w : World} {v : Value} {ls : List Sq} (h : OwnQ B w v ls) (hB : B' ≤ B) : OwnQ B' w v ls := by
  refine ⟨h.1, ?_⟩
  rcases h.2 with h | ⟨g, cap, cur, h1, h2, r⟩
  · exact .inl h
  · exact .inr ⟨g, cap, cur, h1, Nat.le_trans hB h2, r⟩
theorem Boxes.apartX {w w' : World} {H : Nat} {n : Int} {p c : ByteArray} {r k : Int} {d : Bool} {s : ByteArray} {X X' : Array Value} {code : Int} {S : Nat → Prop} (h : Boxes w H n p c r k d s X code) (ha : Apart S w w') (h0 : ¬ S H) (h1 : ¬ S (H + 1)) (h3 : ¬ S (H + 1 + 1 + 1)) (hx : Blk w' (H + 1 + 1) 96 X') : Boxes w' H n p c r k d s X' code :=
  ⟨h.b.apart ha h0, h.p.apart ha h1, hx, h.c.apart ha h3⟩
theorem see_sq {d : Bool} {N A B j : Nat} {c : ByteArray} (hA : A < N) (hj : B + j < N) : seeC c (N : Int) (sqOf d A B j).1 (sqOf d A B j).2 = ((atB (flS d N c) (A * N + B + j)).toNat : Int) := by
  have hi : inBd (N : Int) (sqOf d A B j).1 (sqOf d A B j).2 = true := by
    show inBd (N : Int) (flR d (A : Int) ((B + j : Nat) : Int)) (flC d (A : Int) ((B + j : Nat) : Int)) = true
    rw [inBd_fl]
    exact inBd_iff.2 ⟨⟨by omega, by omega⟩, by omega, by omega⟩
  rw [seeC_yes hi, Nat.add_assoc, flS_at hA hj]
  cases d
  · show ((atB c ((A : Int) * (N : Int) + ((B + j : Nat) : Int)).toNat).toNat : Int) = _
    rw [nat_at]; rfl
  · show ((atB c (((B + j : Nat) : Int) * (N : Int) + (A : Int)).toNat).toNat : Int) = _
    rw [nat_at]; rfl
theorem see_off {d : Bool} {N A B j : Nat} {c : ByteArray} (hj : N ≤ B + j) : seeC c (N : Int) (sqOf d A B j).1 (sqOf d A B j).2 = 0 := by
  refine seeC_no ?_
  show inBd (N : Int) (flR d (A : Int) ((B + j : Nat) : Int)) (flC d (A : Int) ((B + j : Nat) : Int)) = false
  rw [inBd_fl, Bool.eq_false_iff]
  intro e
  obtain ⟨-, -, h⟩ := inBd_iff.1 e
  omega
theorem full_sq {d : Bool} {N A B j : Nat} {c : ByteArray} : fullB N c (sqOf d A B j).1 (sqOf d A B j).2 = fullB N (flS d N c) (A : Int) ((B : Int) + (j : Int)) := by
  show fullB N c (flR d (A : Int) ((B + j : Nat) : Int)) (flC d (A : Int) ((B + j : Nat) : Int)) = _
  rw [full_fl, Int.natCast_add]
theorem ext_rest (s : ByteArray) (j : Nat) : (s.extract j s.size).extract 1 (s.extract j s.size).size = s.extract (j + 1) s.size := by
  rw [ByteArray.extract_extract]
  congr 1
  rw [ByteArray.size_extract]
  omega
theorem place_on {gx gm B : Nat} {r k : Int} {d e : Bool} {s p c : ByteArray} {n : Int} {v : Value} {ls : List Sq} {A C i : Nat} {fr : List Nat} {D : DataW Unit} {u : ByteArray} {x0 x1 y : Int} (w : World) (hq : sqOf e A C i = (x0, x1)) (hy : ((atB u i).toNat : Int) = y)
    (hx : Blk w gx 96 (plX r k d s n p c v (.map (some gm)))) (ho : OwnQ B w v ls) (hls : ls.length ≤ 20) (hm : LetM w gm e A C u fr D)
    (hA : A ≤ 100) (hC : ∀ j ∈ i :: fr, C + j ≤ 100) (hi : i ∉ fr) (hf : fr.length ≤ 20) (hB : B ≤ w.heap.size) (hgx : gx < B) (hgm : gm < B) (hne : gm ≠ gx) :
    Calls Tryd.prog 123 #[.pointer (some ⟨gx, 0, none⟩), .agg #[.int .i64 x0, .int .i64 x1], .int .u8 y] w fun e' w' =>
      e' = .returned (.tuple #[]) ∧ ∃ v', Blk w' gx 96 (plX r k d s n p c v' (.map (some gm))) ∧ OwnQ B w' v' (ls ++ [sqOf e A C i]) ∧ (∃ D', LetM w' gm e A C u (fr ++ [i]) D') ∧ Apart (Chg B gx gm) w w' := by
  have := place_any w hx ho hls hm hA hC hi hf hB hgx hgm hne
  rw [hq, hy] at this
  rw [hq]
  exact this
theorem ext_first {s : ByteArray} {j : Nat} (h : j < s.size) : ∀ h0 : 0 < (s.extract j s.size).size, (s.extract j s.size)[0]'h0 = atB s j := by
  intro h0
  rw [← atB_get h0]
  unfold atB
  rw [Lib.extract_data]
  rw [List.getD_eq_getElem?_getD, List.getD_eq_getElem?_getD, List.getElem?_take_of_lt (by omega), List.getElem?_drop, Nat.add_zero]
theorem byte_ne {a b : UInt8} (h : (a == b) = false) : ((a.toNat : Int) == (b.toNat : Int)) = false := by
  rw [beq_eq_false_iff_ne] at h ⊢
  intro e
  exact h (UInt8.toNat_inj.1 (by omega))
theorem next_sqR {A B j : Nat} {q0 q1 n1 : Int} (h : sqOf false A B j = (q0, q1)) (hn : IntKind.i64.wrap (q1 + 1) = n1) (hs : B + j < 1000) : sqOf false A B (j + 1) = (q0, n1) := by
  injection h with h1 h2
  have h2' : ((B + j : Nat) : Int) = q1 := h2
  have h1' : (A : Int) = q0 := h1
  have : IntKind.i64.wrap (q1 + 1) = q1 + 1 := IntWalk.i64_in _ (by omega)
  show ((A : Int), ((B + (j + 1) : Nat) : Int)) = _
  rw [← hn, this, h1', ← h2']
  congr 1
theorem next_sqD {A B j : Nat} {q0 q1 n1 : Int} (h : sqOf true A B j = (q0, q1)) (hn : IntKind.i64.wrap (q0 + 1) = n1) (hs : B + j < 1000) : sqOf true A B (j + 1) = (n1, q1) := by
  injection h with h1 h2
  have h1' : ((B + j : Nat) : Int) = q0 := h1
  have h2' : (A : Int) = q1 := h2
  have : IntKind.i64.wrap (q0 + 1) = q0 + 1 := IntWalk.i64_in _ (by omega)
  show (((B + (j + 1) : Nat) : Int), (A : Int)) = _
  rw [← hn, this, h2', ← h1']
  congr 1
theorem chg_not {B gs gm H w3 gb : Nat} (h2 : B = gb + 1) (h3 : H + 1 + 1 + 1 < gm) (h4 : gm < w3) (h5 : w3 ≤ gs) (h6 : gs < gb) : ¬ Chg B (H + 1 + 1) gm gs := by
  unfold Chg; omega
theorem chg_in {B gx gm gs i : Nat} (hi : i < B) (h : Chg B gx gm i) : i = gx ∨ i = gm ∨ i = gs := by
  unfold Chg at h; omega
theorem sq_pair {w : World} {g : Nat} {a b : Int} (h : Blk w g 104 #[.int .i64 a, .int .i64 b]) : w.cell? ⟨g, 0, none⟩ = some (.int .i64 a) ∧ w.cell? ⟨g, 1, none⟩ = some (.int .i64 b) := ⟨h.cells 0, h.cells 1⟩
theorem step_methodR (w : World) : (method 333 167 (.agg #[]) "loop.example/g00911/impl.step").run Tryd.prog w = .ok (225, .agg #[]) w := by kernel_rfl
theorem step_entersR : ∀ args w, (callFunc 225 args).run Tryd.prog w = .ok (.enter 225 args) w := enters_of Tryd.func225 (by kernel_rfl) rfl
theorem step_methodD (w : World) : (method 333 166 (.agg #[]) "loop.example/g00911/impl.step").run Tryd.prog w = .ok (223, .agg #[]) w := by kernel_rfl
theorem step_entersD : ∀ args w, (callFunc 223 args).run Tryd.prog w = .ok (.enter 223 args) w := enters_of Tryd.func223 (by kernel_rfl) rfl
theorem OwnQ.drew {B : Nat} {w : World} {v : Value} {ls : List Sq} (h : OwnQ B w v ls) : OwnQ B w.drew v ls := h
theorem LetM.drew {w : World} {g : Nat} {d : Bool} {A B : Nat} {s : ByteArray} {fr : List Nat} {D : DataW Unit} (h : LetM w g d A B s fr D) : LetM w.drew g d A B s fr D := ⟨h.own.drew, h.has, h.here⟩
/-- What placementOf answers. -/
def PlacedAs (W : World) (N : Nat) (p c : ByteArray) (r k : Int) (d : Bool) (s : ByteArray) (e : Ending) (w' : World) : Prop :=
  Below W.heap.size W w' ∧ ((okPl (N : Int) p c r k d s = false ∧ e = .returned (.tuple #[.agg noX, .int .i64 1])) ∨
    ∃ (A B : Nat) (f : ByteArray) (v : Value) (gm : Nat) (D : DataW Unit), Fits N p c r k d s A B f ∧ e = .returned (.tuple #[.agg (plX r k d s N p c v (.map (some gm))), .int .i64 0]) ∧
      OwnQ W.heap.size w' v (newL d A B (frL f (A * N + B) s.size)) ∧ LetM w' gm d A B s (frL f (A * N + B) s.size) D ∧ W.heap.size ≤ gm)
set_option maxRecDepth 100000 in
set_option maxHeartbeats 8000000 in
theorem placementOf_R {N : Nat} {p c s : ByteArray} {r k : Int} (W : World) (hs : s.size ≤ 1048576) (hT : Tabs W) (hok : okBd (N : Int) p c = true) (hw : longP s = true) :
    Calls Tryd.prog 71 #[.agg #[.int .i64 (N : Int), .string p, .string c], .agg #[.int .i64 r, .int .i64 k, .bool false, .string s]] W (PlacedAs W N p c r k false s) := by
  have hmf : ∀ (fn : Fn) (first cap : Array Value) (w : World), (Instr.makeFunc fn first cap).run Tryd.prog w = .ok (.func fn first cap) w := fun _ _ _ _ => rfl
  have bx := boxes_made W (N : Int) p c r k false s #[.int .i64 0, .int .i64 0, .bool false, .string ⟨#[]⟩, .int .i64 0, .string ⟨#[]⟩, .string ⟨#[]⟩, .slice none 0 0, .map none]
  have b0 := below_four (W := W) (.cells #[.int .i64 (N : Int), .string p, .string c] 27) (.cells #[.int .i64 r, .int .i64 k, .bool false, .string s] 44) (.cells #[.int .i64 0, .int .i64 0, .bool false, .string ⟨#[]⟩, .int .i64 0, .string ⟨#[]⟩, .string ⟨#[]⟩, .slice none 0 0, .map none] 96) (.cells #[.int .i64 0] 2)
  obtain ⟨w0, hw0⟩ : ∃ w0, ((((W.alloc (.cells #[.int .i64 (N : Int), .string p, .string c] 27)).alloc (.cells #[.int .i64 r, .int .i64 k, .bool false, .string s] 44)).alloc (.cells #[.int .i64 0, .int .i64 0, .bool false, .string ⟨#[]⟩, .int .i64 0, .string ⟨#[]⟩, .string ⟨#[]⟩, .slice none 0 0, .map none] 96)).alloc (.cells #[.int .i64 0] 2)) = w0 := ⟨_, rfl⟩
  rw [hw0] at bx b0
  have BX := ShO.mk bx
  have B0 := ShO.mk b0
  have c0 := bx.b.cells
  have HT := ShO.mk hT
  have HOK := ShO.mk hok
  have HW := ShO.mk hw
  clear hok hw hT bx b0
  go_enter_defers Tryd.func71, Tryd.ntmps71
  go_wp2_with fail
  (try rw [hw0])
  clear hw0
  go_step3
  go_wp2_with fail
  refine (validO HOK.out _).mono ?_
  rintro e w1 ⟨rfl, hb1⟩
  have BX1 := ShO.mk (BX.out.kept hb1)
  have B1 := ShO.mk (B0.out.trans (hb1.mono B0.out.size))
  have c1 := BX1.out.p.cells
  clear hb1 c0
  go_wp2_with fail
  have HP := isLongPlaced_any s w1 hs (HT.out.on B1.out)
  rw [HW.out] at HP
  refine HP.mono ?_
  rintro e w2 ⟨rfl, hb2⟩
  have BX2 := ShO.mk (BX1.out.kept hb2)
  have B2 := ShO.mk (B1.out.trans (hb2.mono B1.out.size))
  clear hb2 c1 HP
  have hmm := @run_makeMap Tryd.prog
  have cb2 := BX2.out.b.cells
  have cp2 := BX2.out.p.cells
  have xm2 := ShO.mk (BX2.out.x.alloc (.map #[] 0))
  have GM := ShO.mk (show W.heap.size + 1 + 1 + 1 < w2.heap.size from BX2.out.c.lt)
  have mm := map_made w2 (W.heap.size + 1 + 1) (by have := BX2.out.c.lt; omega)
  obtain ⟨gm, hgm⟩ : ∃ gm, w2.heap.size = gm := ⟨_, rfl⟩
  rw [hgm] at GM mm
  have B3 := ShO.mk (below_row (B2.out.alloc B2.out.size (.map #[] 0)) (show W.heap.size ≤ W.heap.size + 1 + 1 by omega) (plX r k false s N p c (.slice none 0 0) (.map (some gm))))
  have BX3 := ShO.mk (BX2.out.made (plX r k false s N p c (.slice none 0 0) (.map (some gm))))
  have M3 := ShO.mk (mm (plX r k false s N p c (.slice none 0 0) (.map (some gm))))
  obtain ⟨w3, hw3⟩ : ∃ w3, (w2.alloc (.map #[] 0)).setRow (W.heap.size + 1 + 1) (plX r k false s N p c (.slice none 0 0) (.map (some gm))) = w3 := ⟨_, rfl⟩
  rw [hw3] at BX3 B3 M3
  clear mm
  go_wp2_with (refine wpList_store_row rfl 96 _ _ rfl (W.heap.size + 1 + 1) (plX r k false s N p c (.slice none 0 0) (.map (some gm))) (by rfl) (by rfl) 96 #[.int .i64 0, .int .i64 0, .bool false, .string ⟨#[]⟩, .int .i64 0, .string ⟨#[]⟩, .string ⟨#[]⟩, .slice none 0 0, .map none] xm2.out (plX_info _ _ _ _ _ _ _ _ _) rfl (plX_one rfl rfl) ?_)
  go_frame
  (try rw [hw3])
  clear cb2 cp2 xm2 hw3 hmm BX2 hgm
  go_cut [6, 7, 8] from 25 to 33 (fun sw sp sl wx => ∃ g, sw = .iface 167 (.agg #[]) ∧ sp = .pointer (some ⟨g, 0, none⟩) ∧ sl = .string s ∧ ShO (Blk wx g 104 #[.int .i64 r, .int .i64 k]) ∧ ShO (Below w3.heap.size w3 wx) ∧ w3.heap.size ≤ g)
  case first =>
    have HKP := ShO.mk (fun w' (hb : Below w3.heap.size w3 w') => (⟨(BX3.out.p.kept hb BX3.out.p.lt).cells 0, (BX3.out.p.kept hb BX3.out.p.lt).cells 1, (BX3.out.p.kept hb BX3.out.p.lt).cells 2, (BX3.out.p.kept hb BX3.out.p.lt).cells 3⟩ : w'.cell? ⟨W.heap.size + 1, 0, none⟩ = some (.int .i64 r) ∧ w'.cell? ⟨W.heap.size + 1, 1, none⟩ = some (.int .i64 k) ∧ w'.cell? ⟨W.heap.size + 1, 2, none⟩ = some (.bool false) ∧ w'.cell? ⟨W.heap.size + 1, 3, none⟩ = some (.string s)))
    go_region_held3 (fun w' => w'.cell? ⟨W.heap.size + 1, 0, none⟩ = some (.int .i64 r) ∧ w'.cell? ⟨W.heap.size + 1, 1, none⟩ = some (.int .i64 k) ∧ w'.cell? ⟨W.heap.size + 1, 2, none⟩ = some (.bool false) ∧ w'.cell? ⟨W.heap.size + 1, 3, none⟩ = some (.string s))
      (exact HKP.out _ (by first | assumption | exact (Below.refl _ _).drew | exact ((Below.refl _ _).alloc (Nat.le_refl _) _).drew | exact Below.alloc (by assumption) (Below.size (by assumption)) _ | exact Below.setCell (Below.setCell (by assumption) (by first | exact Nat.le_refl _ | exact Below.size (by assumption)) _) (by first | exact Nat.le_refl _ | exact Below.size (by assumption)) _))
      (first | (go_at_call 121; with_reducible refine (direction_on (v := .iface 167 (.agg #[])) w3 r k false s _ rfl (by first | assumption | exact (Below.refl _ _).drew | exact ((Below.refl _ _).alloc (Nat.le_refl _) _).drew)).mono ?_; rintro e wd ⟨rfl, hbd, hcd⟩; (first | (have qd := sq_kept (.inl rfl) hcd; have cqd := qd.cells; have mqd := qd.marks) | (have qd := sq_kept (.inr rfl) hcd; have cqd := qd.cells; have mqd := qd.marks) | skip)))
    all_goals
      go_wp2_with fail
      go_meet
      first
        | exact ⟨_, rfl, rfl, rfl, ⟨Blk.made _ _ _⟩, ⟨Below.alloc hbd hbd.size _⟩, hbd.size⟩
        | exact ⟨_, rfl, rfl, rfl, ⟨(qd.stored 0 _).stored 1 _⟩, ⟨Below.setCell (Below.setCell hbd (Nat.le_refl _) _) (Nat.le_refl _) _⟩, Nat.le_refl _⟩
  case rest =>
    obtain ⟨gs, rfl, rfl, rfl, bs, bel, hgs⟩ := hcut
    have BX4 := ShO.mk (BX3.out.kept bel.out)
    have M4 := ShO.mk (M3.out.kept bel.out)
    have B4 := ShO.mk (B3.out.trans (bel.out.mono B3.out.size))
    have GS := ShO.mk hgs
    have HB3 := ShO.mk (M3.out.lt)
    obtain ⟨zb, hzb⟩ : ∃ z, IntKind.i64.wrap (k + -1) = z := ⟨_, rfl⟩
    have HZB := ShO.mk hzb
    have cs4 := bs.out.cells
    clear hzb
    go_wp2_with fail
    refine (stepR_any (z := zb) (r, k) (-1) _ HZB.out).mono ?_
    rintro e w5 ⟨rfl, hb5⟩
    have BX5 := ShO.mk ((BX4.out.kept hb5).kept ((Below.refl _ _).alloc (Nat.le_refl _) (.cells #[.int .i64 r, .int .i64 zb] 104)))
    have M5 := ShO.mk ((M4.out.kept hb5).kept ((Below.refl _ _).alloc (Nat.le_refl _) (.cells #[.int .i64 r, .int .i64 zb] 104)))
    have B5 := ShO.mk ((B4.out.trans (hb5.mono B4.out.size)).alloc (B4.out.trans (hb5.mono B4.out.size)).size (.cells #[.int .i64 r, .int .i64 zb] 104))
    have S5 := ShO.mk (((bs.out.kept hb5 bs.out.lt)).alloc (.cells #[.int .i64 r, .int .i64 zb] 104))
    have P5 := ShO.mk (Blk.made w5 104 #[.int .i64 r, .int .i64 zb])
    have GB := ShO.mk (show gs < w5.heap.size from Nat.lt_of_lt_of_le bs.out.lt hb5.size)
    have HSZ := World.size_alloc w5 (.cells #[.int .i64 r, .int .i64 zb] 104)
    obtain ⟨gb, hgb⟩ : ∃ gb, w5.heap.size = gb := ⟨_, rfl⟩
    rw [hgb] at P5 GB HSZ
    obtain ⟨w6, hw6⟩ : ∃ w6, w5.alloc (.cells #[.int .i64 r, .int .i64 zb] 104) = w6 := ⟨_, rfl⟩
    rw [hw6] at BX5 M5 B5 S5 P5 HSZ
    have HSZ6 := ShO.mk HSZ
    clear cs4 hb5 HSZ
    go_wp2_with fail
    go_step3
    go_wp2_with fail
    (try rw [hw6])
    (try rw [hgb])
    clear hgb hw6 BX4 M4 B4 bs bel BX3 M3 B3 BX1 B1 B2 BX B0
    have HSZ := ShO.mk (long_size HW.out)
    have HBD := ShO.mk (okBd_nat HOK.out)
    have h0s : 0 < s.size := by have := HSZ.out.1; omega
    obtain ⟨u0, hu0⟩ : ∃ u, s[0]'h0s = u := ⟨_, rfl⟩
    have hne : s.toList.isEmpty = false := nonempty_list (by have := HSZ.out.1; omega)
    have c6 := BX5.out.b.cells
    have s6 := S5.out.cells
    cases hi : inBd (N : Int) r k
    · have HI := ShO.mk (seeC_no (s := c) hi)
      have HNO := ShO.mk (show okPl (N : Int) p c r k false s = false by rw [okPl_fit HOK.out HW.out]; exact fit_out ((inBd_fl false (N : Int) r k).symm.trans (by first | exact hi | (rw [inBd_fl]; exact hi))))
      have HLT := ShO.mk (let_at HSZ.out.2.2 (k := 0) h0s)
      rw [atB_get h0s, hu0] at HLT
      have hlt1 : (0 : Int) < (s.size : Int) := by have := HSZ.out.1; omega
      have hz0 : ((0 : Int) == (u0.toNat : Int)) = false := by rw [beq_eq_false_iff_ne]; intro e; have := HLT.out; rw [← e] at this; cases this
      obtain ⟨y0, hy0⟩ : ∃ y : Int, (u0.toNat : Int) = y := ⟨_, rfl⟩
      rw [hy0] at hz0
      have hz1 : ¬ (0 : Int) = y0 := by simpa using hz0
      go_loopw [8] (fun sl wr => sl = .string s ∧ ShO (wr = w6)) (fun _ _ => 0)
      case atStart => exact ⟨rfl, ⟨rfl⟩⟩
      case round =>
        obtain ⟨rfl, hwr⟩ := hrel
        obtain ⟨rfl⟩ := hwr
        go_wp2_with fail
        obtain ⟨M', hM', h5', h15', -, hcs'⟩ := HBD.out
        obtain rfl : N = M' := by omega
        refine (cellOn_any p c (r, k) _ h5' h15' hcs').mono ?_
        rw [show seeC c (N : Int) (r, k).1 (r, k).2 = 0 from HI.out]
        rintro e w7 ⟨rfl, hb7⟩
        have BX7 := ShO.mk (BX5.out.kept hb7)
        have B7 := ShO.mk (B5.out.trans (hb7.mono B5.out.size))
        clear c6 s6 hb7 hM' h5' h15' hcs'
        have m3 := (BX7.out.c.row_other (Nat.succ_ne_self _) (plX r k false s N p c (.slice none 0 0) (.map (some gm)))).marks 0
        have e3 : (w7.setRow (W.heap.size + 1 + 1) (plX r k false s N p c (.slice none 0 0) (.map (some gm)))).cell? ⟨W.heap.size + 1 + 1 + 1, 0, none⟩ = some (.int .i64 0) := (BX7.out.c.row_other (Nat.succ_ne_self _) (plX r k false s N p c (.slice none 0 0) (.map (some gm)))).cells 0
        go_wp2_with (first | (refine wpList_load_row rfl 96 _ rfl (W.heap.size + 1 + 1) (by rfl) 96 (plX r k false s N p c (.slice none 0 0) (.map (some gm))) (0, 0) _ BX7.out.x Tryd.underlying96 rfl (plX_info _ _ _ _ _ _ _ _ _) ?_) | (refine wpList_store_row rfl 96 _ _ rfl (W.heap.size + 1 + 1) (plX r k false s N p c (.slice none 0 0) (.map (some gm))) (by rfl) (by rfl) 96 (plX r k false s N p c (.slice none 0 0) (.map (some gm))) BX7.out.x (plX_info _ _ _ _ _ _ _ _ _) rfl (plX_one rfl rfl) ?_))
        (try rw [Exit.noGoto_ret])
        have X3 := ShO.mk ((BX7.out.x.row (plX r k false s N p c (.slice none 0 0) (.map (some gm)))).other (p := ⟨W.heap.size + 1 + 1 + 1, 0, none⟩) (Nat.ne_of_lt (Nat.lt_succ_self _)) (.int .i64 1))
        have C3 := ShO.mk ((BX7.out.c.row_other (Nat.succ_ne_self _) (plX r k false s N p c (.slice none 0 0) (.map (some gm)))).stored 0 (.int .i64 1))
        have B3 := ShO.mk ((below_row B7.out (show W.heap.size ≤ W.heap.size + 1 + 1 by omega) (plX r k false s N p c (.slice none 0 0) (.map (some gm)))).setCell (p := ⟨W.heap.size + 1 + 1 + 1, 0, none⟩) (show W.heap.size ≤ W.heap.size + 1 + 1 + 1 by omega) (.int .i64 1))
        have AP3 := ShO.mk (Apart.setCell (p := ⟨W.heap.size + 1 + 1 + 1, 0, none⟩) (apart_row (Apart.refl (fun i => i < W.heap.size + 1 + 1 + 1 + 1) w7) (show W.heap.size + 1 + 1 < W.heap.size + 1 + 1 + 1 + 1 by omega) (plX r k false s N p c (.slice none 0 0) (.map (some gm)))) (fun _ => (show W.heap.size + 1 + 1 + 1 < W.heap.size + 1 + 1 + 1 + 1 by omega)) (.int .i64 1))
        obtain ⟨w9, hw9⟩ : ∃ w9, (w7.setRow (W.heap.size + 1 + 1) (plX r k false s N p c (.slice none 0 0) (.map (some gm)))).setCell ⟨W.heap.size + 1 + 1 + 1, 0, none⟩ (.int .i64 1) = w9 := ⟨_, rfl⟩
        rw [hw9] at X3 C3 B3 AP3 ⊢
        clear m3 e3 hw9
        refine leaves_cons (f := 119) (args := #[.pointer (some ⟨W.heap.size + 1 + 1 + 1, 0, none⟩), .pointer (some ⟨W.heap.size + 1 + 1, 0, none⟩)]) (by simp) (by simp [go_sem]) ?_
        refine (placed_clear (W.heap.size + 1 + 1 + 1) (W.heap.size + 1 + 1) w9 .returning (C3.out.cells 0) X3.out rfl).mono ?_
        rintro e u' w'' ⟨rfl, rfl, rfl⟩
        refine ⟨_, results_placed rfl rfl (X3.out.row noX) (plX_info _ _ _ _ _ _ _ _ _) ((C3.out.row_other (Nat.succ_ne_self _) noX).cells 0), below_row B3.out (show W.heap.size ≤ W.heap.size + 1 + 1 by omega) noX, Or.inl ⟨HNO.out, rfl⟩⟩
    · obtain ⟨A0, B0', rfl, rfl, hA0, hB0', -⟩ := fit_nat hi
      obtain ⟨A, B, hAB, hA, hB⟩ : ∃ A B : Nat, sqOf false A B 0 = ((A0 : Int), (B0' : Int)) ∧ A < N ∧ B < N := by first | exact ⟨A0, B0', rfl, hA0, hB0'⟩ | exact ⟨B0', A0, rfl, hB0', hA0⟩
      obtain ⟨rfl, rfl⟩ : A = A0 ∧ B = B0' := by
        injection hAB with e1 e2
        have e1' : ((A + 0 : Nat) : Int) = (A0 : Int) := e1
        have e2' : ((B + 0 : Nat) : Int) = (B0' : Int) := e2
        exact ⟨by omega, by omega⟩
      clear hA0 hB0' hAB hi
      obtain ⟨f, hf⟩ : ∃ f, f = flS false N c := ⟨_, rfl⟩
      have HF := ShO.mk hf
      have HA := ShO.mk hA
      have HB := ShO.mk hB
      have H15 := ShO.mk (show 5 ≤ N ∧ N ≤ 15 ∧ c.size = N * N by obtain ⟨M', hM', h5', h15', -, hcs'⟩ := HBD.out; obtain rfl : N = M' := (by omega); exact ⟨h5', h15', hcs'⟩)
      have HZ := ShO.mk (show zb = (B : Int) - 1 from HZB.out.symm.trans (IntWalk.i64_in _ (by have := HB.out; have := H15.out.2.1; omega)))
      have EMP := ShO.mk (M5.out.letM false A B s)
      clear hf hA hB c6 s6 hu0 hne h0s HZB
      go_loopw [8] (fun sl wr => ∃ (j : Nat) (v : Value) (D : DataW Unit), j ≤ s.size ∧ sl = .string (s.extract j s.size) ∧ B + j ≤ N ∧ ShO (seeTo f s (A * N + B) j = true) ∧ ShO (Blk wr (W.heap.size + 1 + 1) 96 (plX (A : Int) (B : Int) false s N p c v (.map (some gm)))) ∧ ShO (OwnQ w6.heap.size wr v (newL false A B (frL f (A * N + B) j))) ∧ ShO (LetM wr gm false A B s (frL f (A * N + B) j) D) ∧ ShO (Blk wr gs 104 #[.int .i64 (sqOf false A B j).1, .int .i64 (sqOf false A B j).2]) ∧ ShO (Apart (fun i => i = W.heap.size + 1 + 1 ∨ i = gm ∨ i = gs) w6 wr)) (fun sl _ => strLenP sl)
      case atStart => exact ⟨0, .slice none 0 0, .map [], Nat.zero_le _, by rw [ext_all], by have := HB.out; omega, ⟨rfl⟩, ⟨BX5.out.x⟩, ⟨OwnQ.nil _ _⟩, EMP, ⟨S5.out⟩, ⟨Apart.refl _ _⟩⟩
      case round =>
        obtain ⟨j, v, D, hj, rfl, hbj, hse, hX, hQ, hM, hS, hAp⟩ := hrel
        obtain ⟨w7, hw7⟩ : ∃ w7, w7 = wr := ⟨_, rfl⟩
        subst hw7
        obtain ⟨av, cv, rfl, -⟩ := hQ.out.form
        rw [newL_len] at hX hQ
        have BX7 := ShO.mk (BX5.out.apartX hAp.out (by have h2 := HSZ6.out; have h3 := GM.out; have h4 := HB3.out; have h5 := GS.out; have h6 := GB.out; omega) (by have h2 := HSZ6.out; have h3 := GM.out; have h4 := HB3.out; have h5 := GS.out; have h6 := GB.out; omega) (by have h2 := HSZ6.out; have h3 := GM.out; have h4 := HB3.out; have h5 := GS.out; have h6 := GB.out; omega) hX.out)
        have P7 := ShO.mk (P5.out.apart hAp.out (by have h2 := HSZ6.out; have h3 := GM.out; have h4 := HB3.out; have h5 := GS.out; have h6 := GB.out; omega))
        have B7 := ShO.mk (B5.out.trans (hAp.out.below (B := W.heap.size) (by have h3 := GM.out; have h4 := HB3.out; have h5 := GS.out; intro i hi e; omega) B5.out.size))
        obtain ⟨q, hq⟩ : ∃ q, sqOf false A B j = q := ⟨_, rfl⟩
        have HQX := ShO.mk hq
        rw [hq] at hS
        obtain ⟨q0, q1⟩ := q
        have c7 := BX7.out.b.cells
        have s7 := hS.out.cells
        have HJ := ShO.mk hj
        have HBJ := ShO.mk hbj
        have HFL := ShO.mk (frL_len f (A * N + B) j)
        clear hq hj hbj
        by_cases hlt : j < s.size
        · have hLs : (s.extract j s.size).size = s.size - j := by rw [ByteArray.size_extract]; omega
          have hrest := ext_rest s j
          have hL0 := ext_first hlt
          obtain ⟨L, hL⟩ : ∃ L, s.extract j s.size = L := ⟨_, rfl⟩
          rw [hL] at hLs hrest hL0 ⊢
          have HREST := ShO.mk hrest
          have HLS := ShO.mk hLs
          have h0L : 0 < L.size := by omega
          have hLn : L.toList.isEmpty = false := nonempty_list h0L
          have hlt1 : (0 : Int) < (L.size : Int) := by omega
          have hle1 : (1 : Int) ≤ (L.size : Int) := by omega
          obtain ⟨u0, hu0⟩ : ∃ u, L[0]'h0L = u := ⟨_, rfl⟩
          have HU0 := ShO.mk (show atB s j = u0 by rw [← hu0]; exact (hL0 h0L).symm)
          have HLT := ShO.mk hlt
          obtain ⟨y0, hy0⟩ : ∃ y : Int, (u0.toNat : Int) = y := ⟨_, rfl⟩
          have HY0 := ShO.mk hy0
          have HLET := ShO.mk (let_at HSZ.out.2.2 hlt)
          clear hLs hrest hL0 hL hlt
          go_wp2_with fail
          refine (cellOn_any p c (q0, q1) _ H15.out.1 H15.out.2.1 H15.out.2.2).mono ?_
          rw [show (q0, q1) = sqOf false A B j from HQX.out.symm]
          rcases Nat.lt_or_ge (B + j) N with hon | hoff
          · have HON := ShO.mk hon
            rw [see_sq HA.out hon, ← HF.out]
            obtain ⟨u, hu⟩ : ∃ u, atB f (A * N + B + j) = u := ⟨_, rfl⟩
            have HU := ShO.mk hu
            rw [hu]
            clear hon hu
            rintro e w8 ⟨rfl, hb8⟩
            have BX8 := ShO.mk (BX7.out.kept hb8)
            have B8 := ShO.mk (B7.out.trans (hb8.mono B7.out.size))
            have S8 := ShO.mk (show Blk w8 gs 104 #[.int .i64 q0, .int .i64 q1] from hS.out.kept hb8 hS.out.lt)
            have HQ8 := ShO.mk (hQ.out.kept hb8).drew
            have HM8n := ShO.mk (hM.out.below hb8)
            have HM8 := ShO.mk HM8n.out.drew
            have AP8 := ShO.mk (hAp.out.belowA hb8)
            clear hb8 c7 s7
            cases h46 : (u == 46)
            · cases heq : (u == u0)
              · have HNO := ShO.mk (show okPl (N : Int) p c (A : Int) (B : Int) false s = false by
                  rw [okPl_fit HOK.out HW.out]
                  show fitB N (flS false N c) (A : Int) (B : Int) s = false
                  rw [← HF.out]
                  exact fit_see HLT.out (by unfold seeB; rw [HU.out, HU0.out, h46, heq]; rfl))
                have hz1 : ((u.toNat : Int) == 46) = false := by rw [dot_byteU]; exact h46
                have hz2 : ((u.toNat : Int) == y0) = false := by rw [← hy0]; exact byte_ne heq
                have hz3 : ¬ (u.toNat : Int) = y0 := by simpa using hz2
                have hz4 : ¬ (u.toNat : Int) = 46 := by simpa using hz1
                obtain ⟨z, hzz⟩ : ∃ z : Int, (u.toNat : Int) = z := ⟨_, rfl⟩
                rw [hzz] at hz1 hz2 hz3 hz4
                rw [hzz]
                clear h46 heq hzz
                have m3 := (BX8.out.c.row_other (Nat.succ_ne_self _) (plX (A : Int) (B : Int) false s N p c (.slice av (frL f (A * N + B) j).length cv) (.map (some gm)))).marks 0
                have e3 : (w8.setRow (W.heap.size + 1 + 1) (plX (A : Int) (B : Int) false s N p c (.slice av (frL f (A * N + B) j).length cv) (.map (some gm)))).cell? ⟨W.heap.size + 1 + 1 + 1, 0, none⟩ = some (.int .i64 0) := (BX8.out.c.row_other (Nat.succ_ne_self _) (plX (A : Int) (B : Int) false s N p c (.slice av (frL f (A * N + B) j).length cv) (.map (some gm)))).cells 0
                go_wp2_with (first | (refine wpList_load_row rfl 96 _ rfl (W.heap.size + 1 + 1) (by rfl) 96 (plX (A : Int) (B : Int) false s N p c (.slice av (frL f (A * N + B) j).length cv) (.map (some gm))) (0, 0) _ BX8.out.x Tryd.underlying96 rfl (plX_info _ _ _ _ _ _ _ _ _) ?_) | (refine wpList_store_row rfl 96 _ _ rfl (W.heap.size + 1 + 1) (plX (A : Int) (B : Int) false s N p c (.slice av (frL f (A * N + B) j).length cv) (.map (some gm))) (by rfl) (by rfl) 96 (plX (A : Int) (B : Int) false s N p c (.slice av (frL f (A * N + B) j).length cv) (.map (some gm))) BX8.out.x (plX_info _ _ _ _ _ _ _ _ _) rfl (plX_one rfl rfl) ?_))
                (try rw [Exit.noGoto_ret])
                have X3 := ShO.mk ((BX8.out.x.row (plX (A : Int) (B : Int) false s N p c (.slice av (frL f (A * N + B) j).length cv) (.map (some gm)))).other (p := ⟨W.heap.size + 1 + 1 + 1, 0, none⟩) (Nat.ne_of_lt (Nat.lt_succ_self _)) (.int .i64 1))
                have C3 := ShO.mk ((BX8.out.c.row_other (Nat.succ_ne_self _) (plX (A : Int) (B : Int) false s N p c (.slice av (frL f (A * N + B) j).length cv) (.map (some gm)))).stored 0 (.int .i64 1))
                have B3 := ShO.mk ((below_row B8.out (show W.heap.size ≤ W.heap.size + 1 + 1 by omega) (plX (A : Int) (B : Int) false s N p c (.slice av (frL f (A * N + B) j).length cv) (.map (some gm)))).setCell (p := ⟨W.heap.size + 1 + 1 + 1, 0, none⟩) (show W.heap.size ≤ W.heap.size + 1 + 1 + 1 by omega) (.int .i64 1))
                have AP3 := ShO.mk (Apart.setCell (p := ⟨W.heap.size + 1 + 1 + 1, 0, none⟩) (apart_row (Apart.refl (fun i => i < W.heap.size + 1 + 1 + 1 + 1) w8) (show W.heap.size + 1 + 1 < W.heap.size + 1 + 1 + 1 + 1 by omega) (plX (A : Int) (B : Int) false s N p c (.slice av (frL f (A * N + B) j).length cv) (.map (some gm)))) (fun _ => (show W.heap.size + 1 + 1 + 1 < W.heap.size + 1 + 1 + 1 + 1 by omega)) (.int .i64 1))
                obtain ⟨w9, hw9⟩ : ∃ w9, (w8.setRow (W.heap.size + 1 + 1) (plX (A : Int) (B : Int) false s N p c (.slice av (frL f (A * N + B) j).length cv) (.map (some gm)))).setCell ⟨W.heap.size + 1 + 1 + 1, 0, none⟩ (.int .i64 1) = w9 := ⟨_, rfl⟩
                rw [hw9] at X3 C3 B3 AP3 ⊢
                clear m3 e3 hw9
                refine leaves_cons (f := 119) (args := #[.pointer (some ⟨W.heap.size + 1 + 1 + 1, 0, none⟩), .pointer (some ⟨W.heap.size + 1 + 1, 0, none⟩)]) (by simp) (by simp [go_sem]) ?_
                refine (placed_clear (W.heap.size + 1 + 1 + 1) (W.heap.size + 1 + 1) w9 .returning (C3.out.cells 0) X3.out rfl).mono ?_
                rintro e u' w'' ⟨rfl, rfl, rfl⟩
                refine ⟨_, results_placed rfl rfl (X3.out.row noX) (plX_info _ _ _ _ _ _ _ _ _) ((C3.out.row_other (Nat.succ_ne_self _) noX).cells 0), below_row B3.out (show W.heap.size ≤ W.heap.size + 1 + 1 by omega) noX, Or.inl ⟨HNO.out, rfl⟩⟩
              · have hz1 : ((u.toNat : Int) == 46) = false := by rw [dot_byteU]; exact h46
                have HFR := ShO.mk (frL_no (f := f) (b := A * N + B) (m := j) (by rw [HU.out]; exact h46))
                have HSE := ShO.mk (show seeTo f s (A * N + B) (j + 1) = true by rw [seeTo_succ, hse.out]; unfold seeB; rw [HU.out, HU0.out, heq, Bool.or_true]; rfl)
                obtain rfl : u = u0 := beq_iff_eq.1 heq
                rw [hy0] at hz1
                have hz4 : ¬ y0 = 46 := by simpa using hz1
                rw [hy0]
                clear h46 heq
                have s8 := S8.out.cells
                have S9 := S8
                have X9 := ShO.mk BX8.out.x
                have HQ9 := ShO.mk (show OwnQ w6.heap.size w8 (.slice av (frL f (A * N + B) j).length cv) (newL false A B (frL f (A * N + B) (j + 1))) by rw [HFR.out]; exact HQ8.out)
                have HM9 := ShO.mk (show LetM w8 gm false A B s (frL f (A * N + B) (j + 1)) D by rw [HFR.out]; exact HM8n.out)
                have AP9 := AP8
                have hX9 := X9.out
                obtain ⟨w9, hw9⟩ : ∃ w9, w9 = w8 := ⟨_, rfl⟩
                subst hw9
                go_wp2_with fail
                obtain ⟨n1, hn1⟩ : ∃ z, IntKind.i64.wrap (q1 + 1) = z := ⟨_, rfl⟩
                have HN1 := ShO.mk hn1
                have HNX := ShO.mk (show sqOf false A B (j + 1) = (q0, n1) from next_sqR HQX.out hn1 (by have := HON.out; have := H15.out.2.1; omega))
                have S9d := ShO.mk (show Blk w9.drew gs 104 #[.int .i64 q0, .int .i64 q1] from S9.out)
                have hmeth := step_methodR
                have hent := step_entersR
                clear hn1
                refine wp_region_noPanic ?_
                go_region_with (first | (go_at_call 225; with_reducible refine (stepR_any (z := n1) (q0, q1) 1 _ HN1.out).mono ?_; rintro e w10 ⟨rfl, hb10⟩; have q10 := S9d.out.kept hb10 S9d.out.lt; have c10 := q10.cells; have m10 := q10.marks))
                all_goals
                  have HB10 := ShO.mk hb10
                  clear c10 m10 hb10
                  refine NoPanic.normal ?_
                  (try simp only [Act.put, List.getElem_toArray, List.getElem_cons_succ, List.getElem_cons_zero])
                  go_wp2
                  (try go_frame)
                  go_roundw
                  case rel =>
                    have AP10 := (((AP9.out.drew.belowA HB10.out).setCell (p := ⟨gs, 0, none⟩) (fun _ => Or.inr (Or.inr rfl)) (.int .i64 q0)).setCell (p := ⟨gs, 1, none⟩) (fun _ => Or.inr (Or.inr rfl)) (.int .i64 n1))
                    have AS := ((Apart.refl (fun i => i = gs) w10).setCell (p := ⟨gs, 0, none⟩) (fun _ => rfl) (.int .i64 q0)).setCell (p := ⟨gs, 1, none⟩) (fun _ => rfl) (.int .i64 n1)
                    refine ⟨j + 1, .slice av (frL f (A * N + B) j).length cv, D, by have := HLT.out; omega, by rw [HREST.out], by have := HON.out; omega, HSE, ⟨?_⟩, ⟨?_⟩, ⟨?_⟩, ⟨?_⟩, ⟨AP10⟩⟩
                    · exact ((show Blk w9.drew _ _ _ from hX9).kept HB10.out hX9.lt).apart AS (by have h2 := HSZ6.out; have h3 := GM.out; have h4 := HB3.out; have h5 := GS.out; have h6 := GB.out; omega)
                    · exact ownQ_apart ((show OwnQ w6.heap.size w9.drew _ _ from HQ9.out).kept HB10.out) AS (fun i hi e => by have := (ownQ_lt HQ9.out i hi).1; have h2 := HSZ6.out; have h6 := GB.out; omega)
                    · exact (HM9.out.drew.below HB10.out).apart AS (by have h4 := HB3.out; have h5 := GS.out; omega)
                    · rw [HNX.out]; exact (((show Blk w9.drew _ _ _ from S9.out).kept HB10.out S9.out.lt).stored 0 _).stored 1 _
                  case measure => simp [strLenP]; have := HLS.out; have := HLT.out; omega
            · have HSE := ShO.mk (show seeTo f s (A * N + B) (j + 1) = true by rw [seeTo_succ, hse.out]; unfold seeB; rw [HU.out, h46]; rfl)
              have HFR := ShO.mk (frL_yes (f := f) (b := A * N + B) (m := j) (by rw [HU.out]; exact h46))
              obtain rfl : u = 46 := beq_iff_eq.1 h46
              have HX8 := ShO.mk (show Blk w8.drew (W.heap.size + 1 + 1) 96 (plX (A : Int) (B : Int) false s N p c (.slice av (frL f (A * N + B) j).length cv) (.map (some gm))) from BX8.out.x)
              have hz1 : (((46 : UInt8).toNat : Int) == 46) = true := rfl
              have HY := ShO.mk (show ((atB s j).toNat : Int) = y0 by rw [HU0.out]; exact hy0)
              have HKS := ShO.mk (fun wx (hb : Below w8.heap.size w8 wx) => (⟨(S8.out.kept hb S8.out.lt).cells 0, (S8.out.kept hb S8.out.lt).cells 1⟩ : wx.cell? ⟨gs, 0, none⟩ = some (.int .i64 q0) ∧ wx.cell? ⟨gs, 1, none⟩ = some (.int .i64 q1)))
              have HPR := ShO.mk (show (newL false A B (frL f (A * N + B) j)).length ≤ 20 ∧ A ≤ 100 ∧ (∀ i ∈ j :: frL f (A * N + B) j, B + i ≤ 100) ∧ j ∉ frL f (A * N + B) j ∧ (frL f (A * N + B) j).length ≤ 20 ∧ w6.heap.size ≤ w8.drew.heap.size ∧ W.heap.size + 1 + 1 < w6.heap.size ∧ gm < w6.heap.size ∧ gm ≠ W.heap.size + 1 + 1 by
                have h1 := HFL.out
                have h2 := HSZ6.out; have h3 := GM.out; have h4 := HB3.out; have h5 := GS.out; have h6 := GB.out
                have h7 := H15.out.2.1; have h8 := HA.out; have h9 := HON.out
                have h10 := HLT.out; have h11 := HSZ.out.2.1
                refine ⟨by rw [newL_len]; omega, by omega, ?_, fun h => ?_, by omega, AP8.out.size, by omega, by omega, by omega⟩
                · intro i hi
                  rcases List.mem_cons.1 hi with rfl | hi
                  · omega
                  · have := (frL_mem.1 hi).1; omega
                · have := (frL_mem.1 h).1; omega)
              clear h46
              have s8 := S8.out.cells
              rw [show (((46 : UInt8).toNat : Nat) : Int) = 46 from rfl]
              go_wp2_with fail
              go_region_held3 (fun wx => wx.cell? ⟨gs, 0, none⟩ = some (.int .i64 q0) ∧ wx.cell? ⟨gs, 1, none⟩ = some (.int .i64 q1))
                (first | exact HKS.out _ (Below.refl _ _).drew | exact HK9.out)
                (first | (go_at_call 123; with_reducible refine (place_on (B := w6.heap.size) w8.drew HQX.out HY.out HX8.out HQ8.out HPR.out.1 HM8.out HPR.out.2.1 HPR.out.2.2.1 HPR.out.2.2.2.1 HPR.out.2.2.2.2.1 HPR.out.2.2.2.2.2.1 HPR.out.2.2.2.2.2.2.1 HPR.out.2.2.2.2.2.2.2.1 HPR.out.2.2.2.2.2.2.2.2).mono ?_; rintro e w9 ⟨rfl, v9, hX9, hQ9, ⟨D9, hM9⟩, hA9⟩; have S9 := ShO.mk (show Blk w9 gs 104 #[.int .i64 q0, .int .i64 q1] from S8.out.drew.apart hA9 (chg_not HSZ6.out GM.out HB3.out GS.out GB.out)); have HK9 := ShO.mk (show w9.cell? ⟨gs, 0, none⟩ = some (.int .i64 q0) ∧ w9.cell? ⟨gs, 1, none⟩ = some (.int .i64 q1) from sq_pair S9.out)))
              all_goals
                have HQ9 := ShO.mk (show OwnQ w6.heap.size w9 v9 (newL false A B (frL f (A * N + B) (j + 1))) by rw [HFR.out]; unfold newL at hQ9 ⊢; rw [List.map_append]; exact hQ9)
                have HM9 := ShO.mk (show LetM w9 gm false A B s (frL f (A * N + B) (j + 1)) D9 by rw [HFR.out]; exact hM9)
                have AP9 := ShO.mk (AP8.out.drew.trans hA9 (fun i hi e => chg_in hi e))
                obtain ⟨av9, cv9, rfl, -⟩ := hQ9.form
                clear hQ9 hM9 hA9 HK9
                have s9 := S9.out.cells
                go_wp2_with fail
                obtain ⟨n1, hn1⟩ : ∃ z, IntKind.i64.wrap (q1 + 1) = z := ⟨_, rfl⟩
                have HN1 := ShO.mk hn1
                have HNX := ShO.mk (show sqOf false A B (j + 1) = (q0, n1) from next_sqR HQX.out hn1 (by have := HON.out; have := H15.out.2.1; omega))
                have S9d := ShO.mk (show Blk w9.drew gs 104 #[.int .i64 q0, .int .i64 q1] from S9.out)
                have hmeth := step_methodR
                have hent := step_entersR
                clear hn1
                refine wp_region_noPanic ?_
                go_region_with (first | (go_at_call 225; with_reducible refine (stepR_any (z := n1) (q0, q1) 1 _ HN1.out).mono ?_; rintro e w10 ⟨rfl, hb10⟩; have q10 := S9d.out.kept hb10 S9d.out.lt; have c10 := q10.cells; have m10 := q10.marks))
                all_goals
                  have HB10 := ShO.mk hb10
                  clear c10 m10 hb10
                  refine NoPanic.normal ?_
                  (try simp only [Act.put, List.getElem_toArray, List.getElem_cons_succ, List.getElem_cons_zero])
                  go_wp2
                  (try go_frame)
                  go_roundw
                  case rel =>
                    have AP10 := (((AP9.out.drew.belowA HB10.out).setCell (p := ⟨gs, 0, none⟩) (fun _ => Or.inr (Or.inr rfl)) (.int .i64 q0)).setCell (p := ⟨gs, 1, none⟩) (fun _ => Or.inr (Or.inr rfl)) (.int .i64 n1))
                    have AS := ((Apart.refl (fun i => i = gs) w10).setCell (p := ⟨gs, 0, none⟩) (fun _ => rfl) (.int .i64 q0)).setCell (p := ⟨gs, 1, none⟩) (fun _ => rfl) (.int .i64 n1)
                    refine ⟨j + 1, .slice av9 (newL false A B (frL f (A * N + B) j) ++ [sqOf false A B j]).length cv9, D9, by have := HLT.out; omega, by rw [HREST.out], by have := HON.out; omega, HSE, ⟨?_⟩, ⟨?_⟩, ⟨?_⟩, ⟨?_⟩, ⟨AP10⟩⟩
                    · exact ((show Blk w9.drew _ _ _ from hX9).kept HB10.out hX9.lt).apart AS (by have h2 := HSZ6.out; have h3 := GM.out; have h4 := HB3.out; have h5 := GS.out; have h6 := GB.out; omega)
                    · exact ownQ_apart ((show OwnQ w6.heap.size w9.drew _ _ from HQ9.out).kept HB10.out) AS (fun i hi e => by have := (ownQ_lt HQ9.out i hi).1; have h2 := HSZ6.out; have h6 := GB.out; omega)
                    · exact (HM9.out.drew.below HB10.out).apart AS (by have h4 := HB3.out; have h5 := GS.out; omega)
                    · rw [HNX.out]; exact (((show Blk w9.drew _ _ _ from S9.out).kept HB10.out S9.out.lt).stored 0 _).stored 1 _
                  case measure => simp [strLenP]; have := HLS.out; have := HLT.out; omega
          · have HNO := ShO.mk (show okPl (N : Int) p c (A : Int) (B : Int) false s = false by
              rw [okPl_fit HOK.out HW.out]
              show fitB N (flS false N c) (A : Int) (B : Int) s = false
              exact fit_long (by have := HLT.out; omega))
            rw [see_off hoff]
            have hz1 : ¬ (0 : Int) = y0 := by
              have := HLET.out
              rw [HU0.out, hy0] at this
              intro e
              rw [← e] at this; cases this
            rintro e w8 ⟨rfl, hb8⟩
            have BX8 := ShO.mk (BX7.out.kept hb8)
            have B8 := ShO.mk (B7.out.trans (hb8.mono B7.out.size))
            clear hb8 c7 s7 hoff
            have m3 := (BX8.out.c.row_other (Nat.succ_ne_self _) (plX (A : Int) (B : Int) false s N p c (.slice av (frL f (A * N + B) j).length cv) (.map (some gm)))).marks 0
            have e3 : (w8.setRow (W.heap.size + 1 + 1) (plX (A : Int) (B : Int) false s N p c (.slice av (frL f (A * N + B) j).length cv) (.map (some gm)))).cell? ⟨W.heap.size + 1 + 1 + 1, 0, none⟩ = some (.int .i64 0) := (BX8.out.c.row_other (Nat.succ_ne_self _) (plX (A : Int) (B : Int) false s N p c (.slice av (frL f (A * N + B) j).length cv) (.map (some gm)))).cells 0
            go_wp2_with (first | (refine wpList_load_row rfl 96 _ rfl (W.heap.size + 1 + 1) (by rfl) 96 (plX (A : Int) (B : Int) false s N p c (.slice av (frL f (A * N + B) j).length cv) (.map (some gm))) (0, 0) _ BX8.out.x Tryd.underlying96 rfl (plX_info _ _ _ _ _ _ _ _ _) ?_) | (refine wpList_store_row rfl 96 _ _ rfl (W.heap.size + 1 + 1) (plX (A : Int) (B : Int) false s N p c (.slice av (frL f (A * N + B) j).length cv) (.map (some gm))) (by rfl) (by rfl) 96 (plX (A : Int) (B : Int) false s N p c (.slice av (frL f (A * N + B) j).length cv) (.map (some gm))) BX8.out.x (plX_info _ _ _ _ _ _ _ _ _) rfl (plX_one rfl rfl) ?_))
            (try rw [Exit.noGoto_ret])
            have X3 := ShO.mk ((BX8.out.x.row (plX (A : Int) (B : Int) false s N p c (.slice av (frL f (A * N + B) j).length cv) (.map (some gm)))).other (p := ⟨W.heap.size + 1 + 1 + 1, 0, none⟩) (Nat.ne_of_lt (Nat.lt_succ_self _)) (.int .i64 1))
            have C3 := ShO.mk ((BX8.out.c.row_other (Nat.succ_ne_self _) (plX (A : Int) (B : Int) false s N p c (.slice av (frL f (A * N + B) j).length cv) (.map (some gm)))).stored 0 (.int .i64 1))
            have B3 := ShO.mk ((below_row B8.out (show W.heap.size ≤ W.heap.size + 1 + 1 by omega) (plX (A : Int) (B : Int) false s N p c (.slice av (frL f (A * N + B) j).length cv) (.map (some gm)))).setCell (p := ⟨W.heap.size + 1 + 1 + 1, 0, none⟩) (show W.heap.size ≤ W.heap.size + 1 + 1 + 1 by omega) (.int .i64 1))
            have AP3 := ShO.mk (Apart.setCell (p := ⟨W.heap.size + 1 + 1 + 1, 0, none⟩) (apart_row (Apart.refl (fun i => i < W.heap.size + 1 + 1 + 1 + 1) w8) (show W.heap.size + 1 + 1 < W.heap.size + 1 + 1 + 1 + 1 by omega) (plX (A : Int) (B : Int) false s N p c (.slice av (frL f (A * N + B) j).length cv) (.map (some gm)))) (fun _ => (show W.heap.size + 1 + 1 + 1 < W.heap.size + 1 + 1 + 1 + 1 by omega)) (.int .i64 1))
            obtain ⟨w9, hw9⟩ : ∃ w9, (w8.setRow (W.heap.size + 1 + 1) (plX (A : Int) (B : Int) false s N p c (.slice av (frL f (A * N + B) j).length cv) (.map (some gm)))).setCell ⟨W.heap.size + 1 + 1 + 1, 0, none⟩ (.int .i64 1) = w9 := ⟨_, rfl⟩
            rw [hw9] at X3 C3 B3 AP3 ⊢
            clear m3 e3 hw9
            refine leaves_cons (f := 119) (args := #[.pointer (some ⟨W.heap.size + 1 + 1 + 1, 0, none⟩), .pointer (some ⟨W.heap.size + 1 + 1, 0, none⟩)]) (by simp) (by simp [go_sem]) ?_
            refine (placed_clear (W.heap.size + 1 + 1 + 1) (W.heap.size + 1 + 1) w9 .returning (C3.out.cells 0) X3.out rfl).mono ?_
            rintro e u' w'' ⟨rfl, rfl, rfl⟩
            refine ⟨_, results_placed rfl rfl (X3.out.row noX) (plX_info _ _ _ _ _ _ _ _ _) ((C3.out.row_other (Nat.succ_ne_self _) noX).cells 0), below_row B3.out (show W.heap.size ≤ W.heap.size + 1 + 1 by omega) noX, Or.inl ⟨HNO.out, rfl⟩⟩
        · obtain rfl : j = s.size := by have := HJ.out; omega
          have hemp : (s.extract s.size s.size).toList.isEmpty = true := empty_list (by rw [ByteArray.size_extract]; omega)
          obtain ⟨L, hL⟩ : ∃ L, s.extract s.size s.size = L := ⟨_, rfl⟩
          rw [hL] at hemp ⊢
          clear hL
          have HFE := ShO.mk (fit_end (f := f) HA.out HB.out HBJ.out hse.out)
          have x7 := hX.out.cells
          have p7 := P7.out.cells
          obtain ⟨m, hm⟩ : ∃ m, (frL f (A * N + B) s.size).length = m := ⟨_, rfl⟩
          rw [hm] at hX hQ x7 BX7
          have x77 : w7.cell? ⟨W.heap.size + 1 + 1, 7, none⟩ = some (.slice av m cv) := x7 7
          have HMM := ShO.mk hm
          clear hm x7 hlt
          by_cases hm0 : m = 0
          · subst hm0
            have HNO := ShO.mk (show okPl (N : Int) p c (A : Int) (B : Int) false s = false by
              rw [okPl_fit HOK.out HW.out]
              show fitB N (flS false N c) (A : Int) (B : Int) s = false
              rw [← HF.out, HFE.out, show frL f (A * N + B) s.size = [] from List.eq_nil_of_length_eq_zero HMM.out, List.isEmpty_nil, Bool.not_true, Bool.and_false, Bool.and_false])
            have m3 := (BX7.out.c.row_other (Nat.succ_ne_self _) (plX (A : Int) (B : Int) false s N p c (.slice av 0 cv) (.map (some gm)))).marks 0
            have e3 : (w7.setRow (W.heap.size + 1 + 1) (plX (A : Int) (B : Int) false s N p c (.slice av 0 cv) (.map (some gm)))).cell? ⟨W.heap.size + 1 + 1 + 1, 0, none⟩ = some (.int .i64 0) := (BX7.out.c.row_other (Nat.succ_ne_self _) (plX (A : Int) (B : Int) false s N p c (.slice av 0 cv) (.map (some gm)))).cells 0
            go_wp2_with (first | (refine wpList_load_row rfl 96 _ rfl (W.heap.size + 1 + 1) (by rfl) 96 (plX (A : Int) (B : Int) false s N p c (.slice av 0 cv) (.map (some gm))) (0, 0) _ BX7.out.x Tryd.underlying96 rfl (plX_info _ _ _ _ _ _ _ _ _) ?_) | (refine wpList_store_row rfl 96 _ _ rfl (W.heap.size + 1 + 1) (plX (A : Int) (B : Int) false s N p c (.slice av 0 cv) (.map (some gm))) (by rfl) (by rfl) 96 (plX (A : Int) (B : Int) false s N p c (.slice av 0 cv) (.map (some gm))) BX7.out.x (plX_info _ _ _ _ _ _ _ _ _) rfl (plX_one rfl rfl) ?_))
            (try rw [Exit.noGoto_ret])
            have X3 := ShO.mk ((BX7.out.x.row (plX (A : Int) (B : Int) false s N p c (.slice av 0 cv) (.map (some gm)))).other (p := ⟨W.heap.size + 1 + 1 + 1, 0, none⟩) (Nat.ne_of_lt (Nat.lt_succ_self _)) (.int .i64 1))
            have C3 := ShO.mk ((BX7.out.c.row_other (Nat.succ_ne_self _) (plX (A : Int) (B : Int) false s N p c (.slice av 0 cv) (.map (some gm)))).stored 0 (.int .i64 1))
            have B3 := ShO.mk ((below_row B7.out (show W.heap.size ≤ W.heap.size + 1 + 1 by omega) (plX (A : Int) (B : Int) false s N p c (.slice av 0 cv) (.map (some gm)))).setCell (p := ⟨W.heap.size + 1 + 1 + 1, 0, none⟩) (show W.heap.size ≤ W.heap.size + 1 + 1 + 1 by omega) (.int .i64 1))
            have AP3 := ShO.mk (Apart.setCell (p := ⟨W.heap.size + 1 + 1 + 1, 0, none⟩) (apart_row (Apart.refl (fun i => i < W.heap.size + 1 + 1 + 1 + 1) w7) (show W.heap.size + 1 + 1 < W.heap.size + 1 + 1 + 1 + 1 by omega) (plX (A : Int) (B : Int) false s N p c (.slice av 0 cv) (.map (some gm)))) (fun _ => (show W.heap.size + 1 + 1 + 1 < W.heap.size + 1 + 1 + 1 + 1 by omega)) (.int .i64 1))
            obtain ⟨w9, hw9⟩ : ∃ w9, (w7.setRow (W.heap.size + 1 + 1) (plX (A : Int) (B : Int) false s N p c (.slice av 0 cv) (.map (some gm)))).setCell ⟨W.heap.size + 1 + 1 + 1, 0, none⟩ (.int .i64 1) = w9 := ⟨_, rfl⟩
            rw [hw9] at X3 C3 B3 AP3 ⊢
            clear m3 e3 hw9
            refine leaves_cons (f := 119) (args := #[.pointer (some ⟨W.heap.size + 1 + 1 + 1, 0, none⟩), .pointer (some ⟨W.heap.size + 1 + 1, 0, none⟩)]) (by simp) (by simp [go_sem]) ?_
            refine (placed_clear (W.heap.size + 1 + 1 + 1) (W.heap.size + 1 + 1) w9 .returning (C3.out.cells 0) X3.out rfl).mono ?_
            rintro e u' w'' ⟨rfl, rfl, rfl⟩
            refine ⟨_, results_placed rfl rfl (X3.out.row noX) (plX_info _ _ _ _ _ _ _ _ _) ((C3.out.row_other (Nat.succ_ne_self _) noX).cells 0), below_row B3.out (show W.heap.size ≤ W.heap.size + 1 + 1 by omega) noX, Or.inl ⟨HNO.out, rfl⟩⟩
          · have hmi : ¬ (m : Int) = 0 := by omega
            have hmb : ((m : Int) == 0) = false := beq_eq_false_iff_ne.2 hmi
            have HSB := ShO.mk (show fullB N c ((A : Int), zb).1 ((A : Int), zb).2 = fullB N f (A : Int) ((B : Int) - 1) by rw [HF.out, ← full_fl (d := false), HZ.out]; rfl)
            go_wp2_with fail
            cases hvb : fullB N f (A : Int) ((B : Int) - 1)
            · have HVB := ShO.mk hvb
              refine (hasLetterOn_any (p := p) ((A : Int), zb) _ HOK.out (HSB.out.trans HVB.out)).mono ?_
              rintro e w8 ⟨rfl, hb8⟩
              have BX8 := ShO.mk (BX7.out.kept hb8)
              have B8 := ShO.mk (B7.out.trans (hb8.mono B7.out.size))
              have S8 := ShO.mk (show Blk w8 gs 104 #[.int .i64 q0, .int .i64 q1] from hS.out.kept hb8 hS.out.lt)
              have HQ8 := ShO.mk (hQ.out.kept hb8)
              have HM8 := ShO.mk (hM.out.below hb8)
              have c8 := BX8.out.b.cells
              have s8 := S8.out.cells
              have HSA := ShO.mk (show fullB N c (q0, q1).1 (q0, q1).2 = fullB N f (A : Int) ((B : Int) + (s.size : Int)) by rw [← HQX.out, full_sq, HF.out])
              clear hvb hb8 c7 s7 p7 x77
              go_wp2_with fail
              cases hva : fullB N f (A : Int) ((B : Int) + (s.size : Int))
              · have HVA := ShO.mk hva
                refine (hasLetterOn_any (p := p) (q0, q1) _ HOK.out (HSA.out.trans HVA.out)).mono ?_
                rintro e w10 ⟨rfl, hb10⟩
                have BX10 := ShO.mk (BX8.out.kept hb10)
                have B10 := ShO.mk (B8.out.trans (hb10.mono B8.out.size))
                have HQ := ShO.mk (HQ8.out.kept hb10)
                have HM := ShO.mk (HM8.out.below hb10)
                have HFI := ShO.mk (show Fits N p c (A : Int) (B : Int) false s A B f from ⟨HOK.out, HW.out, HF.out, rfl, rfl, HA.out, HB.out, HBJ.out, hse.out, fun e => hm0 (by rw [← HMM.out, e]; rfl), HVB.out, HVA.out⟩)
                clear hva hb10 c8 s8
                have m3 := (BX10.out.c.row_other (Nat.succ_ne_self _) (plX (A : Int) (B : Int) false s N p c (.slice av m cv) (.map (some gm)))).marks 0
                have e3 : (w10.setRow (W.heap.size + 1 + 1) (plX (A : Int) (B : Int) false s N p c (.slice av m cv) (.map (some gm)))).cell? ⟨W.heap.size + 1 + 1 + 1, 0, none⟩ = some (.int .i64 0) := (BX10.out.c.row_other (Nat.succ_ne_self _) (plX (A : Int) (B : Int) false s N p c (.slice av m cv) (.map (some gm)))).cells 0
                go_wp2_with (first | (refine wpList_load_row rfl 96 _ rfl (W.heap.size + 1 + 1) (by rfl) 96 (plX (A : Int) (B : Int) false s N p c (.slice av m cv) (.map (some gm))) (0, 0) _ BX10.out.x Tryd.underlying96 rfl (plX_info _ _ _ _ _ _ _ _ _) ?_) | (refine wpList_store_row rfl 96 _ _ rfl (W.heap.size + 1 + 1) (plX (A : Int) (B : Int) false s N p c (.slice av m cv) (.map (some gm))) (by rfl) (by rfl) 96 (plX (A : Int) (B : Int) false s N p c (.slice av m cv) (.map (some gm))) BX10.out.x (plX_info _ _ _ _ _ _ _ _ _) rfl (plX_one rfl rfl) ?_))
                (try rw [Exit.noGoto_ret])
                have X3 := ShO.mk ((BX10.out.x.row (plX (A : Int) (B : Int) false s N p c (.slice av m cv) (.map (some gm)))).other (p := ⟨W.heap.size + 1 + 1 + 1, 0, none⟩) (Nat.ne_of_lt (Nat.lt_succ_self _)) (.int .i64 0))
                have C3 := ShO.mk ((BX10.out.c.row_other (Nat.succ_ne_self _) (plX (A : Int) (B : Int) false s N p c (.slice av m cv) (.map (some gm)))).stored 0 (.int .i64 0))
                have B3 := ShO.mk ((below_row B10.out (show W.heap.size ≤ W.heap.size + 1 + 1 by omega) (plX (A : Int) (B : Int) false s N p c (.slice av m cv) (.map (some gm)))).setCell (p := ⟨W.heap.size + 1 + 1 + 1, 0, none⟩) (show W.heap.size ≤ W.heap.size + 1 + 1 + 1 by omega) (.int .i64 0))
                have AP3 := ShO.mk (Apart.setCell (p := ⟨W.heap.size + 1 + 1 + 1, 0, none⟩) (apart_row (Apart.refl (fun i => i < W.heap.size + 1 + 1 + 1 + 1) w10) (show W.heap.size + 1 + 1 < W.heap.size + 1 + 1 + 1 + 1 by omega) (plX (A : Int) (B : Int) false s N p c (.slice av m cv) (.map (some gm)))) (fun _ => (show W.heap.size + 1 + 1 + 1 < W.heap.size + 1 + 1 + 1 + 1 by omega)) (.int .i64 0))
                obtain ⟨w9, hw9⟩ : ∃ w9, (w10.setRow (W.heap.size + 1 + 1) (plX (A : Int) (B : Int) false s N p c (.slice av m cv) (.map (some gm)))).setCell ⟨W.heap.size + 1 + 1 + 1, 0, none⟩ (.int .i64 0) = w9 := ⟨_, rfl⟩
                rw [hw9] at X3 C3 B3 AP3 ⊢
                clear m3 e3 hw9
                refine leaves_cons (f := 119) (args := #[.pointer (some ⟨W.heap.size + 1 + 1 + 1, 0, none⟩), .pointer (some ⟨W.heap.size + 1 + 1, 0, none⟩)]) (by simp) (by simp [go_sem]) ?_
                refine (placed_idle (W.heap.size + 1 + 1 + 1) (W.heap.size + 1 + 1) w9 .returning (C3.out.cells 0)).mono ?_
                rintro e u' w'' ⟨rfl, rfl, rfl⟩
                refine ⟨_, results_placed rfl rfl X3.out (plX_info _ _ _ _ _ _ _ _ _) (C3.out.cells 0), B3.out, Or.inr ⟨_, _, _, _, gm, D, HFI.out, rfl, ?_, ?_, ?_⟩⟩
                · exact ownQ_lower (ownQ_apart HQ.out AP3.out (fun j hj e => by have := (ownQ_lt HQ.out j hj).1; have h2 := HSZ6.out; have h3 := GM.out; have h4 := HB3.out; have h5 := GS.out; have h6 := GB.out; omega)) (by have h2 := HSZ6.out; have h3 := GM.out; have h4 := HB3.out; have h5 := GS.out; have h6 := GB.out; omega)
                · exact HM.out.apart AP3.out (fun e => by have h3 := GM.out; omega)
                · have h3 := GM.out; omega
              · have HVA := ShO.mk hva
                refine (hasLetterOn_any (p := p) (q0, q1) _ HOK.out (HSA.out.trans HVA.out)).mono ?_
                rintro e w10 ⟨rfl, hb10⟩
                have BX10 := ShO.mk (BX8.out.kept hb10)
                have B10 := ShO.mk (B8.out.trans (hb10.mono B8.out.size))
                clear hva hb10 c8 s8
                have HNO := ShO.mk (show okPl (N : Int) p c (A : Int) (B : Int) false s = false by
                  rw [okPl_fit HOK.out HW.out]
                  show fitB N (flS false N c) (A : Int) (B : Int) s = false
                  rw [← HF.out, HFE.out, HVA.out, Bool.not_true, Bool.false_and, Bool.and_false])
                have m3 := (BX10.out.c.row_other (Nat.succ_ne_self _) (plX (A : Int) (B : Int) false s N p c (.slice av m cv) (.map (some gm)))).marks 0
                have e3 : (w10.setRow (W.heap.size + 1 + 1) (plX (A : Int) (B : Int) false s N p c (.slice av m cv) (.map (some gm)))).cell? ⟨W.heap.size + 1 + 1 + 1, 0, none⟩ = some (.int .i64 0) := (BX10.out.c.row_other (Nat.succ_ne_self _) (plX (A : Int) (B : Int) false s N p c (.slice av m cv) (.map (some gm)))).cells 0
                go_wp2_with (first | (refine wpList_load_row rfl 96 _ rfl (W.heap.size + 1 + 1) (by rfl) 96 (plX (A : Int) (B : Int) false s N p c (.slice av m cv) (.map (some gm))) (0, 0) _ BX10.out.x Tryd.underlying96 rfl (plX_info _ _ _ _ _ _ _ _ _) ?_) | (refine wpList_store_row rfl 96 _ _ rfl (W.heap.size + 1 + 1) (plX (A : Int) (B : Int) false s N p c (.slice av m cv) (.map (some gm))) (by rfl) (by rfl) 96 (plX (A : Int) (B : Int) false s N p c (.slice av m cv) (.map (some gm))) BX10.out.x (plX_info _ _ _ _ _ _ _ _ _) rfl (plX_one rfl rfl) ?_))
                (try rw [Exit.noGoto_ret])
                have X3 := ShO.mk ((BX10.out.x.row (plX (A : Int) (B : Int) false s N p c (.slice av m cv) (.map (some gm)))).other (p := ⟨W.heap.size + 1 + 1 + 1, 0, none⟩) (Nat.ne_of_lt (Nat.lt_succ_self _)) (.int .i64 1))
                have C3 := ShO.mk ((BX10.out.c.row_other (Nat.succ_ne_self _) (plX (A : Int) (B : Int) false s N p c (.slice av m cv) (.map (some gm)))).stored 0 (.int .i64 1))
                have B3 := ShO.mk ((below_row B10.out (show W.heap.size ≤ W.heap.size + 1 + 1 by omega) (plX (A : Int) (B : Int) false s N p c (.slice av m cv) (.map (some gm)))).setCell (p := ⟨W.heap.size + 1 + 1 + 1, 0, none⟩) (show W.heap.size ≤ W.heap.size + 1 + 1 + 1 by omega) (.int .i64 1))
                have AP3 := ShO.mk (Apart.setCell (p := ⟨W.heap.size + 1 + 1 + 1, 0, none⟩) (apart_row (Apart.refl (fun i => i < W.heap.size + 1 + 1 + 1 + 1) w10) (show W.heap.size + 1 + 1 < W.heap.size + 1 + 1 + 1 + 1 by omega) (plX (A : Int) (B : Int) false s N p c (.slice av m cv) (.map (some gm)))) (fun _ => (show W.heap.size + 1 + 1 + 1 < W.heap.size + 1 + 1 + 1 + 1 by omega)) (.int .i64 1))
                obtain ⟨w9, hw9⟩ : ∃ w9, (w10.setRow (W.heap.size + 1 + 1) (plX (A : Int) (B : Int) false s N p c (.slice av m cv) (.map (some gm)))).setCell ⟨W.heap.size + 1 + 1 + 1, 0, none⟩ (.int .i64 1) = w9 := ⟨_, rfl⟩
                rw [hw9] at X3 C3 B3 AP3 ⊢
                clear m3 e3 hw9
                refine leaves_cons (f := 119) (args := #[.pointer (some ⟨W.heap.size + 1 + 1 + 1, 0, none⟩), .pointer (some ⟨W.heap.size + 1 + 1, 0, none⟩)]) (by simp) (by simp [go_sem]) ?_
                refine (placed_clear (W.heap.size + 1 + 1 + 1) (W.heap.size + 1 + 1) w9 .returning (C3.out.cells 0) X3.out rfl).mono ?_
                rintro e u' w'' ⟨rfl, rfl, rfl⟩
                refine ⟨_, results_placed rfl rfl (X3.out.row noX) (plX_info _ _ _ _ _ _ _ _ _) ((C3.out.row_other (Nat.succ_ne_self _) noX).cells 0), below_row B3.out (show W.heap.size ≤ W.heap.size + 1 + 1 by omega) noX, Or.inl ⟨HNO.out, rfl⟩⟩
            · have HVB := ShO.mk hvb
              refine (hasLetterOn_any (p := p) ((A : Int), zb) _ HOK.out (HSB.out.trans HVB.out)).mono ?_
              rintro e w8 ⟨rfl, hb8⟩
              have BX8 := ShO.mk (BX7.out.kept hb8)
              have B8 := ShO.mk (B7.out.trans (hb8.mono B7.out.size))
              clear hvb hb8 c7 s7 p7 x77
              have HNO := ShO.mk (show okPl (N : Int) p c (A : Int) (B : Int) false s = false by
                rw [okPl_fit HOK.out HW.out]
                show fitB N (flS false N c) (A : Int) (B : Int) s = false
                rw [← HF.out, HFE.out, HVB.out, Bool.not_true, Bool.false_and])
              have m3 := (BX8.out.c.row_other (Nat.succ_ne_self _) (plX (A : Int) (B : Int) false s N p c (.slice av m cv) (.map (some gm)))).marks 0
              have e3 : (w8.setRow (W.heap.size + 1 + 1) (plX (A : Int) (B : Int) false s N p c (.slice av m cv) (.map (some gm)))).cell? ⟨W.heap.size + 1 + 1 + 1, 0, none⟩ = some (.int .i64 0) := (BX8.out.c.row_other (Nat.succ_ne_self _) (plX (A : Int) (B : Int) false s N p c (.slice av m cv) (.map (some gm)))).cells 0
              go_wp2_with (first | (refine wpList_load_row rfl 96 _ rfl (W.heap.size + 1 + 1) (by rfl) 96 (plX (A : Int) (B : Int) false s N p c (.slice av m cv) (.map (some gm))) (0, 0) _ BX8.out.x Tryd.underlying96 rfl (plX_info _ _ _ _ _ _ _ _ _) ?_) | (refine wpList_store_row rfl 96 _ _ rfl (W.heap.size + 1 + 1) (plX (A : Int) (B : Int) false s N p c (.slice av m cv) (.map (some gm))) (by rfl) (by rfl) 96 (plX (A : Int) (B : Int) false s N p c (.slice av m cv) (.map (some gm))) BX8.out.x (plX_info _ _ _ _ _ _ _ _ _) rfl (plX_one rfl rfl) ?_))
              (try rw [Exit.noGoto_ret])
              have X3 := ShO.mk ((BX8.out.x.row (plX (A : Int) (B : Int) false s N p c (.slice av m cv) (.map (some gm)))).other (p := ⟨W.heap.size + 1 + 1 + 1, 0, none⟩) (Nat.ne_of_lt (Nat.lt_succ_self _)) (.int .i64 1))
              have C3 := ShO.mk ((BX8.out.c.row_other (Nat.succ_ne_self _) (plX (A : Int) (B : Int) false s N p c (.slice av m cv) (.map (some gm)))).stored 0 (.int .i64 1))
              have B3 := ShO.mk ((below_row B8.out (show W.heap.size ≤ W.heap.size + 1 + 1 by omega) (plX (A : Int) (B : Int) false s N p c (.slice av m cv) (.map (some gm)))).setCell (p := ⟨W.heap.size + 1 + 1 + 1, 0, none⟩) (show W.heap.size ≤ W.heap.size + 1 + 1 + 1 by omega) (.int .i64 1))
              have AP3 := ShO.mk (Apart.setCell (p := ⟨W.heap.size + 1 + 1 + 1, 0, none⟩) (apart_row (Apart.refl (fun i => i < W.heap.size + 1 + 1 + 1 + 1) w8) (show W.heap.size + 1 + 1 < W.heap.size + 1 + 1 + 1 + 1 by omega) (plX (A : Int) (B : Int) false s N p c (.slice av m cv) (.map (some gm)))) (fun _ => (show W.heap.size + 1 + 1 + 1 < W.heap.size + 1 + 1 + 1 + 1 by omega)) (.int .i64 1))
              obtain ⟨w9, hw9⟩ : ∃ w9, (w8.setRow (W.heap.size + 1 + 1) (plX (A : Int) (B : Int) false s N p c (.slice av m cv) (.map (some gm)))).setCell ⟨W.heap.size + 1 + 1 + 1, 0, none⟩ (.int .i64 1) = w9 := ⟨_, rfl⟩
              rw [hw9] at X3 C3 B3 AP3 ⊢
              clear m3 e3 hw9
              refine leaves_cons (f := 119) (args := #[.pointer (some ⟨W.heap.size + 1 + 1 + 1, 0, none⟩), .pointer (some ⟨W.heap.size + 1 + 1, 0, none⟩)]) (by simp) (by simp [go_sem]) ?_
              refine (placed_clear (W.heap.size + 1 + 1 + 1) (W.heap.size + 1 + 1) w9 .returning (C3.out.cells 0) X3.out rfl).mono ?_
              rintro e u' w'' ⟨rfl, rfl, rfl⟩
              refine ⟨_, results_placed rfl rfl (X3.out.row noX) (plX_info _ _ _ _ _ _ _ _ _) ((C3.out.row_other (Nat.succ_ne_self _) noX).cells 0), below_row B3.out (show W.heap.size ≤ W.heap.size + 1 + 1 by omega) noX, Or.inl ⟨HNO.out, rfl⟩⟩
end Go.Proofs.YtmkdbahdhobdjaaDoor

namespace Go.Proofs.YtmkdbahdhobdjaaDoor
open Go.RowKit Go.Maps
set_option maxRecDepth 100000 in
set_option maxHeartbeats 8000000 in
theorem placementOf_D {N : Nat} {p c s : ByteArray} {r k : Int} (W : World) (hs : s.size ≤ 1048576) (hT : Tabs W) (hok : okBd (N : Int) p c = true) (hw : longP s = true) :
    Calls Tryd.prog 71 #[.agg #[.int .i64 (N : Int), .string p, .string c], .agg #[.int .i64 r, .int .i64 k, .bool true, .string s]] W (PlacedAs W N p c r k true s) := by
  have hmf : ∀ (fn : Fn) (first cap : Array Value) (w : World), (Instr.makeFunc fn first cap).run Tryd.prog w = .ok (.func fn first cap) w := fun _ _ _ _ => rfl
  have bx := boxes_made W (N : Int) p c r k true s #[.int .i64 0, .int .i64 0, .bool false, .string ⟨#[]⟩, .int .i64 0, .string ⟨#[]⟩, .string ⟨#[]⟩, .slice none 0 0, .map none]
  have b0 := below_four (W := W) (.cells #[.int .i64 (N : Int), .string p, .string c] 27) (.cells #[.int .i64 r, .int .i64 k, .bool true, .string s] 44) (.cells #[.int .i64 0, .int .i64 0, .bool false, .string ⟨#[]⟩, .int .i64 0, .string ⟨#[]⟩, .string ⟨#[]⟩, .slice none 0 0, .map none] 96) (.cells #[.int .i64 0] 2)
  obtain ⟨w0, hw0⟩ : ∃ w0, ((((W.alloc (.cells #[.int .i64 (N : Int), .string p, .string c] 27)).alloc (.cells #[.int .i64 r, .int .i64 k, .bool true, .string s] 44)).alloc (.cells #[.int .i64 0, .int .i64 0, .bool false, .string ⟨#[]⟩, .int .i64 0, .string ⟨#[]⟩, .string ⟨#[]⟩, .slice none 0 0, .map none] 96)).alloc (.cells #[.int .i64 0] 2)) = w0 := ⟨_, rfl⟩
  rw [hw0] at bx b0
  have BX := ShO.mk bx
  have B0 := ShO.mk b0
  have c0 := bx.b.cells
  have HT := ShO.mk hT
  have HOK := ShO.mk hok
  have HW := ShO.mk hw
  clear hok hw hT bx b0
  go_enter_defers Tryd.func71, Tryd.ntmps71
  go_wp2_with fail
  (try rw [hw0])
  clear hw0
  go_step3
  go_wp2_with fail
  refine (validO HOK.out _).mono ?_
  rintro e w1 ⟨rfl, hb1⟩
  have BX1 := ShO.mk (BX.out.kept hb1)
  have B1 := ShO.mk (B0.out.trans (hb1.mono B0.out.size))
  have c1 := BX1.out.p.cells
  clear hb1 c0
  go_wp2_with fail
  have HP := isLongPlaced_any s w1 hs (HT.out.on B1.out)
  rw [HW.out] at HP
  refine HP.mono ?_
  rintro e w2 ⟨rfl, hb2⟩
  have BX2 := ShO.mk (BX1.out.kept hb2)
  have B2 := ShO.mk (B1.out.trans (hb2.mono B1.out.size))
  clear hb2 c1 HP
  have hmm := @run_makeMap Tryd.prog
  have cb2 := BX2.out.b.cells
  have cp2 := BX2.out.p.cells
  have xm2 := ShO.mk (BX2.out.x.alloc (.map #[] 0))
  have GM := ShO.mk (show W.heap.size + 1 + 1 + 1 < w2.heap.size from BX2.out.c.lt)
  have mm := map_made w2 (W.heap.size + 1 + 1) (by have := BX2.out.c.lt; omega)
  obtain ⟨gm, hgm⟩ : ∃ gm, w2.heap.size = gm := ⟨_, rfl⟩
  rw [hgm] at GM mm
  have B3 := ShO.mk (below_row (B2.out.alloc B2.out.size (.map #[] 0)) (show W.heap.size ≤ W.heap.size + 1 + 1 by omega) (plX r k true s N p c (.slice none 0 0) (.map (some gm))))
  have BX3 := ShO.mk (BX2.out.made (plX r k true s N p c (.slice none 0 0) (.map (some gm))))
  have M3 := ShO.mk (mm (plX r k true s N p c (.slice none 0 0) (.map (some gm))))
  obtain ⟨w3, hw3⟩ : ∃ w3, (w2.alloc (.map #[] 0)).setRow (W.heap.size + 1 + 1) (plX r k true s N p c (.slice none 0 0) (.map (some gm))) = w3 := ⟨_, rfl⟩
  rw [hw3] at BX3 B3 M3
  clear mm
  go_wp2_with (refine wpList_store_row rfl 96 _ _ rfl (W.heap.size + 1 + 1) (plX r k true s N p c (.slice none 0 0) (.map (some gm))) (by rfl) (by rfl) 96 #[.int .i64 0, .int .i64 0, .bool false, .string ⟨#[]⟩, .int .i64 0, .string ⟨#[]⟩, .string ⟨#[]⟩, .slice none 0 0, .map none] xm2.out (plX_info _ _ _ _ _ _ _ _ _) rfl (plX_one rfl rfl) ?_)
  go_frame
  (try rw [hw3])
  clear cb2 cp2 xm2 hw3 hmm BX2 hgm
  go_cut [6, 7, 8] from 25 to 33 (fun sw sp sl wx => ∃ g, sw = .iface 166 (.agg #[]) ∧ sp = .pointer (some ⟨g, 0, none⟩) ∧ sl = .string s ∧ ShO (Blk wx g 104 #[.int .i64 r, .int .i64 k]) ∧ ShO (Below w3.heap.size w3 wx) ∧ w3.heap.size ≤ g)
  case first =>
    have HKP := ShO.mk (fun w' (hb : Below w3.heap.size w3 w') => (⟨(BX3.out.p.kept hb BX3.out.p.lt).cells 0, (BX3.out.p.kept hb BX3.out.p.lt).cells 1, (BX3.out.p.kept hb BX3.out.p.lt).cells 2, (BX3.out.p.kept hb BX3.out.p.lt).cells 3⟩ : w'.cell? ⟨W.heap.size + 1, 0, none⟩ = some (.int .i64 r) ∧ w'.cell? ⟨W.heap.size + 1, 1, none⟩ = some (.int .i64 k) ∧ w'.cell? ⟨W.heap.size + 1, 2, none⟩ = some (.bool true) ∧ w'.cell? ⟨W.heap.size + 1, 3, none⟩ = some (.string s)))
    go_region_held3 (fun w' => w'.cell? ⟨W.heap.size + 1, 0, none⟩ = some (.int .i64 r) ∧ w'.cell? ⟨W.heap.size + 1, 1, none⟩ = some (.int .i64 k) ∧ w'.cell? ⟨W.heap.size + 1, 2, none⟩ = some (.bool true) ∧ w'.cell? ⟨W.heap.size + 1, 3, none⟩ = some (.string s))
      (exact HKP.out _ (by first | assumption | exact (Below.refl _ _).drew | exact ((Below.refl _ _).alloc (Nat.le_refl _) _).drew | exact Below.alloc (by assumption) (Below.size (by assumption)) _ | exact Below.setCell (Below.setCell (by assumption) (by first | exact Nat.le_refl _ | exact Below.size (by assumption)) _) (by first | exact Nat.le_refl _ | exact Below.size (by assumption)) _))
      (first | (go_at_call 121; with_reducible refine (direction_on (v := .iface 166 (.agg #[])) w3 r k true s _ rfl (by first | assumption | exact (Below.refl _ _).drew | exact ((Below.refl _ _).alloc (Nat.le_refl _) _).drew)).mono ?_; rintro e wd ⟨rfl, hbd, hcd⟩; (first | (have qd := sq_kept (.inl rfl) hcd; have cqd := qd.cells; have mqd := qd.marks) | (have qd := sq_kept (.inr rfl) hcd; have cqd := qd.cells; have mqd := qd.marks) | skip)))
    all_goals
      go_wp2_with fail
      go_meet
      first
        | exact ⟨_, rfl, rfl, rfl, ⟨Blk.made _ _ _⟩, ⟨Below.alloc hbd hbd.size _⟩, hbd.size⟩
        | exact ⟨_, rfl, rfl, rfl, ⟨(qd.stored 0 _).stored 1 _⟩, ⟨Below.setCell (Below.setCell hbd (Nat.le_refl _) _) (Nat.le_refl _) _⟩, Nat.le_refl _⟩
  case rest =>
    obtain ⟨gs, rfl, rfl, rfl, bs, bel, hgs⟩ := hcut
    have BX4 := ShO.mk (BX3.out.kept bel.out)
    have M4 := ShO.mk (M3.out.kept bel.out)
    have B4 := ShO.mk (B3.out.trans (bel.out.mono B3.out.size))
    have GS := ShO.mk hgs
    have HB3 := ShO.mk (M3.out.lt)
    obtain ⟨zb, hzb⟩ : ∃ z, IntKind.i64.wrap (r + -1) = z := ⟨_, rfl⟩
    have HZB := ShO.mk hzb
    have cs4 := bs.out.cells
    clear hzb
    go_wp2_with fail
    refine (stepD_any (z := zb) (r, k) (-1) _ HZB.out).mono ?_
    rintro e w5 ⟨rfl, hb5⟩
    have BX5 := ShO.mk ((BX4.out.kept hb5).kept ((Below.refl _ _).alloc (Nat.le_refl _) (.cells #[.int .i64 zb, .int .i64 k] 104)))
    have M5 := ShO.mk ((M4.out.kept hb5).kept ((Below.refl _ _).alloc (Nat.le_refl _) (.cells #[.int .i64 zb, .int .i64 k] 104)))
    have B5 := ShO.mk ((B4.out.trans (hb5.mono B4.out.size)).alloc (B4.out.trans (hb5.mono B4.out.size)).size (.cells #[.int .i64 zb, .int .i64 k] 104))
    have S5 := ShO.mk (((bs.out.kept hb5 bs.out.lt)).alloc (.cells #[.int .i64 zb, .int .i64 k] 104))
    have P5 := ShO.mk (Blk.made w5 104 #[.int .i64 zb, .int .i64 k])
    have GB := ShO.mk (show gs < w5.heap.size from Nat.lt_of_lt_of_le bs.out.lt hb5.size)
    have HSZ := World.size_alloc w5 (.cells #[.int .i64 zb, .int .i64 k] 104)
    obtain ⟨gb, hgb⟩ : ∃ gb, w5.heap.size = gb := ⟨_, rfl⟩
    rw [hgb] at P5 GB HSZ
    obtain ⟨w6, hw6⟩ : ∃ w6, w5.alloc (.cells #[.int .i64 zb, .int .i64 k] 104) = w6 := ⟨_, rfl⟩
    rw [hw6] at BX5 M5 B5 S5 P5 HSZ
    have HSZ6 := ShO.mk HSZ
    clear cs4 hb5 HSZ
    go_wp2_with fail
    go_step3
    go_wp2_with fail
    (try rw [hw6])
    (try rw [hgb])
    clear hgb hw6 BX4 M4 B4 bs bel BX3 M3 B3 BX1 B1 B2 BX B0
    have HSZ := ShO.mk (long_size HW.out)
    have HBD := ShO.mk (okBd_nat HOK.out)
    have h0s : 0 < s.size := by have := HSZ.out.1; omega
    obtain ⟨u0, hu0⟩ : ∃ u, s[0]'h0s = u := ⟨_, rfl⟩
    have hne : s.toList.isEmpty = false := nonempty_list (by have := HSZ.out.1; omega)
    have c6 := BX5.out.b.cells
    have s6 := S5.out.cells
    cases hi : inBd (N : Int) r k
    · have HI := ShO.mk (seeC_no (s := c) hi)
      have HNO := ShO.mk (show okPl (N : Int) p c r k true s = false by rw [okPl_fit HOK.out HW.out]; exact fit_out ((inBd_fl true (N : Int) k r).symm.trans (by first | exact hi | (rw [inBd_fl]; exact hi))))
      have HLT := ShO.mk (let_at HSZ.out.2.2 (k := 0) h0s)
      rw [atB_get h0s, hu0] at HLT
      have hlt1 : (0 : Int) < (s.size : Int) := by have := HSZ.out.1; omega
      have hz0 : ((0 : Int) == (u0.toNat : Int)) = false := by rw [beq_eq_false_iff_ne]; intro e; have := HLT.out; rw [← e] at this; cases this
      obtain ⟨y0, hy0⟩ : ∃ y : Int, (u0.toNat : Int) = y := ⟨_, rfl⟩
      rw [hy0] at hz0
      have hz1 : ¬ (0 : Int) = y0 := by simpa using hz0
      go_loopw [8] (fun sl wr => sl = .string s ∧ ShO (wr = w6)) (fun _ _ => 0)
      case atStart => exact ⟨rfl, ⟨rfl⟩⟩
      case round =>
        obtain ⟨rfl, hwr⟩ := hrel
        obtain ⟨rfl⟩ := hwr
        go_wp2_with fail
        obtain ⟨M', hM', h5', h15', -, hcs'⟩ := HBD.out
        obtain rfl : N = M' := by omega
        refine (cellOn_any p c (r, k) _ h5' h15' hcs').mono ?_
        rw [show seeC c (N : Int) (r, k).1 (r, k).2 = 0 from HI.out]
        rintro e w7 ⟨rfl, hb7⟩
        have BX7 := ShO.mk (BX5.out.kept hb7)
        have B7 := ShO.mk (B5.out.trans (hb7.mono B5.out.size))
        clear c6 s6 hb7 hM' h5' h15' hcs'
        have m3 := (BX7.out.c.row_other (Nat.succ_ne_self _) (plX r k true s N p c (.slice none 0 0) (.map (some gm)))).marks 0
        have e3 : (w7.setRow (W.heap.size + 1 + 1) (plX r k true s N p c (.slice none 0 0) (.map (some gm)))).cell? ⟨W.heap.size + 1 + 1 + 1, 0, none⟩ = some (.int .i64 0) := (BX7.out.c.row_other (Nat.succ_ne_self _) (plX r k true s N p c (.slice none 0 0) (.map (some gm)))).cells 0
        go_wp2_with (first | (refine wpList_load_row rfl 96 _ rfl (W.heap.size + 1 + 1) (by rfl) 96 (plX r k true s N p c (.slice none 0 0) (.map (some gm))) (0, 0) _ BX7.out.x Tryd.underlying96 rfl (plX_info _ _ _ _ _ _ _ _ _) ?_) | (refine wpList_store_row rfl 96 _ _ rfl (W.heap.size + 1 + 1) (plX r k true s N p c (.slice none 0 0) (.map (some gm))) (by rfl) (by rfl) 96 (plX r k true s N p c (.slice none 0 0) (.map (some gm))) BX7.out.x (plX_info _ _ _ _ _ _ _ _ _) rfl (plX_one rfl rfl) ?_))
        (try rw [Exit.noGoto_ret])
        have X3 := ShO.mk ((BX7.out.x.row (plX r k true s N p c (.slice none 0 0) (.map (some gm)))).other (p := ⟨W.heap.size + 1 + 1 + 1, 0, none⟩) (Nat.ne_of_lt (Nat.lt_succ_self _)) (.int .i64 1))
        have C3 := ShO.mk ((BX7.out.c.row_other (Nat.succ_ne_self _) (plX r k true s N p c (.slice none 0 0) (.map (some gm)))).stored 0 (.int .i64 1))
        have B3 := ShO.mk ((below_row B7.out (show W.heap.size ≤ W.heap.size + 1 + 1 by omega) (plX r k true s N p c (.slice none 0 0) (.map (some gm)))).setCell (p := ⟨W.heap.size + 1 + 1 + 1, 0, none⟩) (show W.heap.size ≤ W.heap.size + 1 + 1 + 1 by omega) (.int .i64 1))
        have AP3 := ShO.mk (Apart.setCell (p := ⟨W.heap.size + 1 + 1 + 1, 0, none⟩) (apart_row (Apart.refl (fun i => i < W.heap.size + 1 + 1 + 1 + 1) w7) (show W.heap.size + 1 + 1 < W.heap.size + 1 + 1 + 1 + 1 by omega) (plX r k true s N p c (.slice none 0 0) (.map (some gm)))) (fun _ => (show W.heap.size + 1 + 1 + 1 < W.heap.size + 1 + 1 + 1 + 1 by omega)) (.int .i64 1))
        obtain ⟨w9, hw9⟩ : ∃ w9, (w7.setRow (W.heap.size + 1 + 1) (plX r k true s N p c (.slice none 0 0) (.map (some gm)))).setCell ⟨W.heap.size + 1 + 1 + 1, 0, none⟩ (.int .i64 1) = w9 := ⟨_, rfl⟩
        rw [hw9] at X3 C3 B3 AP3 ⊢
        clear m3 e3 hw9
        refine leaves_cons (f := 119) (args := #[.pointer (some ⟨W.heap.size + 1 + 1 + 1, 0, none⟩), .pointer (some ⟨W.heap.size + 1 + 1, 0, none⟩)]) (by simp) (by simp [go_sem]) ?_
        refine (placed_clear (W.heap.size + 1 + 1 + 1) (W.heap.size + 1 + 1) w9 .returning (C3.out.cells 0) X3.out rfl).mono ?_
        rintro e u' w'' ⟨rfl, rfl, rfl⟩
        refine ⟨_, results_placed rfl rfl (X3.out.row noX) (plX_info _ _ _ _ _ _ _ _ _) ((C3.out.row_other (Nat.succ_ne_self _) noX).cells 0), below_row B3.out (show W.heap.size ≤ W.heap.size + 1 + 1 by omega) noX, Or.inl ⟨HNO.out, rfl⟩⟩
    · obtain ⟨A0, B0', rfl, rfl, hA0, hB0', -⟩ := fit_nat hi
      obtain ⟨A, B, hAB, hA, hB⟩ : ∃ A B : Nat, sqOf true A B 0 = ((A0 : Int), (B0' : Int)) ∧ A < N ∧ B < N := by first | exact ⟨A0, B0', rfl, hA0, hB0'⟩ | exact ⟨B0', A0, rfl, hB0', hA0⟩
      obtain ⟨rfl, rfl⟩ : B = A0 ∧ A = B0' := by
        injection hAB with e1 e2
        have e1' : ((B + 0 : Nat) : Int) = (A0 : Int) := e1
        have e2' : ((A + 0 : Nat) : Int) = (B0' : Int) := e2
        exact ⟨by omega, by omega⟩
      clear hA0 hB0' hAB hi
      obtain ⟨f, hf⟩ : ∃ f, f = flS true N c := ⟨_, rfl⟩
      have HF := ShO.mk hf
      have HA := ShO.mk hA
      have HB := ShO.mk hB
      have H15 := ShO.mk (show 5 ≤ N ∧ N ≤ 15 ∧ c.size = N * N by obtain ⟨M', hM', h5', h15', -, hcs'⟩ := HBD.out; obtain rfl : N = M' := (by omega); exact ⟨h5', h15', hcs'⟩)
      have HZ := ShO.mk (show zb = (B : Int) - 1 from HZB.out.symm.trans (IntWalk.i64_in _ (by have := HB.out; have := H15.out.2.1; omega)))
      have EMP := ShO.mk (M5.out.letM true A B s)
      clear hf hA hB c6 s6 hu0 hne h0s HZB
      go_loopw [8] (fun sl wr => ∃ (j : Nat) (v : Value) (D : DataW Unit), j ≤ s.size ∧ sl = .string (s.extract j s.size) ∧ B + j ≤ N ∧ ShO (seeTo f s (A * N + B) j = true) ∧ ShO (Blk wr (W.heap.size + 1 + 1) 96 (plX (B : Int) (A : Int) true s N p c v (.map (some gm)))) ∧ ShO (OwnQ w6.heap.size wr v (newL true A B (frL f (A * N + B) j))) ∧ ShO (LetM wr gm true A B s (frL f (A * N + B) j) D) ∧ ShO (Blk wr gs 104 #[.int .i64 (sqOf true A B j).1, .int .i64 (sqOf true A B j).2]) ∧ ShO (Apart (fun i => i = W.heap.size + 1 + 1 ∨ i = gm ∨ i = gs) w6 wr)) (fun sl _ => strLenP sl)
      case atStart => exact ⟨0, .slice none 0 0, .map [], Nat.zero_le _, by rw [ext_all], by have := HB.out; omega, ⟨rfl⟩, ⟨BX5.out.x⟩, ⟨OwnQ.nil _ _⟩, EMP, ⟨S5.out⟩, ⟨Apart.refl _ _⟩⟩
      case round =>
        obtain ⟨j, v, D, hj, rfl, hbj, hse, hX, hQ, hM, hS, hAp⟩ := hrel
        obtain ⟨w7, hw7⟩ : ∃ w7, w7 = wr := ⟨_, rfl⟩
        subst hw7
        obtain ⟨av, cv, rfl, -⟩ := hQ.out.form
        rw [newL_len] at hX hQ
        have BX7 := ShO.mk (BX5.out.apartX hAp.out (by have h2 := HSZ6.out; have h3 := GM.out; have h4 := HB3.out; have h5 := GS.out; have h6 := GB.out; omega) (by have h2 := HSZ6.out; have h3 := GM.out; have h4 := HB3.out; have h5 := GS.out; have h6 := GB.out; omega) (by have h2 := HSZ6.out; have h3 := GM.out; have h4 := HB3.out; have h5 := GS.out; have h6 := GB.out; omega) hX.out)
        have P7 := ShO.mk (P5.out.apart hAp.out (by have h2 := HSZ6.out; have h3 := GM.out; have h4 := HB3.out; have h5 := GS.out; have h6 := GB.out; omega))
        have B7 := ShO.mk (B5.out.trans (hAp.out.below (B := W.heap.size) (by have h3 := GM.out; have h4 := HB3.out; have h5 := GS.out; intro i hi e; omega) B5.out.size))
        obtain ⟨q, hq⟩ : ∃ q, sqOf true A B j = q := ⟨_, rfl⟩
        have HQX := ShO.mk hq
        rw [hq] at hS
        obtain ⟨q0, q1⟩ := q
        have c7 := BX7.out.b.cells
        have s7 := hS.out.cells
        have HJ := ShO.mk hj
        have HBJ := ShO.mk hbj
        have HFL := ShO.mk (frL_len f (A * N + B) j)
        clear hq hj hbj
        by_cases hlt : j < s.size
        · have hLs : (s.extract j s.size).size = s.size - j := by rw [ByteArray.size_extract]; omega
          have hrest := ext_rest s j
          have hL0 := ext_first hlt
          obtain ⟨L, hL⟩ : ∃ L, s.extract j s.size = L := ⟨_, rfl⟩
          rw [hL] at hLs hrest hL0 ⊢
          have HREST := ShO.mk hrest
          have HLS := ShO.mk hLs
          have h0L : 0 < L.size := by omega
          have hLn : L.toList.isEmpty = false := nonempty_list h0L
          have hlt1 : (0 : Int) < (L.size : Int) := by omega
          have hle1 : (1 : Int) ≤ (L.size : Int) := by omega
          obtain ⟨u0, hu0⟩ : ∃ u, L[0]'h0L = u := ⟨_, rfl⟩
          have HU0 := ShO.mk (show atB s j = u0 by rw [← hu0]; exact (hL0 h0L).symm)
          have HLT := ShO.mk hlt
          obtain ⟨y0, hy0⟩ : ∃ y : Int, (u0.toNat : Int) = y := ⟨_, rfl⟩
          have HY0 := ShO.mk hy0
          have HLET := ShO.mk (let_at HSZ.out.2.2 hlt)
          clear hLs hrest hL0 hL hlt
          go_wp2_with fail
          refine (cellOn_any p c (q0, q1) _ H15.out.1 H15.out.2.1 H15.out.2.2).mono ?_
          rw [show (q0, q1) = sqOf true A B j from HQX.out.symm]
          rcases Nat.lt_or_ge (B + j) N with hon | hoff
          · have HON := ShO.mk hon
            rw [see_sq HA.out hon, ← HF.out]
            obtain ⟨u, hu⟩ : ∃ u, atB f (A * N + B + j) = u := ⟨_, rfl⟩
            have HU := ShO.mk hu
            rw [hu]
            clear hon hu
            rintro e w8 ⟨rfl, hb8⟩
            have BX8 := ShO.mk (BX7.out.kept hb8)
            have B8 := ShO.mk (B7.out.trans (hb8.mono B7.out.size))
            have S8 := ShO.mk (show Blk w8 gs 104 #[.int .i64 q0, .int .i64 q1] from hS.out.kept hb8 hS.out.lt)
            have HQ8 := ShO.mk (hQ.out.kept hb8).drew
            have HM8n := ShO.mk (hM.out.below hb8)
            have HM8 := ShO.mk HM8n.out.drew
            have AP8 := ShO.mk (hAp.out.belowA hb8)
            clear hb8 c7 s7
            cases h46 : (u == 46)
            · cases heq : (u == u0)
              · have HNO := ShO.mk (show okPl (N : Int) p c (B : Int) (A : Int) true s = false by
                  rw [okPl_fit HOK.out HW.out]
                  show fitB N (flS true N c) (A : Int) (B : Int) s = false
                  rw [← HF.out]
                  exact fit_see HLT.out (by unfold seeB; rw [HU.out, HU0.out, h46, heq]; rfl))
                have hz1 : ((u.toNat : Int) == 46) = false := by rw [dot_byteU]; exact h46
                have hz2 : ((u.toNat : Int) == y0) = false := by rw [← hy0]; exact byte_ne heq
                have hz3 : ¬ (u.toNat : Int) = y0 := by simpa using hz2
                have hz4 : ¬ (u.toNat : Int) = 46 := by simpa using hz1
                obtain ⟨z, hzz⟩ : ∃ z : Int, (u.toNat : Int) = z := ⟨_, rfl⟩
                rw [hzz] at hz1 hz2 hz3 hz4
                rw [hzz]
                clear h46 heq hzz
                have m3 := (BX8.out.c.row_other (Nat.succ_ne_self _) (plX (B : Int) (A : Int) true s N p c (.slice av (frL f (A * N + B) j).length cv) (.map (some gm)))).marks 0
                have e3 : (w8.setRow (W.heap.size + 1 + 1) (plX (B : Int) (A : Int) true s N p c (.slice av (frL f (A * N + B) j).length cv) (.map (some gm)))).cell? ⟨W.heap.size + 1 + 1 + 1, 0, none⟩ = some (.int .i64 0) := (BX8.out.c.row_other (Nat.succ_ne_self _) (plX (B : Int) (A : Int) true s N p c (.slice av (frL f (A * N + B) j).length cv) (.map (some gm)))).cells 0
                go_wp2_with (first | (refine wpList_load_row rfl 96 _ rfl (W.heap.size + 1 + 1) (by rfl) 96 (plX (B : Int) (A : Int) true s N p c (.slice av (frL f (A * N + B) j).length cv) (.map (some gm))) (0, 0) _ BX8.out.x Tryd.underlying96 rfl (plX_info _ _ _ _ _ _ _ _ _) ?_) | (refine wpList_store_row rfl 96 _ _ rfl (W.heap.size + 1 + 1) (plX (B : Int) (A : Int) true s N p c (.slice av (frL f (A * N + B) j).length cv) (.map (some gm))) (by rfl) (by rfl) 96 (plX (B : Int) (A : Int) true s N p c (.slice av (frL f (A * N + B) j).length cv) (.map (some gm))) BX8.out.x (plX_info _ _ _ _ _ _ _ _ _) rfl (plX_one rfl rfl) ?_))
                (try rw [Exit.noGoto_ret])
                have X3 := ShO.mk ((BX8.out.x.row (plX (B : Int) (A : Int) true s N p c (.slice av (frL f (A * N + B) j).length cv) (.map (some gm)))).other (p := ⟨W.heap.size + 1 + 1 + 1, 0, none⟩) (Nat.ne_of_lt (Nat.lt_succ_self _)) (.int .i64 1))
                have C3 := ShO.mk ((BX8.out.c.row_other (Nat.succ_ne_self _) (plX (B : Int) (A : Int) true s N p c (.slice av (frL f (A * N + B) j).length cv) (.map (some gm)))).stored 0 (.int .i64 1))
                have B3 := ShO.mk ((below_row B8.out (show W.heap.size ≤ W.heap.size + 1 + 1 by omega) (plX (B : Int) (A : Int) true s N p c (.slice av (frL f (A * N + B) j).length cv) (.map (some gm)))).setCell (p := ⟨W.heap.size + 1 + 1 + 1, 0, none⟩) (show W.heap.size ≤ W.heap.size + 1 + 1 + 1 by omega) (.int .i64 1))
                have AP3 := ShO.mk (Apart.setCell (p := ⟨W.heap.size + 1 + 1 + 1, 0, none⟩) (apart_row (Apart.refl (fun i => i < W.heap.size + 1 + 1 + 1 + 1) w8) (show W.heap.size + 1 + 1 < W.heap.size + 1 + 1 + 1 + 1 by omega) (plX (B : Int) (A : Int) true s N p c (.slice av (frL f (A * N + B) j).length cv) (.map (some gm)))) (fun _ => (show W.heap.size + 1 + 1 + 1 < W.heap.size + 1 + 1 + 1 + 1 by omega)) (.int .i64 1))
                obtain ⟨w9, hw9⟩ : ∃ w9, (w8.setRow (W.heap.size + 1 + 1) (plX (B : Int) (A : Int) true s N p c (.slice av (frL f (A * N + B) j).length cv) (.map (some gm)))).setCell ⟨W.heap.size + 1 + 1 + 1, 0, none⟩ (.int .i64 1) = w9 := ⟨_, rfl⟩
                rw [hw9] at X3 C3 B3 AP3 ⊢
                clear m3 e3 hw9
                refine leaves_cons (f := 119) (args := #[.pointer (some ⟨W.heap.size + 1 + 1 + 1, 0, none⟩), .pointer (some ⟨W.heap.size + 1 + 1, 0, none⟩)]) (by simp) (by simp [go_sem]) ?_
                refine (placed_clear (W.heap.size + 1 + 1 + 1) (W.heap.size + 1 + 1) w9 .returning (C3.out.cells 0) X3.out rfl).mono ?_
                rintro e u' w'' ⟨rfl, rfl, rfl⟩
                refine ⟨_, results_placed rfl rfl (X3.out.row noX) (plX_info _ _ _ _ _ _ _ _ _) ((C3.out.row_other (Nat.succ_ne_self _) noX).cells 0), below_row B3.out (show W.heap.size ≤ W.heap.size + 1 + 1 by omega) noX, Or.inl ⟨HNO.out, rfl⟩⟩
              · have hz1 : ((u.toNat : Int) == 46) = false := by rw [dot_byteU]; exact h46
                have HFR := ShO.mk (frL_no (f := f) (b := A * N + B) (m := j) (by rw [HU.out]; exact h46))
                have HSE := ShO.mk (show seeTo f s (A * N + B) (j + 1) = true by rw [seeTo_succ, hse.out]; unfold seeB; rw [HU.out, HU0.out, heq, Bool.or_true]; rfl)
                obtain rfl : u = u0 := beq_iff_eq.1 heq
                rw [hy0] at hz1
                have hz4 : ¬ y0 = 46 := by simpa using hz1
                rw [hy0]
                clear h46 heq
                have s8 := S8.out.cells
                have S9 := S8
                have X9 := ShO.mk BX8.out.x
                have HQ9 := ShO.mk (show OwnQ w6.heap.size w8 (.slice av (frL f (A * N + B) j).length cv) (newL true A B (frL f (A * N + B) (j + 1))) by rw [HFR.out]; exact HQ8.out)
                have HM9 := ShO.mk (show LetM w8 gm true A B s (frL f (A * N + B) (j + 1)) D by rw [HFR.out]; exact HM8n.out)
                have AP9 := AP8
                have hX9 := X9.out
                obtain ⟨w9, hw9⟩ : ∃ w9, w9 = w8 := ⟨_, rfl⟩
                subst hw9
                go_wp2_with fail
                obtain ⟨n1, hn1⟩ : ∃ z, IntKind.i64.wrap (q0 + 1) = z := ⟨_, rfl⟩
                have HN1 := ShO.mk hn1
                have HNX := ShO.mk (show sqOf true A B (j + 1) = (n1, q1) from next_sqD HQX.out hn1 (by have := HON.out; have := H15.out.2.1; omega))
                have S9d := ShO.mk (show Blk w9.drew gs 104 #[.int .i64 q0, .int .i64 q1] from S9.out)
                have hmeth := step_methodD
                have hent := step_entersD
                clear hn1
                refine wp_region_noPanic ?_
                go_region_with (first | (go_at_call 223; with_reducible refine (stepD_any (z := n1) (q0, q1) 1 _ HN1.out).mono ?_; rintro e w10 ⟨rfl, hb10⟩; have q10 := S9d.out.kept hb10 S9d.out.lt; have c10 := q10.cells; have m10 := q10.marks))
                all_goals
                  have HB10 := ShO.mk hb10
                  clear c10 m10 hb10
                  refine NoPanic.normal ?_
                  (try simp only [Act.put, List.getElem_toArray, List.getElem_cons_succ, List.getElem_cons_zero])
                  go_wp2
                  (try go_frame)
                  go_roundw
                  case rel =>
                    have AP10 := (((AP9.out.drew.belowA HB10.out).setCell (p := ⟨gs, 0, none⟩) (fun _ => Or.inr (Or.inr rfl)) (.int .i64 n1)).setCell (p := ⟨gs, 1, none⟩) (fun _ => Or.inr (Or.inr rfl)) (.int .i64 q1))
                    have AS := ((Apart.refl (fun i => i = gs) w10).setCell (p := ⟨gs, 0, none⟩) (fun _ => rfl) (.int .i64 n1)).setCell (p := ⟨gs, 1, none⟩) (fun _ => rfl) (.int .i64 q1)
                    refine ⟨j + 1, .slice av (frL f (A * N + B) j).length cv, D, by have := HLT.out; omega, by rw [HREST.out], by have := HON.out; omega, HSE, ⟨?_⟩, ⟨?_⟩, ⟨?_⟩, ⟨?_⟩, ⟨AP10⟩⟩
                    · exact ((show Blk w9.drew _ _ _ from hX9).kept HB10.out hX9.lt).apart AS (by have h2 := HSZ6.out; have h3 := GM.out; have h4 := HB3.out; have h5 := GS.out; have h6 := GB.out; omega)
                    · exact ownQ_apart ((show OwnQ w6.heap.size w9.drew _ _ from HQ9.out).kept HB10.out) AS (fun i hi e => by have := (ownQ_lt HQ9.out i hi).1; have h2 := HSZ6.out; have h6 := GB.out; omega)
                    · exact (HM9.out.drew.below HB10.out).apart AS (by have h4 := HB3.out; have h5 := GS.out; omega)
                    · rw [HNX.out]; exact (((show Blk w9.drew _ _ _ from S9.out).kept HB10.out S9.out.lt).stored 0 _).stored 1 _
                  case measure => simp [strLenP]; have := HLS.out; have := HLT.out; omega
            · have HSE := ShO.mk (show seeTo f s (A * N + B) (j + 1) = true by rw [seeTo_succ, hse.out]; unfold seeB; rw [HU.out, h46]; rfl)
              have HFR := ShO.mk (frL_yes (f := f) (b := A * N + B) (m := j) (by rw [HU.out]; exact h46))
              obtain rfl : u = 46 := beq_iff_eq.1 h46
              have HX8 := ShO.mk (show Blk w8.drew (W.heap.size + 1 + 1) 96 (plX (B : Int) (A : Int) true s N p c (.slice av (frL f (A * N + B) j).length cv) (.map (some gm))) from BX8.out.x)
              have hz1 : (((46 : UInt8).toNat : Int) == 46) = true := rfl
              have HY := ShO.mk (show ((atB s j).toNat : Int) = y0 by rw [HU0.out]; exact hy0)
              have HKS := ShO.mk (fun wx (hb : Below w8.heap.size w8 wx) => (⟨(S8.out.kept hb S8.out.lt).cells 0, (S8.out.kept hb S8.out.lt).cells 1⟩ : wx.cell? ⟨gs, 0, none⟩ = some (.int .i64 q0) ∧ wx.cell? ⟨gs, 1, none⟩ = some (.int .i64 q1)))
              have HPR := ShO.mk (show (newL true A B (frL f (A * N + B) j)).length ≤ 20 ∧ A ≤ 100 ∧ (∀ i ∈ j :: frL f (A * N + B) j, B + i ≤ 100) ∧ j ∉ frL f (A * N + B) j ∧ (frL f (A * N + B) j).length ≤ 20 ∧ w6.heap.size ≤ w8.drew.heap.size ∧ W.heap.size + 1 + 1 < w6.heap.size ∧ gm < w6.heap.size ∧ gm ≠ W.heap.size + 1 + 1 by
                have h1 := HFL.out
                have h2 := HSZ6.out; have h3 := GM.out; have h4 := HB3.out; have h5 := GS.out; have h6 := GB.out
                have h7 := H15.out.2.1; have h8 := HA.out; have h9 := HON.out
                have h10 := HLT.out; have h11 := HSZ.out.2.1
                refine ⟨by rw [newL_len]; omega, by omega, ?_, fun h => ?_, by omega, AP8.out.size, by omega, by omega, by omega⟩
                · intro i hi
                  rcases List.mem_cons.1 hi with rfl | hi
                  · omega
                  · have := (frL_mem.1 hi).1; omega
                · have := (frL_mem.1 h).1; omega)
              clear h46
              have s8 := S8.out.cells
              rw [show (((46 : UInt8).toNat : Nat) : Int) = 46 from rfl]
              go_wp2_with fail
              go_region_held3 (fun wx => wx.cell? ⟨gs, 0, none⟩ = some (.int .i64 q0) ∧ wx.cell? ⟨gs, 1, none⟩ = some (.int .i64 q1))
                (first | exact HKS.out _ (Below.refl _ _).drew | exact HK9.out)
                (first | (go_at_call 123; with_reducible refine (place_on (B := w6.heap.size) w8.drew HQX.out HY.out HX8.out HQ8.out HPR.out.1 HM8.out HPR.out.2.1 HPR.out.2.2.1 HPR.out.2.2.2.1 HPR.out.2.2.2.2.1 HPR.out.2.2.2.2.2.1 HPR.out.2.2.2.2.2.2.1 HPR.out.2.2.2.2.2.2.2.1 HPR.out.2.2.2.2.2.2.2.2).mono ?_; rintro e w9 ⟨rfl, v9, hX9, hQ9, ⟨D9, hM9⟩, hA9⟩; have S9 := ShO.mk (show Blk w9 gs 104 #[.int .i64 q0, .int .i64 q1] from S8.out.drew.apart hA9 (chg_not HSZ6.out GM.out HB3.out GS.out GB.out)); have HK9 := ShO.mk (show w9.cell? ⟨gs, 0, none⟩ = some (.int .i64 q0) ∧ w9.cell? ⟨gs, 1, none⟩ = some (.int .i64 q1) from sq_pair S9.out)))
              all_goals
                have HQ9 := ShO.mk (show OwnQ w6.heap.size w9 v9 (newL true A B (frL f (A * N + B) (j + 1))) by rw [HFR.out]; unfold newL at hQ9 ⊢; rw [List.map_append]; exact hQ9)
                have HM9 := ShO.mk (show LetM w9 gm true A B s (frL f (A * N + B) (j + 1)) D9 by rw [HFR.out]; exact hM9)
                have AP9 := ShO.mk (AP8.out.drew.trans hA9 (fun i hi e => chg_in hi e))
                obtain ⟨av9, cv9, rfl, -⟩ := hQ9.form
                clear hQ9 hM9 hA9 HK9
                have s9 := S9.out.cells
                go_wp2_with fail
                obtain ⟨n1, hn1⟩ : ∃ z, IntKind.i64.wrap (q0 + 1) = z := ⟨_, rfl⟩
                have HN1 := ShO.mk hn1
                have HNX := ShO.mk (show sqOf true A B (j + 1) = (n1, q1) from next_sqD HQX.out hn1 (by have := HON.out; have := H15.out.2.1; omega))
                have S9d := ShO.mk (show Blk w9.drew gs 104 #[.int .i64 q0, .int .i64 q1] from S9.out)
                have hmeth := step_methodD
                have hent := step_entersD
                clear hn1
                refine wp_region_noPanic ?_
                go_region_with (first | (go_at_call 223; with_reducible refine (stepD_any (z := n1) (q0, q1) 1 _ HN1.out).mono ?_; rintro e w10 ⟨rfl, hb10⟩; have q10 := S9d.out.kept hb10 S9d.out.lt; have c10 := q10.cells; have m10 := q10.marks))
                all_goals
                  have HB10 := ShO.mk hb10
                  clear c10 m10 hb10
                  refine NoPanic.normal ?_
                  (try simp only [Act.put, List.getElem_toArray, List.getElem_cons_succ, List.getElem_cons_zero])
                  go_wp2
                  (try go_frame)
                  go_roundw
                  case rel =>
                    have AP10 := (((AP9.out.drew.belowA HB10.out).setCell (p := ⟨gs, 0, none⟩) (fun _ => Or.inr (Or.inr rfl)) (.int .i64 n1)).setCell (p := ⟨gs, 1, none⟩) (fun _ => Or.inr (Or.inr rfl)) (.int .i64 q1))
                    have AS := ((Apart.refl (fun i => i = gs) w10).setCell (p := ⟨gs, 0, none⟩) (fun _ => rfl) (.int .i64 n1)).setCell (p := ⟨gs, 1, none⟩) (fun _ => rfl) (.int .i64 q1)
                    refine ⟨j + 1, .slice av9 (newL true A B (frL f (A * N + B) j) ++ [sqOf true A B j]).length cv9, D9, by have := HLT.out; omega, by rw [HREST.out], by have := HON.out; omega, HSE, ⟨?_⟩, ⟨?_⟩, ⟨?_⟩, ⟨?_⟩, ⟨AP10⟩⟩
                    · exact ((show Blk w9.drew _ _ _ from hX9).kept HB10.out hX9.lt).apart AS (by have h2 := HSZ6.out; have h3 := GM.out; have h4 := HB3.out; have h5 := GS.out; have h6 := GB.out; omega)
                    · exact ownQ_apart ((show OwnQ w6.heap.size w9.drew _ _ from HQ9.out).kept HB10.out) AS (fun i hi e => by have := (ownQ_lt HQ9.out i hi).1; have h2 := HSZ6.out; have h6 := GB.out; omega)
                    · exact (HM9.out.drew.below HB10.out).apart AS (by have h4 := HB3.out; have h5 := GS.out; omega)
                    · rw [HNX.out]; exact (((show Blk w9.drew _ _ _ from S9.out).kept HB10.out S9.out.lt).stored 0 _).stored 1 _
                  case measure => simp [strLenP]; have := HLS.out; have := HLT.out; omega
          · have HNO := ShO.mk (show okPl (N : Int) p c (B : Int) (A : Int) true s = false by
              rw [okPl_fit HOK.out HW.out]
              show fitB N (flS true N c) (A : Int) (B : Int) s = false
              exact fit_long (by have := HLT.out; omega))
            rw [see_off hoff]
            have hz1 : ¬ (0 : Int) = y0 := by
              have := HLET.out
              rw [HU0.out, hy0] at this
              intro e
              rw [← e] at this; cases this
            rintro e w8 ⟨rfl, hb8⟩
            have BX8 := ShO.mk (BX7.out.kept hb8)
            have B8 := ShO.mk (B7.out.trans (hb8.mono B7.out.size))
            clear hb8 c7 s7 hoff
            have m3 := (BX8.out.c.row_other (Nat.succ_ne_self _) (plX (B : Int) (A : Int) true s N p c (.slice av (frL f (A * N + B) j).length cv) (.map (some gm)))).marks 0
            have e3 : (w8.setRow (W.heap.size + 1 + 1) (plX (B : Int) (A : Int) true s N p c (.slice av (frL f (A * N + B) j).length cv) (.map (some gm)))).cell? ⟨W.heap.size + 1 + 1 + 1, 0, none⟩ = some (.int .i64 0) := (BX8.out.c.row_other (Nat.succ_ne_self _) (plX (B : Int) (A : Int) true s N p c (.slice av (frL f (A * N + B) j).length cv) (.map (some gm)))).cells 0
            go_wp2_with (first | (refine wpList_load_row rfl 96 _ rfl (W.heap.size + 1 + 1) (by rfl) 96 (plX (B : Int) (A : Int) true s N p c (.slice av (frL f (A * N + B) j).length cv) (.map (some gm))) (0, 0) _ BX8.out.x Tryd.underlying96 rfl (plX_info _ _ _ _ _ _ _ _ _) ?_) | (refine wpList_store_row rfl 96 _ _ rfl (W.heap.size + 1 + 1) (plX (B : Int) (A : Int) true s N p c (.slice av (frL f (A * N + B) j).length cv) (.map (some gm))) (by rfl) (by rfl) 96 (plX (B : Int) (A : Int) true s N p c (.slice av (frL f (A * N + B) j).length cv) (.map (some gm))) BX8.out.x (plX_info _ _ _ _ _ _ _ _ _) rfl (plX_one rfl rfl) ?_))
            (try rw [Exit.noGoto_ret])
            have X3 := ShO.mk ((BX8.out.x.row (plX (B : Int) (A : Int) true s N p c (.slice av (frL f (A * N + B) j).length cv) (.map (some gm)))).other (p := ⟨W.heap.size + 1 + 1 + 1, 0, none⟩) (Nat.ne_of_lt (Nat.lt_succ_self _)) (.int .i64 1))
            have C3 := ShO.mk ((BX8.out.c.row_other (Nat.succ_ne_self _) (plX (B : Int) (A : Int) true s N p c (.slice av (frL f (A * N + B) j).length cv) (.map (some gm)))).stored 0 (.int .i64 1))
            have B3 := ShO.mk ((below_row B8.out (show W.heap.size ≤ W.heap.size + 1 + 1 by omega) (plX (B : Int) (A : Int) true s N p c (.slice av (frL f (A * N + B) j).length cv) (.map (some gm)))).setCell (p := ⟨W.heap.size + 1 + 1 + 1, 0, none⟩) (show W.heap.size ≤ W.heap.size + 1 + 1 + 1 by omega) (.int .i64 1))
            have AP3 := ShO.mk (Apart.setCell (p := ⟨W.heap.size + 1 + 1 + 1, 0, none⟩) (apart_row (Apart.refl (fun i => i < W.heap.size + 1 + 1 + 1 + 1) w8) (show W.heap.size + 1 + 1 < W.heap.size + 1 + 1 + 1 + 1 by omega) (plX (B : Int) (A : Int) true s N p c (.slice av (frL f (A * N + B) j).length cv) (.map (some gm)))) (fun _ => (show W.heap.size + 1 + 1 + 1 < W.heap.size + 1 + 1 + 1 + 1 by omega)) (.int .i64 1))
            obtain ⟨w9, hw9⟩ : ∃ w9, (w8.setRow (W.heap.size + 1 + 1) (plX (B : Int) (A : Int) true s N p c (.slice av (frL f (A * N + B) j).length cv) (.map (some gm)))).setCell ⟨W.heap.size + 1 + 1 + 1, 0, none⟩ (.int .i64 1) = w9 := ⟨_, rfl⟩
            rw [hw9] at X3 C3 B3 AP3 ⊢
            clear m3 e3 hw9
            refine leaves_cons (f := 119) (args := #[.pointer (some ⟨W.heap.size + 1 + 1 + 1, 0, none⟩), .pointer (some ⟨W.heap.size + 1 + 1, 0, none⟩)]) (by simp) (by simp [go_sem]) ?_
            refine (placed_clear (W.heap.size + 1 + 1 + 1) (W.heap.size + 1 + 1) w9 .returning (C3.out.cells 0) X3.out rfl).mono ?_
            rintro e u' w'' ⟨rfl, rfl, rfl⟩
            refine ⟨_, results_placed rfl rfl (X3.out.row noX) (plX_info _ _ _ _ _ _ _ _ _) ((C3.out.row_other (Nat.succ_ne_self _) noX).cells 0), below_row B3.out (show W.heap.size ≤ W.heap.size + 1 + 1 by omega) noX, Or.inl ⟨HNO.out, rfl⟩⟩
        · obtain rfl : j = s.size := by have := HJ.out; omega
          have hemp : (s.extract s.size s.size).toList.isEmpty = true := empty_list (by rw [ByteArray.size_extract]; omega)
          obtain ⟨L, hL⟩ : ∃ L, s.extract s.size s.size = L := ⟨_, rfl⟩
          rw [hL] at hemp ⊢
          clear hL
          have HFE := ShO.mk (fit_end (f := f) HA.out HB.out HBJ.out hse.out)
          have x7 := hX.out.cells
          have p7 := P7.out.cells
          obtain ⟨m, hm⟩ : ∃ m, (frL f (A * N + B) s.size).length = m := ⟨_, rfl⟩
          rw [hm] at hX hQ x7 BX7
          have x77 : w7.cell? ⟨W.heap.size + 1 + 1, 7, none⟩ = some (.slice av m cv) := x7 7
          have HMM := ShO.mk hm
          clear hm x7 hlt
          by_cases hm0 : m = 0
          · subst hm0
            have HNO := ShO.mk (show okPl (N : Int) p c (B : Int) (A : Int) true s = false by
              rw [okPl_fit HOK.out HW.out]
              show fitB N (flS true N c) (A : Int) (B : Int) s = false
              rw [← HF.out, HFE.out, show frL f (A * N + B) s.size = [] from List.eq_nil_of_length_eq_zero HMM.out, List.isEmpty_nil, Bool.not_true, Bool.and_false, Bool.and_false])
            have m3 := (BX7.out.c.row_other (Nat.succ_ne_self _) (plX (B : Int) (A : Int) true s N p c (.slice av 0 cv) (.map (some gm)))).marks 0
            have e3 : (w7.setRow (W.heap.size + 1 + 1) (plX (B : Int) (A : Int) true s N p c (.slice av 0 cv) (.map (some gm)))).cell? ⟨W.heap.size + 1 + 1 + 1, 0, none⟩ = some (.int .i64 0) := (BX7.out.c.row_other (Nat.succ_ne_self _) (plX (B : Int) (A : Int) true s N p c (.slice av 0 cv) (.map (some gm)))).cells 0
            go_wp2_with (first | (refine wpList_load_row rfl 96 _ rfl (W.heap.size + 1 + 1) (by rfl) 96 (plX (B : Int) (A : Int) true s N p c (.slice av 0 cv) (.map (some gm))) (0, 0) _ BX7.out.x Tryd.underlying96 rfl (plX_info _ _ _ _ _ _ _ _ _) ?_) | (refine wpList_store_row rfl 96 _ _ rfl (W.heap.size + 1 + 1) (plX (B : Int) (A : Int) true s N p c (.slice av 0 cv) (.map (some gm))) (by rfl) (by rfl) 96 (plX (B : Int) (A : Int) true s N p c (.slice av 0 cv) (.map (some gm))) BX7.out.x (plX_info _ _ _ _ _ _ _ _ _) rfl (plX_one rfl rfl) ?_))
            (try rw [Exit.noGoto_ret])
            have X3 := ShO.mk ((BX7.out.x.row (plX (B : Int) (A : Int) true s N p c (.slice av 0 cv) (.map (some gm)))).other (p := ⟨W.heap.size + 1 + 1 + 1, 0, none⟩) (Nat.ne_of_lt (Nat.lt_succ_self _)) (.int .i64 1))
            have C3 := ShO.mk ((BX7.out.c.row_other (Nat.succ_ne_self _) (plX (B : Int) (A : Int) true s N p c (.slice av 0 cv) (.map (some gm)))).stored 0 (.int .i64 1))
            have B3 := ShO.mk ((below_row B7.out (show W.heap.size ≤ W.heap.size + 1 + 1 by omega) (plX (B : Int) (A : Int) true s N p c (.slice av 0 cv) (.map (some gm)))).setCell (p := ⟨W.heap.size + 1 + 1 + 1, 0, none⟩) (show W.heap.size ≤ W.heap.size + 1 + 1 + 1 by omega) (.int .i64 1))
            have AP3 := ShO.mk (Apart.setCell (p := ⟨W.heap.size + 1 + 1 + 1, 0, none⟩) (apart_row (Apart.refl (fun i => i < W.heap.size + 1 + 1 + 1 + 1) w7) (show W.heap.size + 1 + 1 < W.heap.size + 1 + 1 + 1 + 1 by omega) (plX (B : Int) (A : Int) true s N p c (.slice av 0 cv) (.map (some gm)))) (fun _ => (show W.heap.size + 1 + 1 + 1 < W.heap.size + 1 + 1 + 1 + 1 by omega)) (.int .i64 1))
            obtain ⟨w9, hw9⟩ : ∃ w9, (w7.setRow (W.heap.size + 1 + 1) (plX (B : Int) (A : Int) true s N p c (.slice av 0 cv) (.map (some gm)))).setCell ⟨W.heap.size + 1 + 1 + 1, 0, none⟩ (.int .i64 1) = w9 := ⟨_, rfl⟩
            rw [hw9] at X3 C3 B3 AP3 ⊢
            clear m3 e3 hw9
            refine leaves_cons (f := 119) (args := #[.pointer (some ⟨W.heap.size + 1 + 1 + 1, 0, none⟩), .pointer (some ⟨W.heap.size + 1 + 1, 0, none⟩)]) (by simp) (by simp [go_sem]) ?_
            refine (placed_clear (W.heap.size + 1 + 1 + 1) (W.heap.size + 1 + 1) w9 .returning (C3.out.cells 0) X3.out rfl).mono ?_
            rintro e u' w'' ⟨rfl, rfl, rfl⟩
            refine ⟨_, results_placed rfl rfl (X3.out.row noX) (plX_info _ _ _ _ _ _ _ _ _) ((C3.out.row_other (Nat.succ_ne_self _) noX).cells 0), below_row B3.out (show W.heap.size ≤ W.heap.size + 1 + 1 by omega) noX, Or.inl ⟨HNO.out, rfl⟩⟩
          · have hmi : ¬ (m : Int) = 0 := by omega
            have hmb : ((m : Int) == 0) = false := beq_eq_false_iff_ne.2 hmi
            have HSB := ShO.mk (show fullB N c (zb, (A : Int)).1 (zb, (A : Int)).2 = fullB N f (A : Int) ((B : Int) - 1) by rw [HF.out, ← full_fl (d := true), HZ.out]; rfl)
            go_wp2_with fail
            cases hvb : fullB N f (A : Int) ((B : Int) - 1)
            · have HVB := ShO.mk hvb
              refine (hasLetterOn_any (p := p) (zb, (A : Int)) _ HOK.out (HSB.out.trans HVB.out)).mono ?_
              rintro e w8 ⟨rfl, hb8⟩
              have BX8 := ShO.mk (BX7.out.kept hb8)
              have B8 := ShO.mk (B7.out.trans (hb8.mono B7.out.size))
              have S8 := ShO.mk (show Blk w8 gs 104 #[.int .i64 q0, .int .i64 q1] from hS.out.kept hb8 hS.out.lt)
              have HQ8 := ShO.mk (hQ.out.kept hb8)
              have HM8 := ShO.mk (hM.out.below hb8)
              have c8 := BX8.out.b.cells
              have s8 := S8.out.cells
              have HSA := ShO.mk (show fullB N c (q0, q1).1 (q0, q1).2 = fullB N f (A : Int) ((B : Int) + (s.size : Int)) by rw [← HQX.out, full_sq, HF.out])
              clear hvb hb8 c7 s7 p7 x77
              go_wp2_with fail
              cases hva : fullB N f (A : Int) ((B : Int) + (s.size : Int))
              · have HVA := ShO.mk hva
                refine (hasLetterOn_any (p := p) (q0, q1) _ HOK.out (HSA.out.trans HVA.out)).mono ?_
                rintro e w10 ⟨rfl, hb10⟩
                have BX10 := ShO.mk (BX8.out.kept hb10)
                have B10 := ShO.mk (B8.out.trans (hb10.mono B8.out.size))
                have HQ := ShO.mk (HQ8.out.kept hb10)
                have HM := ShO.mk (HM8.out.below hb10)
                have HFI := ShO.mk (show Fits N p c (B : Int) (A : Int) true s A B f from ⟨HOK.out, HW.out, HF.out, rfl, rfl, HA.out, HB.out, HBJ.out, hse.out, fun e => hm0 (by rw [← HMM.out, e]; rfl), HVB.out, HVA.out⟩)
                clear hva hb10 c8 s8
                have m3 := (BX10.out.c.row_other (Nat.succ_ne_self _) (plX (B : Int) (A : Int) true s N p c (.slice av m cv) (.map (some gm)))).marks 0
                have e3 : (w10.setRow (W.heap.size + 1 + 1) (plX (B : Int) (A : Int) true s N p c (.slice av m cv) (.map (some gm)))).cell? ⟨W.heap.size + 1 + 1 + 1, 0, none⟩ = some (.int .i64 0) := (BX10.out.c.row_other (Nat.succ_ne_self _) (plX (B : Int) (A : Int) true s N p c (.slice av m cv) (.map (some gm)))).cells 0
                go_wp2_with (first | (refine wpList_load_row rfl 96 _ rfl (W.heap.size + 1 + 1) (by rfl) 96 (plX (B : Int) (A : Int) true s N p c (.slice av m cv) (.map (some gm))) (0, 0) _ BX10.out.x Tryd.underlying96 rfl (plX_info _ _ _ _ _ _ _ _ _) ?_) | (refine wpList_store_row rfl 96 _ _ rfl (W.heap.size + 1 + 1) (plX (B : Int) (A : Int) true s N p c (.slice av m cv) (.map (some gm))) (by rfl) (by rfl) 96 (plX (B : Int) (A : Int) true s N p c (.slice av m cv) (.map (some gm))) BX10.out.x (plX_info _ _ _ _ _ _ _ _ _) rfl (plX_one rfl rfl) ?_))
                (try rw [Exit.noGoto_ret])
                have X3 := ShO.mk ((BX10.out.x.row (plX (B : Int) (A : Int) true s N p c (.slice av m cv) (.map (some gm)))).other (p := ⟨W.heap.size + 1 + 1 + 1, 0, none⟩) (Nat.ne_of_lt (Nat.lt_succ_self _)) (.int .i64 0))
                have C3 := ShO.mk ((BX10.out.c.row_other (Nat.succ_ne_self _) (plX (B : Int) (A : Int) true s N p c (.slice av m cv) (.map (some gm)))).stored 0 (.int .i64 0))
                have B3 := ShO.mk ((below_row B10.out (show W.heap.size ≤ W.heap.size + 1 + 1 by omega) (plX (B : Int) (A : Int) true s N p c (.slice av m cv) (.map (some gm)))).setCell (p := ⟨W.heap.size + 1 + 1 + 1, 0, none⟩) (show W.heap.size ≤ W.heap.size + 1 + 1 + 1 by omega) (.int .i64 0))
                have AP3 := ShO.mk (Apart.setCell (p := ⟨W.heap.size + 1 + 1 + 1, 0, none⟩) (apart_row (Apart.refl (fun i => i < W.heap.size + 1 + 1 + 1 + 1) w10) (show W.heap.size + 1 + 1 < W.heap.size + 1 + 1 + 1 + 1 by omega) (plX (B : Int) (A : Int) true s N p c (.slice av m cv) (.map (some gm)))) (fun _ => (show W.heap.size + 1 + 1 + 1 < W.heap.size + 1 + 1 + 1 + 1 by omega)) (.int .i64 0))
                obtain ⟨w9, hw9⟩ : ∃ w9, (w10.setRow (W.heap.size + 1 + 1) (plX (B : Int) (A : Int) true s N p c (.slice av m cv) (.map (some gm)))).setCell ⟨W.heap.size + 1 + 1 + 1, 0, none⟩ (.int .i64 0) = w9 := ⟨_, rfl⟩
                rw [hw9] at X3 C3 B3 AP3 ⊢
                clear m3 e3 hw9
                refine leaves_cons (f := 119) (args := #[.pointer (some ⟨W.heap.size + 1 + 1 + 1, 0, none⟩), .pointer (some ⟨W.heap.size + 1 + 1, 0, none⟩)]) (by simp) (by simp [go_sem]) ?_
                refine (placed_idle (W.heap.size + 1 + 1 + 1) (W.heap.size + 1 + 1) w9 .returning (C3.out.cells 0)).mono ?_
                rintro e u' w'' ⟨rfl, rfl, rfl⟩
                refine ⟨_, results_placed rfl rfl X3.out (plX_info _ _ _ _ _ _ _ _ _) (C3.out.cells 0), B3.out, Or.inr ⟨_, _, _, _, gm, D, HFI.out, rfl, ?_, ?_, ?_⟩⟩
                · exact ownQ_lower (ownQ_apart HQ.out AP3.out (fun j hj e => by have := (ownQ_lt HQ.out j hj).1; have h2 := HSZ6.out; have h3 := GM.out; have h4 := HB3.out; have h5 := GS.out; have h6 := GB.out; omega)) (by have h2 := HSZ6.out; have h3 := GM.out; have h4 := HB3.out; have h5 := GS.out; have h6 := GB.out; omega)
                · exact HM.out.apart AP3.out (fun e => by have h3 := GM.out; omega)
                · have h3 := GM.out; omega
              · have HVA := ShO.mk hva
                refine (hasLetterOn_any (p := p) (q0, q1) _ HOK.out (HSA.out.trans HVA.out)).mono ?_
                rintro e w10 ⟨rfl, hb10⟩
                have BX10 := ShO.mk (BX8.out.kept hb10)
                have B10 := ShO.mk (B8.out.trans (hb10.mono B8.out.size))
                clear hva hb10 c8 s8
                have HNO := ShO.mk (show okPl (N : Int) p c (B : Int) (A : Int) true s = false by
                  rw [okPl_fit HOK.out HW.out]
                  show fitB N (flS true N c) (A : Int) (B : Int) s = false
                  rw [← HF.out, HFE.out, HVA.out, Bool.not_true, Bool.false_and, Bool.and_false])
                have m3 := (BX10.out.c.row_other (Nat.succ_ne_self _) (plX (B : Int) (A : Int) true s N p c (.slice av m cv) (.map (some gm)))).marks 0
                have e3 : (w10.setRow (W.heap.size + 1 + 1) (plX (B : Int) (A : Int) true s N p c (.slice av m cv) (.map (some gm)))).cell? ⟨W.heap.size + 1 + 1 + 1, 0, none⟩ = some (.int .i64 0) := (BX10.out.c.row_other (Nat.succ_ne_self _) (plX (B : Int) (A : Int) true s N p c (.slice av m cv) (.map (some gm)))).cells 0
                go_wp2_with (first | (refine wpList_load_row rfl 96 _ rfl (W.heap.size + 1 + 1) (by rfl) 96 (plX (B : Int) (A : Int) true s N p c (.slice av m cv) (.map (some gm))) (0, 0) _ BX10.out.x Tryd.underlying96 rfl (plX_info _ _ _ _ _ _ _ _ _) ?_) | (refine wpList_store_row rfl 96 _ _ rfl (W.heap.size + 1 + 1) (plX (B : Int) (A : Int) true s N p c (.slice av m cv) (.map (some gm))) (by rfl) (by rfl) 96 (plX (B : Int) (A : Int) true s N p c (.slice av m cv) (.map (some gm))) BX10.out.x (plX_info _ _ _ _ _ _ _ _ _) rfl (plX_one rfl rfl) ?_))
                (try rw [Exit.noGoto_ret])
                have X3 := ShO.mk ((BX10.out.x.row (plX (B : Int) (A : Int) true s N p c (.slice av m cv) (.map (some gm)))).other (p := ⟨W.heap.size + 1 + 1 + 1, 0, none⟩) (Nat.ne_of_lt (Nat.lt_succ_self _)) (.int .i64 1))
                have C3 := ShO.mk ((BX10.out.c.row_other (Nat.succ_ne_self _) (plX (B : Int) (A : Int) true s N p c (.slice av m cv) (.map (some gm)))).stored 0 (.int .i64 1))
                have B3 := ShO.mk ((below_row B10.out (show W.heap.size ≤ W.heap.size + 1 + 1 by omega) (plX (B : Int) (A : Int) true s N p c (.slice av m cv) (.map (some gm)))).setCell (p := ⟨W.heap.size + 1 + 1 + 1, 0, none⟩) (show W.heap.size ≤ W.heap.size + 1 + 1 + 1 by omega) (.int .i64 1))
                have AP3 := ShO.mk (Apart.setCell (p := ⟨W.heap.size + 1 + 1 + 1, 0, none⟩) (apart_row (Apart.refl (fun i => i < W.heap.size + 1 + 1 + 1 + 1) w10) (show W.heap.size + 1 + 1 < W.heap.size + 1 + 1 + 1 + 1 by omega) (plX (B : Int) (A : Int) true s N p c (.slice av m cv) (.map (some gm)))) (fun _ => (show W.heap.size + 1 + 1 + 1 < W.heap.size + 1 + 1 + 1 + 1 by omega)) (.int .i64 1))
                obtain ⟨w9, hw9⟩ : ∃ w9, (w10.setRow (W.heap.size + 1 + 1) (plX (B : Int) (A : Int) true s N p c (.slice av m cv) (.map (some gm)))).setCell ⟨W.heap.size + 1 + 1 + 1, 0, none⟩ (.int .i64 1) = w9 := ⟨_, rfl⟩
                rw [hw9] at X3 C3 B3 AP3 ⊢
                clear m3 e3 hw9
                refine leaves_cons (f := 119) (args := #[.pointer (some ⟨W.heap.size + 1 + 1 + 1, 0, none⟩), .pointer (some ⟨W.heap.size + 1 + 1, 0, none⟩)]) (by simp) (by simp [go_sem]) ?_
                refine (placed_clear (W.heap.size + 1 + 1 + 1) (W.heap.size + 1 + 1) w9 .returning (C3.out.cells 0) X3.out rfl).mono ?_
                rintro e u' w'' ⟨rfl, rfl, rfl⟩
                refine ⟨_, results_placed rfl rfl (X3.out.row noX) (plX_info _ _ _ _ _ _ _ _ _) ((C3.out.row_other (Nat.succ_ne_self _) noX).cells 0), below_row B3.out (show W.heap.size ≤ W.heap.size + 1 + 1 by omega) noX, Or.inl ⟨HNO.out, rfl⟩⟩
            · have HVB := ShO.mk hvb
              refine (hasLetterOn_any (p := p) (zb, (A : Int)) _ HOK.out (HSB.out.trans HVB.out)).mono ?_
              rintro e w8 ⟨rfl, hb8⟩
              have BX8 := ShO.mk (BX7.out.kept hb8)
              have B8 := ShO.mk (B7.out.trans (hb8.mono B7.out.size))
              clear hvb hb8 c7 s7 p7 x77
              have HNO := ShO.mk (show okPl (N : Int) p c (B : Int) (A : Int) true s = false by
                rw [okPl_fit HOK.out HW.out]
                show fitB N (flS true N c) (A : Int) (B : Int) s = false
                rw [← HF.out, HFE.out, HVB.out, Bool.not_true, Bool.false_and])
              have m3 := (BX8.out.c.row_other (Nat.succ_ne_self _) (plX (B : Int) (A : Int) true s N p c (.slice av m cv) (.map (some gm)))).marks 0
              have e3 : (w8.setRow (W.heap.size + 1 + 1) (plX (B : Int) (A : Int) true s N p c (.slice av m cv) (.map (some gm)))).cell? ⟨W.heap.size + 1 + 1 + 1, 0, none⟩ = some (.int .i64 0) := (BX8.out.c.row_other (Nat.succ_ne_self _) (plX (B : Int) (A : Int) true s N p c (.slice av m cv) (.map (some gm)))).cells 0
              go_wp2_with (first | (refine wpList_load_row rfl 96 _ rfl (W.heap.size + 1 + 1) (by rfl) 96 (plX (B : Int) (A : Int) true s N p c (.slice av m cv) (.map (some gm))) (0, 0) _ BX8.out.x Tryd.underlying96 rfl (plX_info _ _ _ _ _ _ _ _ _) ?_) | (refine wpList_store_row rfl 96 _ _ rfl (W.heap.size + 1 + 1) (plX (B : Int) (A : Int) true s N p c (.slice av m cv) (.map (some gm))) (by rfl) (by rfl) 96 (plX (B : Int) (A : Int) true s N p c (.slice av m cv) (.map (some gm))) BX8.out.x (plX_info _ _ _ _ _ _ _ _ _) rfl (plX_one rfl rfl) ?_))
              (try rw [Exit.noGoto_ret])
              have X3 := ShO.mk ((BX8.out.x.row (plX (B : Int) (A : Int) true s N p c (.slice av m cv) (.map (some gm)))).other (p := ⟨W.heap.size + 1 + 1 + 1, 0, none⟩) (Nat.ne_of_lt (Nat.lt_succ_self _)) (.int .i64 1))
              have C3 := ShO.mk ((BX8.out.c.row_other (Nat.succ_ne_self _) (plX (B : Int) (A : Int) true s N p c (.slice av m cv) (.map (some gm)))).stored 0 (.int .i64 1))
              have B3 := ShO.mk ((below_row B8.out (show W.heap.size ≤ W.heap.size + 1 + 1 by omega) (plX (B : Int) (A : Int) true s N p c (.slice av m cv) (.map (some gm)))).setCell (p := ⟨W.heap.size + 1 + 1 + 1, 0, none⟩) (show W.heap.size ≤ W.heap.size + 1 + 1 + 1 by omega) (.int .i64 1))
              have AP3 := ShO.mk (Apart.setCell (p := ⟨W.heap.size + 1 + 1 + 1, 0, none⟩) (apart_row (Apart.refl (fun i => i < W.heap.size + 1 + 1 + 1 + 1) w8) (show W.heap.size + 1 + 1 < W.heap.size + 1 + 1 + 1 + 1 by omega) (plX (B : Int) (A : Int) true s N p c (.slice av m cv) (.map (some gm)))) (fun _ => (show W.heap.size + 1 + 1 + 1 < W.heap.size + 1 + 1 + 1 + 1 by omega)) (.int .i64 1))
              obtain ⟨w9, hw9⟩ : ∃ w9, (w8.setRow (W.heap.size + 1 + 1) (plX (B : Int) (A : Int) true s N p c (.slice av m cv) (.map (some gm)))).setCell ⟨W.heap.size + 1 + 1 + 1, 0, none⟩ (.int .i64 1) = w9 := ⟨_, rfl⟩
              rw [hw9] at X3 C3 B3 AP3 ⊢
              clear m3 e3 hw9
              refine leaves_cons (f := 119) (args := #[.pointer (some ⟨W.heap.size + 1 + 1 + 1, 0, none⟩), .pointer (some ⟨W.heap.size + 1 + 1, 0, none⟩)]) (by simp) (by simp [go_sem]) ?_
              refine (placed_clear (W.heap.size + 1 + 1 + 1) (W.heap.size + 1 + 1) w9 .returning (C3.out.cells 0) X3.out rfl).mono ?_
              rintro e u' w'' ⟨rfl, rfl, rfl⟩
              refine ⟨_, results_placed rfl rfl (X3.out.row noX) (plX_info _ _ _ _ _ _ _ _ _) ((C3.out.row_other (Nat.succ_ne_self _) noX).cells 0), below_row B3.out (show W.heap.size ≤ W.heap.size + 1 + 1 by omega) noX, Or.inl ⟨HNO.out, rfl⟩⟩
end Go.Proofs.YtmkdbahdhobdjaaDoor

namespace Go.Proofs.YtmkdbahdhobdjaaDoor
open Go.RowKit Go.Maps

set_option maxRecDepth 100000 in
set_option maxHeartbeats 4000000 in
theorem placementOf_bad {n : Int} {p c s : ByteArray} {r k : Int} {d : Bool} (W : World) (hok : okBd n p c = false) :
    Calls Tryd.prog 71 #[.agg #[.int .i64 n, .string p, .string c], .agg #[.int .i64 r, .int .i64 k, .bool d, .string s]] W fun e w' => e = .returned (.tuple #[.agg noX, .int .i64 1]) ∧ Below W.heap.size W w' := by
  have hmf : ∀ (fn : Fn) (first cap : Array Value) (w : World), (Instr.makeFunc fn first cap).run Tryd.prog w = .ok (.func fn first cap) w := fun _ _ _ _ => rfl
  have bx := boxes_made W n p c r k d s #[.int .i64 0, .int .i64 0, .bool false, .string ⟨#[]⟩, .int .i64 0, .string ⟨#[]⟩, .string ⟨#[]⟩, .slice none 0 0, .map none]
  have b0 := below_four (W := W) (.cells #[.int .i64 n, .string p, .string c] 27) (.cells #[.int .i64 r, .int .i64 k, .bool d, .string s] 44) (.cells #[.int .i64 0, .int .i64 0, .bool false, .string ⟨#[]⟩, .int .i64 0, .string ⟨#[]⟩, .string ⟨#[]⟩, .slice none 0 0, .map none] 96) (.cells #[.int .i64 0] 2)
  obtain ⟨w0, hw0⟩ : ∃ w0, ((((W.alloc (.cells #[.int .i64 n, .string p, .string c] 27)).alloc (.cells #[.int .i64 r, .int .i64 k, .bool d, .string s] 44)).alloc (.cells #[.int .i64 0, .int .i64 0, .bool false, .string ⟨#[]⟩, .int .i64 0, .string ⟨#[]⟩, .string ⟨#[]⟩, .slice none 0 0, .map none] 96)).alloc (.cells #[.int .i64 0] 2)) = w0 := ⟨_, rfl⟩
  rw [hw0] at bx b0
  have BX := ShO.mk bx
  have B0 := ShO.mk b0
  have c0 := bx.b.cells
  have HOK := ShO.mk hok
  clear hok bx b0
  go_enter_defers Tryd.func71, Tryd.ntmps71
  go_wp2_with fail
  (try rw [hw0])
  clear hw0
  go_step3
  go_wp2_with fail
  refine (validO HOK.out _).mono ?_
  rintro e w1 ⟨rfl, hb1⟩
  have BX2 := ShO.mk (BX.out.kept hb1)
  have B2 := ShO.mk (B0.out.trans (hb1.mono B0.out.size))
  obtain ⟨w2, hw2⟩ : ∃ w2, w2 = w1 := ⟨_, rfl⟩
  subst hw2
  clear hb1 c0
  have m3 := (BX2.out.c.row_other (Nat.succ_ne_self _) noX).marks 0
  have e3 : (w2.setRow (W.heap.size + 1 + 1) noX).cell? ⟨W.heap.size + 1 + 1 + 1, 0, none⟩ = some (.int .i64 0) := (BX2.out.c.row_other (Nat.succ_ne_self _) noX).cells 0
  go_wp2_with (first
    | (refine wpList_load_row rfl 96 _ rfl (W.heap.size + 1 + 1) (by rfl) 96 noX (0, 0) _ BX2.out.x Tryd.underlying96 rfl (plX_info _ _ _ _ _ _ _ _ _) ?_)
    | (refine wpList_store_row rfl 96 _ _ rfl (W.heap.size + 1 + 1) noX (by rfl) (by rfl) 96 noX BX2.out.x (plX_info _ _ _ _ _ _ _ _ _) rfl noX_one ?_))
  rw [Exit.noGoto_ret]
  have X3 := ShO.mk ((BX2.out.x.row noX).other (p := ⟨W.heap.size + 1 + 1 + 1, 0, none⟩) (Nat.ne_of_lt (Nat.lt_succ_self _)) (.int .i64 1))
  have C3 := ShO.mk ((BX2.out.c.row_other (Nat.succ_ne_self _) noX).stored 0 (.int .i64 1))
  have B3 := ShO.mk ((below_row B2.out (show W.heap.size ≤ W.heap.size + 1 + 1 by omega) noX).setCell (p := ⟨W.heap.size + 1 + 1 + 1, 0, none⟩) (show W.heap.size ≤ W.heap.size + 1 + 1 + 1 by omega) (.int .i64 1))
  obtain ⟨w3, hw3⟩ : ∃ w3, (w2.setRow (W.heap.size + 1 + 1) noX).setCell ⟨W.heap.size + 1 + 1 + 1, 0, none⟩ (.int .i64 1) = w3 := ⟨_, rfl⟩
  rw [hw3] at X3 C3 B3 ⊢
  clear m3 e3 hw3
  refine leaves_cons (f := 119) (args := #[.pointer (some ⟨W.heap.size + 1 + 1 + 1, 0, none⟩), .pointer (some ⟨W.heap.size + 1 + 1, 0, none⟩)]) (by simp) (by simp [go_sem]) ?_
  refine (placed_clear (W.heap.size + 1 + 1 + 1) (W.heap.size + 1 + 1) w3 .returning (C3.out.cells 0) X3.out rfl).mono ?_
  rintro e u' w'' ⟨rfl, rfl, rfl⟩
  refine ⟨_, results_placed rfl rfl (X3.out.row noX) (plX_info _ _ _ _ _ _ _ _ _) ((C3.out.row_other (Nat.succ_ne_self _) noX).cells 0), rfl, below_row B3.out (show W.heap.size ≤ W.heap.size + 1 + 1 by omega) noX⟩

/-- What placementOf answers at whatever board. -/
def PlacedTo (W : World) (n : Int) (p c : ByteArray) (r k : Int) (d : Bool) (s : ByteArray) (X : Array Value) (code : Int) (w' : World) : Prop :=
  Below W.heap.size W w' ∧ ((okPl n p c r k d s = false ∧ X = noX ∧ code = 1) ∨
    ∃ (N A B : Nat) (f : ByteArray) (v : Value) (gm : Nat) (D : DataW Unit), n = (N : Int) ∧ Fits N p c r k d s A B f ∧ X = plX r k d s N p c v (.map (some gm)) ∧ code = 0 ∧
      OwnQ W.heap.size w' v (newL d A B (frL f (A * N + B) s.size)) ∧ LetM w' gm d A B s (frL f (A * N + B) s.size) D ∧ W.heap.size ≤ gm)
theorem PlacedTo.info {W w' : World} {n : Int} {p c : ByteArray} {r k : Int} {d : Bool} {s : ByteArray} {X : Array Value} {code : Int} (h : PlacedTo W n p c r k d s X code w') : X.size = 9 ∧ (Tryd.prog.info? 96).map (·.size) = some X.size ∧ X.all (·.oneCell') = true := by
  rcases h.2 with ⟨-, rfl, -⟩ | ⟨N, A, B, f, v, gm, D, -, -, rfl, -, hq, -⟩
  · exact ⟨rfl, plX_info _ _ _ _ _ _ _ _ _, noX_one⟩
  · obtain ⟨a, cap, rfl, -⟩ := hq.form
    exact ⟨rfl, plX_info _ _ _ _ _ _ _ _ _, plX_one rfl rfl⟩
theorem placementOf_any (n : Int) (p c s : ByteArray) (r k : Int) (d : Bool) (W : World) (hs : s.size ≤ 1048576) (hT : Tabs W) :
    Calls Tryd.prog 71 #[.agg #[.int .i64 n, .string p, .string c], .agg #[.int .i64 r, .int .i64 k, .bool d, .string s]] W fun e w' => ∃ X code, e = .returned (.tuple #[.agg X, .int .i64 code]) ∧ PlacedTo W n p c r k d s X code w' := by
  cases hok : okBd n p c
  · refine (placementOf_bad W hok).mono ?_
    rintro e w' ⟨rfl, hb⟩
    exact ⟨_, _, rfl, hb, Or.inl ⟨okPl_bad hok, rfl, rfl⟩⟩
  · cases hw : longP s
    · refine (placementOf_word W hs hT hok hw).mono ?_
      rintro e w' ⟨rfl, hb⟩
      exact ⟨_, _, rfl, hb, Or.inl ⟨okPl_word hw, rfl, rfl⟩⟩
    · obtain ⟨N, rfl, -⟩ := okBd_nat hok
      have h : Calls Tryd.prog 71 #[.agg #[.int .i64 (N : Int), .string p, .string c], .agg #[.int .i64 r, .int .i64 k, .bool d, .string s]] W (PlacedAs W N p c r k d s) := by
        cases d
        · exact placementOf_R W hs hT hok hw
        · exact placementOf_D W hs hT hok hw
      refine h.mono ?_
      rintro e w' ⟨hb, ⟨h1, rfl⟩ | ⟨A, B, f, v, gm, D, h1, rfl, h2, h3, h4⟩⟩
      · exact ⟨_, _, rfl, hb, Or.inl ⟨h1, rfl, rfl⟩⟩
      · exact ⟨_, _, rfl, hb, Or.inr ⟨N, A, B, f, v, gm, D, rfl, h1, rfl, rfl, h2, h3, h4⟩⟩

/-! ### ValidPlay, NewSquares -/
theorem below_placed {W : World} {n : Int} {p c : ByteArray} {r k : Int} {d : Bool} {s : ByteArray} : Below W.heap.size W ((W.alloc (.cells #[.int .i64 n, .string p, .string c] 27)).alloc (.cells #[.int .i64 r, .int .i64 k, .bool d, .string s] 44)) :=
  ((Below.refl _ _).alloc (Nat.le_refl _) _).alloc (by simp) _
set_option maxRecDepth 100000 in
set_option maxHeartbeats 2000000 in
theorem implValidPlay_any (n : Int) (p c s : ByteArray) (r k : Int) (d : Bool) (W : World) (hs : s.size ≤ 1048576) (hT : Tabs W) :
    Calls Tryd.prog 30 #[.agg #[.int .i64 n, .string p, .string c], .agg #[.int .i64 r, .int .i64 k, .bool d, .string s]] W fun e w' => e = .returned (.bool (okPl n p c r k d s)) ∧ Below W.heap.size W w' := by
  have B0 := ShO.mk (below_placed (W := W) (n := n) (p := p) (c := c) (r := r) (k := k) (d := d) (s := s))
  have HT := ShO.mk hT
  clear hT
  go_enter Tryd.func30, Tryd.ntmps30
  go_wp2_with fail
  refine (placementOf_any n p c s r k d _ hs (HT.out.on B0.out)).mono ?_
  rintro e w1 ⟨X, code, rfl, h⟩
  have H := ShO.mk h
  have HI := ShO.mk h.info
  have HC := ShO.mk (show (code = 0 ∧ okPl n p c r k d s = true) ∨ (code = 1 ∧ okPl n p c r k d s = false) by
    rcases h.2 with ⟨h1, -, h2⟩ | ⟨N, A, B, f, v, gm, D, rfl, h1, -, h2, -⟩
    · exact Or.inr ⟨h2, h1⟩
    · exact Or.inl ⟨h2, h1.okP⟩)
  have B1 := ShO.mk (B0.out.trans (h.1.mono B0.out.size))
  clear h
  rcases HC.out with ⟨rfl, hk⟩ | ⟨rfl, hk⟩
  all_goals
    have HK := ShO.mk hk
    clear hk
    go_wp2_with (refine wpList_store_row rfl 96 _ _ rfl w1.heap.size X (by rfl) (by rfl) 96 _ (Blk.made _ _ _) HI.out.2.1 (by rw [HI.out.1]; rfl) HI.out.2.2 ?_)
    go_ret
    rw [HK.out]
    exact ⟨rfl, below_row (B1.out.alloc B1.out.size _) B1.out.size X⟩
end Go.Proofs.YtmkdbahdhobdjaaDoor
