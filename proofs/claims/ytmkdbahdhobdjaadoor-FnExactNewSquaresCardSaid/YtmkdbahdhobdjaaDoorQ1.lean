/-
  Rows of bytes of the call's own and texts made of them; arrays of numbers held whole, indexed and compared.
-/
import Derived.Test.YtmkdbahdhobdjaaDoorK
import Derived.Test.YtmkdbahdhobdjaaDoorN1
import Derived.Lib.UnsafeStr
import Derived.Maps.AppendAt
import Derived.Laws.Rows
import Derived.Laws.Tables
import Derived.Laws.StructEq
namespace Go.Proofs.YtmkdbahdhobdjaaDoor
open Go.RowKit

/-! ### Rows of bytes -/
theorem info8Q : (Tryd.prog.info? 5).map (fun i => (i.zero, i.size, i.bytes)) = some (some (.int .u8 0), 1, 1) := by kernel_rfl
/-- The slice value v is a row of the call's own, from block B on, that holds the bytes l. -/
def OwnB (B : Nat) (w : World) (v : Value) (l : List UInt8) : Prop := w.ownsRow B 5 1 v l.length (Lib.byteCells l)
theorem own_formQ {B n : Nat} {e : TypeId} {w : World} {v : Value} {xs : List Value} (h : w.ownsRow B e 1 v n xs) :
    ∃ (a : Option Addr) (cap : Nat), v = .slice a n cap ∧ n ≤ cap ∧ cap ≤ maxLen ∧ (0 < n → ∃ g, a = some ⟨g, 0, none⟩ ∧ B ≤ g ∧ g < w.heap.size) := by
  rcases h.2 with ⟨rfl, rfl⟩ | ⟨g, cap, cur, rfl, hB, hg, hn, hm, _⟩
  · exact ⟨none, 0, rfl, Nat.le_refl _, Nat.zero_le _, fun h => absurd h (by omega)⟩
  · exact ⟨_, cap, rfl, hn, hm, fun _ => ⟨g, rfl, hB, (Array.getElem?_eq_some_iff.1 hg).1⟩⟩
theorem own_keptQ {B n : Nat} {e : TypeId} {w w' : World} {v : Value} {xs : List Value} (h : w.ownsRow B e 1 v n xs) (hb : Below w.heap.size w w') : w'.ownsRow B e 1 v n xs := by
  refine ⟨h.1, ?_⟩
  rcases h.2 with h | ⟨g', cap, cur, h, hg1, hg, r⟩
  · exact .inl h
  · exact .inr ⟨g', cap, cur, h, hg1, (hb.block g' (Array.getElem?_eq_some_iff.1 hg).1).trans hg, r⟩
theorem OwnB.kept {B : Nat} {w w' : World} {v : Value} {l : List UInt8} (h : OwnB B w v l) (hb : Below w.heap.size w w') : OwnB B w' v l := own_keptQ h hb
theorem own_blockQ {B n : Nat} {e : TypeId} {w : World} {v : Value} {xs : List Value} (h : w.ownsRow B e 1 v n xs) : ∀ k, v.ownBlock = some k → B ≤ k := by
  intro k hk
  rcases h.2 with ⟨rfl, _⟩ | ⟨g, cap, cur, rfl, hB, _⟩
  · simp [Value.ownBlock] at hk
  · simp [Value.ownBlock] at hk
    omega
theorem fold_pushQ : ∀ (l : List UInt8) (s : ByteArray), (l.map fun x => (x.toNat : Int)).foldl (fun r n => r.push (UInt8.ofNat n.toNat)) s = ⟨(s.data.toList ++ l).toArray⟩
  | [], s => by simp
  | x :: l, s => by
    rw [List.map_cons, List.foldl_cons, fold_pushQ l]
    apply Go.WideShapes.bytes_inj
    simp
/-- A text out of a row of bytes of the call's own. -/
theorem conv_rowQ {B : Nat} {v : Value} {l : List UInt8} {W : World} (h : OwnB B W v l) :
    (convert 79 9 v).run Tryd.prog W = .ok (.string ⟨l.toArray⟩) W := by
  rcases h.2 with ⟨rfl, h0⟩ | ⟨g, cap, cur, rfl, _⟩
  · have : l = [] := List.eq_nil_of_length_eq_zero h0
    subst this
    rw [run_convert_bytes_string _ 79 9 5 _ _ _ Tryd.underlying79 Tryd.underlying5 Tryd.underlying9]
    rfl
  · rw [run_convert_bytes_string _ 79 9 5 _ _ _ Tryd.underlying79 Tryd.underlying5 Tryd.underlying9]
    have hl := run_loadCells_list (P := Tryd.prog) (w := W) ⟨g, 0, none⟩ (Lib.byteCells l) (by
      intro j v hj
      have hjl : j < l.length := by
        rcases Nat.lt_or_ge j l.length with h | h
        · exact h
        · rw [List.getElem?_eq_none (by simpa [Lib.byteCells] using h)] at hj; cases hj
      rw [show (⟨g, 0, none⟩ : Addr).add j = ⟨g, j, none⟩ by unfold Addr.add; split <;> simp_all]
      have hh := h
      unfold OwnB at hh
      rw [hh.cellAt j (by omega)]
      exact hj)
    have e := run_bytesToString (P := Tryd.prog) W ⟨g, 0, none⟩ l.length cap (l.map fun x => (x.toNat : Int)) (by simpa [Lib.byteCells, Function.comp_def] using hl)
    rw [e, fold_pushQ]
    rfl
theorem byte_one (l : List UInt8) : ∀ v ∈ Lib.byteCells l, v.oneCell' = true := by
  intro v hv
  unfold Lib.byteCells at hv
  rw [List.mem_map] at hv
  obtain ⟨x, _, rfl⟩ := hv
  rfl
theorem byte_cell_at {l : List UInt8} {k : Nat} {c : UInt8} (h : l[k]? = some c) : (Lib.byteCells l)[k]? = some (.int .u8 (c.toNat : Int)) := by
  simp [Lib.byteCells, h]
theorem byte_cells_set (l : List UInt8) (k : Nat) (c : UInt8) : (Lib.byteCells l).set k (.int .u8 (c.toNat : Int)) = Lib.byteCells (l.set k c) := by
  simp [Lib.byteCells, List.map_set]
theorem byte_cells_snoc (l : List UInt8) (c : UInt8) : Lib.byteCells l ++ [.int .u8 (c.toNat : Int)] = Lib.byteCells (l ++ [c]) := by
  simp [Lib.byteCells]
theorem own_litQ (w wr : World) (x : Value) (h : w.heap.size ≤ wr.heap.size) : (wr.alloc (.cells #[x] 5)).ownsRow w.heap.size 5 1 (.slice (some ⟨wr.heap.size, 0, none⟩) 1 1) 1 [x] :=
  World.ownsRow_lit wr #[x] 1 h (by decide) rfl

/-! ### Texts -/
theorem bytes_eq (s : ByteArray) : (⟨s.data.toList.toArray⟩ : ByteArray) = s := by
  apply Go.WideShapes.bytes_inj
  simp
theorem cat_arrQ (a b : List UInt8) : (⟨a.toArray⟩ ++ ⟨b.toArray⟩ : ByteArray) = ⟨(a ++ b).toArray⟩ := by
  apply Go.WideShapes.bytes_inj
  simp

/-! ### Arrays of numbers -/
/-- An array of 27 numbers. -/
def arrI (f : Nat → Int) : Array Value := ((List.range 27).map fun k => Value.int .i64 (f k)).toArray
theorem arrI_size (f : Nat → Int) : (arrI f).size = 27 := by simp [arrI]
theorem arrI_at (f : Nat → Int) {k : Nat} (h : k < 27) : (arrI f)[k]? = some (.int .i64 (f k)) := by
  simp [arrI, h]
theorem arrI_one (f : Nat → Int) : (arrI f).all (·.oneCell') = true := by
  rw [Array.all_eq_true]
  intro i hi
  rw [arrI_size] at hi
  have := arrI_at f hi
  rw [Array.getElem?_eq_getElem (by rw [arrI_size]; exact hi)] at this
  rw [Option.some.inj this]
  rfl
theorem arrI_set (f : Nat → Int) (k : Nat) (z : Int) : (arrI f).setIfInBounds k (.int .i64 z) = arrI (fun j => if j = k then z else f j) := by
  apply Array.ext_getElem?
  intro i
  rw [Array.getElem?_setIfInBounds]
  by_cases hi : i < 27
  · rw [arrI_at _ hi, arrI_at _ hi, arrI_size]
    by_cases h : k = i
    · subst h; simp [hi]
    · rw [if_neg h, if_neg (fun e => h e.symm)]
  · have h1 : (arrI f)[i]? = none := Array.getElem?_eq_none (by rw [arrI_size]; omega)
    have h2 : (arrI (fun j => if j = k then z else f j))[i]? = none := Array.getElem?_eq_none (by rw [arrI_size]; omega)
    rw [h1, h2, arrI_size]
    by_cases h : k = i
    · subst h; simp [hi]
    · rw [if_neg h]
theorem arrI_congr {f g : Nat → Int} (h : ∀ k, k < 27 → f k = g k) : arrI f = arrI g := by
  unfold arrI
  congr 1
  apply List.map_congr_left
  intro k hk
  rw [h k (List.mem_range.1 hk)]
/-- The counts of a pile as an array. -/
def arrN (f : Nat → Nat) : Array Value := arrI fun k => (f k : Int)
section
variable {P : Program} {w : World}
theorem run_index_arr {t e : TypeId} {i : TypeInfo} {f : Nat → Int} {k : Nat} (ht : P.underlying t = some (.array 27 e)) (hi : P.info? e = some i) (hs : i.size = 1) (hagg : (isAgg e).run P w = .ok false w) (hk : k < 27) :
    (Instr.index t (.agg (arrI f)) (.int .i64 (k : Int))).run P w = .ok (.int .i64 (f k)) w := by
  have h3 := arrI_at f hk
  simp [Instr.index, run_underlying ht, asIntOf, sizeOf, typeInfo, hi, hs, part, hagg, h3]
  omega
/-- Two arrays of numbers are the same. -/
def sameArr (f g : Nat → Int) : Bool := (List.range 27).all fun k => f k == g k
theorem sameArr_iff {f g : Nat → Int} : sameArr f g = true ↔ ∀ k, k < 27 → f k = g k := by simp [sameArr]
theorem run_equalIn_arr {t e : TypeId} {f g : Nat → Int} (d : Nat) (ht : P.underlying t = some (.array 27 e)) (he : P.underlying e = some (.int .i64)) (hsz : ∀ w, (sizeOf e).run P w = .ok 1 w) :
    (Op.equalIn (d + 2) t (.agg (arrI f)) (.agg (arrI g))).run P w = .ok (sameArr f g) w := by
  rw [Op.equalIn, sameArr, List.range_eq_range']
  simp only [Sem.run_bind, run_underlying ht, Result.andThen_ok, hsz, Std.Legacy.Range.forIn_eq_forIn_range', Std.Legacy.Range.size, Nat.sub_zero, Nat.add_sub_cancel, Nat.div_one]
  have hl : ∀ i ∈ List.range' 0 27 1, i < 27 := fun i hi => by simpa using (List.mem_range'_1.1 hi).2
  generalize List.range' 0 27 1 = l at hl ⊢
  induction l with
  | nil => simp
  | cons i l ih =>
    have hi : i < 27 := hl i (by simp)
    have part_at : ∀ h : Nat → Int, (part e (arrI h) (i * 1)).run P w = .ok (.int .i64 (h i)) w := fun h => by
      have := arrI_at h hi
      simp [part, isAgg, run_underlying he, this]
    have pe : (Op.equalIn (d + 1) e (.int .i64 (f i)) (.int .i64 (g i))).run P w = .ok (f i == g i) w := run_equalIn_int w d e .i64 .i64 _ _ he
    simp only [List.forIn_cons, Sem.run_bind, part_at, pe, Result.andThen_ok, List.all_cons]
    cases hb : (f i == g i)
    · simp
    · simp only [Bool.not_true, Bool.false_eq_true, if_false, Sem.run_pure, Result.andThen_ok, Bool.true_and]
      exact ih fun j hj => hl j (by simp [hj])
theorem run_eql_arr {t e : TypeId} {f g : Nat → Int} (ht : P.underlying t = some (.array 27 e)) (he : P.underlying e = some (.int .i64)) (hsz : ∀ w, (sizeOf e).run P w = .ok 1 w) :
    (binOp .eql t (.agg (arrI f)) (.agg (arrI g))).run P w = .ok (.bool (sameArr f g)) w := by
  rw [run_eql_struct, run_equalIn_arr (w := w) 9998 ht he hsz]
  rfl
end
/-! ### The array of counts, at this program -/
theorem infoA : (Tryd.prog.info? 117).map (·.size) = some 27 := by kernel_rfl
theorem arr_info (f : Nat → Int) : (Tryd.prog.info? 117).map (·.size) = some (arrI f).size := by rw [arrI_size]; exact infoA
theorem arr_zero : (#[.int .i64 0, .int .i64 0, .int .i64 0, .int .i64 0, .int .i64 0, .int .i64 0, .int .i64 0, .int .i64 0, .int .i64 0, .int .i64 0, .int .i64 0, .int .i64 0, .int .i64 0, .int .i64 0, .int .i64 0, .int .i64 0, .int .i64 0, .int .i64 0, .int .i64 0, .int .i64 0, .int .i64 0, .int .i64 0, .int .i64 0, .int .i64 0, .int .i64 0, .int .i64 0, .int .i64 0] : Array Value) = arrI fun _ => 0 := rfl
theorem index_arr (f : Nat → Int) {k : Nat} (hk : k < 27) (w : World) : (Instr.index 117 (.agg (arrI f)) (.int .i64 (k : Int))).run Tryd.prog w = .ok (.int .i64 (f k)) w := by
  have hs : (Tryd.prog.info? 3).map (·.size) = some 1 := by kernel_rfl
  cases hi : Tryd.prog.info? 3 with
  | none => rw [hi] at hs; cases hs
  | some i =>
    rw [hi] at hs
    exact run_index_arr Tryd.underlying117 hi (Option.some.inj hs) (by simp [isAgg, run_underlying Tryd.underlying3]) hk
theorem eql_arr (f g : Nat → Int) (w : World) : (binOp .eql 117 (.agg (arrI f)) (.agg (arrI g))).run Tryd.prog w = .ok (.bool (sameArr f g)) w := by
  refine run_eql_arr Tryd.underlying117 Tryd.underlying3 (fun w => ?_)
  kernel_rfl
end Go.Proofs.YtmkdbahdhobdjaaDoor
