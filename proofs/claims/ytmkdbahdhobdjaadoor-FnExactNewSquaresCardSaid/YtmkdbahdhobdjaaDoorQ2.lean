/-
  The program's kinds and counts of tiles.
-/
import Derived.Test.YtmkdbahdhobdjaaDoorQ1
import Derived.Test.YtmkdbahdhobdjaaDoorC1
import Derived.Test.YtmkdbahdhobdjaaDoorShelfI
import Derived.Laws.ResultCell
namespace Go.Proofs.YtmkdbahdhobdjaaDoor
open Go.RowKit

/-- The order of all tiles. -/
def orderL : List UInt8 := [63, 97, 98, 99, 100, 101, 102, 103, 104, 105, 106, 107, 108, 109, 110, 111, 112, 113, 114, 115, 116, 117, 118, 119, 120, 121, 122]
theorem index_order_all : ∀ n : Nat, n < 256 → Lib.indexByte orderL n.toUInt8 = kindI (n : Int) := by decide +kernel
theorem index_order {c : Int} (h0 : 0 ≤ c) (h1 : c < 256) : Lib.indexByte orderL c.toNat.toUInt8 = kindI c := by
  obtain ⟨n, rfl⟩ := Int.eq_ofNat_of_zero_le h0
  rw [Int.toNat_natCast]
  exact index_order_all n (by omega)

set_option maxHeartbeats 400000 in
theorem kindOf_any (c : Int) (w : World) (h0 : 0 ≤ c) (h1 : c < 256) : Calls Tryd.prog 138 #[.int .u8 c] w fun e w' => e = .returned (.int .i64 (kindI c)) ∧ w = w' := by
  have H := hid (index_order h0 h1)
  go_enter Tryd.func138, Tryd.ntmps138
  go_wp2_with (go_at_call 161; refine (Tryd.strings_IndexByte _ _ _).mono ?_; rintro e w' ⟨rfl, rfl⟩)
  go_ret
  exact ⟨congrArg (fun z => Ending.returned (.int .i64 z)) H.out, rfl⟩

theorem kindOf_tile {c : UInt8} {K : Nat} (h : kindI (c.toNat : Int) = (K : Int)) (w : World) : Calls Tryd.prog 138 #[.int .u8 (c.toNat : Int)] w fun e w' => e = .returned (.int .i64 (K : Int)) ∧ w = w' := by
  rw [← h]
  exact kindOf_any _ w (by omega) (by have := c.toNat_lt; omega)
theorem kindOf_none {c : UInt8} (h : kindI (c.toNat : Int) = -1) (w : World) : Calls Tryd.prog 138 #[.int .u8 (c.toNat : Int)] w fun e w' => e = .returned (.int .i64 (-1)) ∧ w = w' := by
  rw [← h]
  exact kindOf_any _ w (by omega) (by have := c.toNat_lt; omega)
theorem kindI_nat {c : UInt8} (h : tileB (c.toNat : Int) = true) : kindI (c.toNat : Int) = (kindN c : Int) := by
  have := kindI_yes h
  unfold kindN
  omega

/-- The counts of a text; all 0 where it is not of tiles alone. -/
def cntZ (l : List UInt8) (k : Nat) : Nat := if allTiles l = true then cnt l k else 0
theorem cntZ_yes {l : List UInt8} (h : allTiles l = true) : cntZ l = cnt l := by
  funext k
  unfold cntZ
  rw [if_pos h]
theorem cntZ_no {l : List UInt8} (h : allTiles l = false) : cntZ l = fun _ => 0 := by
  funext k
  unfold cntZ
  rw [if_neg (by rw [h]; exact fun e => by cases e)]
theorem tiles_grows (s : ByteArray) (k : Nat) (h : k < s.size) : allTiles (s.data.toList.take (k + 1)) = (allTiles (s.data.toList.take k) && tileB ((s[k]'h).toNat : Int)) := by
  rw [take_grows s k h]
  simp [allTiles]
theorem tiles_not (s : ByteArray) (k : Nat) (h : k < s.size) (hs : tileB ((s[k]'h).toNat : Int) = false) : allTiles s.data.toList = false := by
  rw [Bool.eq_false_iff]
  intro ha
  have := tiles_mem ha (at_mem s k h)
  rw [hs] at this
  cases this
theorem arr_step (s : ByteArray) (k : Nat) (h : k < s.size) (ht : tileB ((s[k]'h).toNat : Int) = true) :
    (arrN (cnt (s.data.toList.take k))).setIfInBounds (kindN (s[k]'h)) (.int .i64 ((cnt (s.data.toList.take k) (kindN (s[k]'h)) : Int) + 1)) = arrN (cnt (s.data.toList.take (k + 1))) := by
  unfold arrN
  rw [arrI_set]
  refine arrI_congr fun j hj => ?_
  rw [take_grows s k h, cnt_snoc_kind _ ht hj]
  by_cases e : j = kindN (s[k]'h)
  · rw [if_pos e, if_pos e, e]; omega
  · rw [if_neg e, if_neg e]
theorem made2Q (w : World) (t t' : TypeId) (cs cs' : Array Value) : Blk ((w.alloc (.cells cs t)).alloc (.cells cs' t')) (w.heap.size + 1) t' cs' := by
  have := Blk.made (w.alloc (.cells cs t)) t' cs'
  simpa only [World.size_alloc] using this
theorem Blk.row {w : World} {g : Nat} {t : TypeId} {cs : Array Value} (h : Blk w g t cs) (cs' : Array Value) : Blk (w.setRow g cs') g t cs' := setRow_heap w g cs cs' t (0, 0) h
theorem Blk.row_other {w : World} {g g' : Nat} {t : TypeId} {cs : Array Value} (h : Blk w g t cs) (hg : g ≠ g') (cs' : Array Value) : Blk (w.setRow g' cs') g t cs := (setRow_other w g' g cs' hg).trans h
theorem below_row {B : Nat} {w w' : World} {g : Nat} (h : Below B w w') (hg : B ≤ g) (cs : Array Value) : Below B w (w'.setRow g cs) :=
  h.trans ⟨rfl, rfl, rfl, by simp, fun k hk => setRow_other _ _ _ _ (by omega)⟩
/-- An array and a bool that a call hands back through a variable and a slot. -/
theorem ret_arr {fn : Func} {p u : Tmp} {a : Act} {w : World} {g : Nat} {f : Nat → Int} {b : Bool} {R : Ending → World → Prop} (hf : fn.results = #[.cell p 117, .tmp u])
    (hp : a.tmps.getD p undef = .pointer (some ⟨g, 0, none⟩)) (hu : a.tmps.getD u undef = .bool b) (hb : Blk w g 117 (arrI f)) (hd : a.defers = []) (hR : R (.returned (.tuple #[.agg (arrI f), .bool b])) w) :
    bodyPost Tryd.prog fn R .ret a w := by
  refine bodyPost_ret ?_ hd hR
  rw [results_cell_tmp hf]
  have hl := run_loadVar_row (P := Tryd.prog) w g 117 117 (arrI f) (0, 0) _ hb Tryd.underlying117 rfl (arr_info f)
  simp only [hp, hu, asAddr, Sem.run_pure, Result.andThen_ok, hl]

set_option maxRecDepth 100000 in
set_option maxHeartbeats 4000000 in
theorem countTiles_any (s : ByteArray) (w : World) (hs : s.size ≤ 1048576) :
    Calls Tryd.prog 92 #[.string s] w fun e w' => e = .returned (.tuple #[.agg (arrN (cntZ s.data.toList)), .bool (allTiles s.data.toList)]) ∧ Below w.heap.size w w' := by
  go_enter Tryd.func92, Tryd.ntmps92
  go_wp2
  go_loopw [9] (fun i wr => ∃ k : Nat, k ≤ s.size ∧ i = .int .i64 k ∧ Hid (allTiles (s.data.toList.take k) = true) ∧ Hid (Blk wr w.heap.size 117 (arrN fun _ => 0)) ∧ Hid (Blk wr (w.heap.size + 1) 117 (arrN (cnt (s.data.toList.take k)))) ∧ Below w.heap.size w wr) (fun i _ => s.size - (intOf i).toNat)
  case atStart => exact ⟨0, Nat.zero_le _, rfl, rfl, (Blk.made _ _ _).alloc _, made2Q _ _ _ _ _, ((Below.refl _ _).alloc (Nat.le_refl _) _).alloc (by simp) _⟩
  case round =>
    obtain ⟨k, hk, rfl, ht, hr, hc, hb⟩ := hrel
    have hz := hb.size
    by_cases hlt : k < s.size
    · cases hti : tileB ((s[k]'hlt).toNat : Int)
      · have HN := hid (tiles_not s k hlt hti)
        have HK := hid (kindI_no hti)
        clear hti
        go_wp2_with (first
          | (go_at_call 138; refine (kindOf_none HK.out _).mono ?_; rintro e w' ⟨rfl, rfl⟩)
          | (refine wpList_store_row rfl 117 _ _ rfl w.heap.size (arrI fun _ => 0) (by rfl) (by rfl) 117 _ hr.out (arr_info _) (by simp only [arrN, arrI_size]) (arrI_one _) ?_))
        refine ret_arr rfl (by rfl) (by rfl) (hr.out.row _) rfl ⟨?_, below_row hb (Nat.le_refl _) _⟩
        rw [HN.out, cntZ_no HN.out]
        rfl
      · have HN := hid (tiles_grows s k hlt)
        have HT := hid hti
        have HK := hid (kindI_nat hti)
        have hK := kindN_lt hti
        have HS := hid (arr_step s k hlt hti)
        have hcn := cnt_le (s.data.toList.take k) (kindN (s[k]'hlt))
        have hcl : (s.data.toList.take k).length ≤ k := List.length_take_le _ _
        obtain ⟨K, hKe⟩ : ∃ K, kindN (s[k]'hlt) = K := ⟨_, rfl⟩
        rw [hKe] at hcn hK HK HS
        obtain ⟨x, hx⟩ : ∃ x, cnt (s.data.toList.take k) K = x := ⟨_, rfl⟩
        rw [hx] at hcn HS
        have hcell : wr.cell? ⟨w.heap.size + 1, K, none⟩ = some (.int .i64 (x : Int)) := by
          rw [hc.out.cells, ← hx]; exact arrI_at _ hK
        have hfr := hc.out.marks K
        have hK0 : (0 : Int) ≤ (K : Int) := by omega
        have hK1 : (K : Int) < 27 := by omega
        clear hKe hx hti
        go_wp2_with (go_at_call 138; refine (kindOf_tile HK.out _).mono ?_; rintro e w' ⟨rfl, rfl⟩)
        go_roundw
        case rel =>
          refine ⟨k + 1, by omega, by go_num, ?_, hr.out.other (by simp) _, ?_, hb.setCell (by simp) _⟩
          · rw [Hid, HN.out, ht.out, HT.out]; rfl
          · have := hc.out.stored K (.int .i64 ((x : Int) + 1))
            rw [HS.out] at this
            exact this
        case measure => simp [intOf]; omega
    · have hkk : k = s.size := by omega
      have HA : Hid (allTiles s.data.toList = true) := by
        have := ht.out
        rw [hkk, take_all] at this
        exact this
      have HC : Hid (Blk wr (w.heap.size + 1) 117 (arrN (cntZ s.data.toList))) := by
        have := hc.out
        rw [hkk, take_all] at this
        rw [Hid, cntZ_yes HA.out]
        exact this
      clear hkk ht hc
      go_wp2_with (first
          | (refine wpList_load_row rfl 117 _ rfl (w.heap.size + 1) (by rfl) 117 _ (0, 0) _ HC.out Tryd.underlying117 rfl (arr_info _) ?_)
          | (refine wpList_store_row rfl 117 _ _ rfl w.heap.size _ (by rfl) (by rfl) 117 _ hr.out (arr_info _) (by simp only [arrN, arrI_size]) (arrI_one _) ?_))
      refine ret_arr rfl (by rfl) (by rfl) (hr.out.row _) rfl ⟨?_, below_row hb (Nat.le_refl _) _⟩
      rw [HA.out]
      rfl
end Go.Proofs.YtmkdbahdhobdjaaDoor
