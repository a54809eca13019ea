/-
  Boards, plain: what is valid, squares by row and column, premiums of standard boards; no program in sight.
-/
import Derived.Test.YtmkdbahdhobdjaaDoorA
import Derived.Lib.Strings
namespace Go.Proofs.YtmkdbahdhobdjaaDoor
open Go.RowKit

structure ShO (p : Prop) : Prop where
  out : p

/-- A premium, as a number. -/
def premI (c : Int) : Bool := decide (c = 46) || (decide (c = 50) || (decide (c = 51) || (decide (c = 100) || decide (c = 116))))
/-- A capital letter, as a number. -/
def bigB (c : Int) : Bool := decide (65 ≤ c) && decide (c ≤ 90)
/-- A letter on a board, as a number. -/
def ltrI (c : Int) : Bool := smallB c || bigB c
/-- A cell, as a number. -/
def cellI (c : Int) : Bool := decide (c = 46) || ltrI c
theorem bigB_iff {c : Int} : bigB c = true ↔ 65 ≤ c ∧ c ≤ 90 := by simp [bigB]
theorem bigB_no {c : Int} (h : ¬ (65 ≤ c ∧ c ≤ 90)) : bigB c = false := by
  rw [Bool.eq_false_iff]; exact fun e => h (bigB_iff.1 e)
theorem ltrI_iff {c : Int} : ltrI c = true ↔ (97 ≤ c ∧ c ≤ 122) ∨ (65 ≤ c ∧ c ≤ 90) := by
  unfold ltrI; rw [Bool.or_eq_true, smallB_iff, bigB_iff]
theorem cellI_iff {c : Int} : cellI c = true ↔ c = 46 ∨ (97 ≤ c ∧ c ≤ 122) ∨ (65 ≤ c ∧ c ≤ 90) := by
  unfold cellI; rw [Bool.or_eq_true, ltrI_iff, decide_eq_true_eq]
theorem premI_iff {c : Int} : premI c = true ↔ c = 46 ∨ c = 50 ∨ c = 51 ∨ c = 100 ∨ c = 116 := by
  unfold premI; simp only [Bool.or_eq_true, decide_eq_true_eq]
theorem ltrI_high (c : Int) (h : 128 ≤ c) : ltrI c = false := by
  rw [Bool.eq_false_iff]; intro e; have := ltrI_iff.1 e; omega
theorem cellI_high (c : Int) (h : 128 ≤ c) : cellI c = false := by
  rw [Bool.eq_false_iff]; intro e; have := cellI_iff.1 e; omega
theorem premI_high (c : Int) (h : 128 ≤ c) : premI c = false := by
  rw [Bool.eq_false_iff]; intro e; have := premI_iff.1 e; omega

/-- A board is valid. -/
structure OkB (n : Int) (p c : ByteArray) : Prop where
  low : 5 ≤ n
  high : n ≤ 15
  ps : (p.size : Int) = n * n
  cs : (c.size : Int) = n * n
  prem : allC premI p.data.toList = true
  cell : allC cellI c.data.toList = true
def sizB (n : Int) : Bool := decide (5 ≤ n) && decide (n ≤ 15)
def okBd (n : Int) (p c : ByteArray) : Bool :=
  sizB n && (decide ((p.size : Int) = n * n) && allC premI p.data.toList && (decide ((c.size : Int) = n * n) && allC cellI c.data.toList))
theorem sizB_iff {n : Int} : sizB n = true ↔ 5 ≤ n ∧ n ≤ 15 := by simp [sizB]
theorem sizB_no {n : Int} (h : ¬ (5 ≤ n ∧ n ≤ 15)) : sizB n = false := by
  rw [Bool.eq_false_iff]; exact fun e => h (sizB_iff.1 e)
theorem okBd_iff {n : Int} {p c : ByteArray} : okBd n p c = true ↔ OkB n p c := by
  unfold okBd
  simp only [Bool.and_eq_true, decide_eq_true_eq, sizB_iff]
  exact ⟨fun ⟨⟨a, b⟩, ⟨c, d⟩, e, f⟩ => ⟨a, b, c, e, d, f⟩, fun h => ⟨⟨h.low, h.high⟩, ⟨h.ps, h.prem⟩, h.cs, h.cell⟩⟩
theorem okBd_no {n : Int} {p c : ByteArray} (h : ¬ OkB n p c) : okBd n p c = false := by
  rw [Bool.eq_false_iff]; exact fun e => h (okBd_iff.1 e)

/-- The size of a valid board as a natural number. -/
theorem OkB.nat {n : Int} {p c : ByteArray} (h : OkB n p c) : ∃ N : Nat, n = (N : Int) ∧ 5 ≤ N ∧ N ≤ 15 ∧ p.size = N * N ∧ c.size = N * N := by
  obtain ⟨N, rfl⟩ := Int.eq_ofNat_of_zero_le (show 0 ≤ n by have := h.low; omega)
  refine ⟨N, rfl, by have := h.low; omega, by have := h.high; omega, ?_, ?_⟩
  · exact Int.ofNat_inj.1 (h.ps.trans (Int.natCast_mul N N).symm)
  · exact Int.ofNat_inj.1 (h.cs.trans (Int.natCast_mul N N).symm)

/-- The bytes by row and column, the first m of them. -/
def gridL (f : Nat → Nat → UInt8) (n m : Nat) : List UInt8 := (List.range m).map fun k => f (k / n) (k % n)
theorem gridL_len (f : Nat → Nat → UInt8) (n m : Nat) : (gridL f n m).length = m := by simp [gridL]
theorem gridL_zero (f : Nat → Nat → UInt8) (n : Nat) : gridL f n 0 = [] := rfl
theorem div_row {n r c : Nat} (h : c < n) : (r * n + c) / n = r := by
  rw [Nat.mul_comm, Nat.mul_add_div (by omega), Nat.div_eq_of_lt h, Nat.add_zero]
theorem mod_row {n r c : Nat} (h : c < n) : (r * n + c) % n = c := by
  rw [Nat.mul_comm, Nat.mul_add_mod, Nat.mod_eq_of_lt h]
theorem gridL_step (f : Nat → Nat → UInt8) {n r c : Nat} (h : c < n) : gridL f n (r * n + (c + 1)) = gridL f n (r * n + c) ++ [f r c] := by
  unfold gridL
  rw [← Nat.add_assoc, List.range_succ, List.map_append]
  simp only [List.map_cons, List.map_nil]
  rw [div_row h, mod_row h]
theorem gridL_row (f : Nat → Nat → UInt8) (n r : Nat) : gridL f n (r * n + n) = gridL f n ((r + 1) * n) := by
  rw [Nat.succ_mul]
theorem gridL_get (f : Nat → Nat → UInt8) (n m k : Nat) (h : k < m) : (gridL f n m)[k]'(by rw [gridL_len]; exact h) = f (k / n) (k % n) := by simp [gridL]
theorem gridL_congr {f g : Nat → Nat → UInt8} {n m : Nat} (h : ∀ k, k < m → f (k / n) (k % n) = g (k / n) (k % n)) : gridL f n m = gridL g n m := by
  unfold gridL
  exact List.map_congr_left fun k hk => h k (List.mem_range.1 hk)

/-- The byte at a place, 0 behind the end. -/
def atB (s : ByteArray) (k : Nat) : UInt8 := s.data.toList.getD k 0
theorem atB_get {s : ByteArray} {k : Nat} (h : k < s.size) : atB s k = s[k] := by
  unfold atB
  rw [List.getD_eq_getElem?_getD, List.getElem?_eq_getElem (by simpa using h)]
  rfl
theorem grid_whole {s : ByteArray} {n : Nat} (h : s.size = n * n) : gridL (fun r c => atB s (r * n + c)) n (n * n) = s.data.toList := by
  refine List.ext_getElem (by rw [gridL_len]; simp [h]) fun k h1 h2 => ?_
  rw [gridL_len] at h1
  rw [gridL_get _ _ _ _ h1]
  have hk : k / n * n + k % n = k := by rw [Nat.mul_comm]; exact Nat.div_add_mod k n
  show atB s (k / n * n + k % n) = _
  rw [hk, atB_get (by omega)]
  rfl

/-- The bytes of squares with rows and columns exchanged. -/
def turnL (n : Nat) (s : ByteArray) : List UInt8 := gridL (fun c r => atB s (r * n + c)) n (n * n)
def turnS (n : Nat) (s : ByteArray) : ByteArray := ⟨(turnL n s).toArray⟩
theorem turnL_len (n : Nat) (s : ByteArray) : (turnL n s).length = n * n := gridL_len _ _ _
theorem turnS_size (n : Nat) (s : ByteArray) : (turnS n s).size = n * n := by
  show (turnL n s).toArray.size = _
  rw [List.size_toArray, turnL_len]
theorem row_lt {n r c : Nat} (hr : r < n) (hc : c < n) : r * n + c < n * n := by
  have : (r + 1) * n ≤ n * n := Nat.mul_le_mul_right n hr
  rw [Nat.succ_mul] at this
  omega

/-- A column of squares. -/
def colL (n : Nat) (s : ByteArray) (k : Nat) : List UInt8 := (List.range n).map fun r => atB s (r * n + k)
def rowL (n : Nat) (s : ByteArray) (k : Nat) : List UInt8 := (List.range n).map fun c => atB s (k * n + c)
theorem colL_len (n : Nat) (s : ByteArray) (k : Nat) : (colL n s k).length = n := by simp [colL]
theorem rowL_len (n : Nat) (s : ByteArray) (k : Nat) : (rowL n s k).length = n := by simp [rowL]
/-- The first m bytes of a column. -/
def colTo (n : Nat) (s : ByteArray) (k m : Nat) : List UInt8 := (List.range m).map fun r => atB s (r * n + k)
theorem colTo_succ (n : Nat) (s : ByteArray) (k m : Nat) : colTo n s k (m + 1) = colTo n s k m ++ [atB s (m * n + k)] := by simp [colTo, List.range_succ]
theorem colTo_all (n : Nat) (s : ByteArray) (k : Nat) : colTo n s k n = colL n s k := rfl
/-- A row of a valid board is a stretch of its squares. -/
theorem rowL_cut {s : ByteArray} {n k : Nat} (h : s.size = n * n) (hk : k < n) : (s.extract (k * n) ((k + 1) * n)).data.toList = rowL n s k := by
  have h1 : (k + 1) * n ≤ n * n := Nat.mul_le_mul_right n hk
  have h2 : (k + 1) * n = k * n + n := Nat.succ_mul k n
  rw [Lib.extract_data]
  refine List.ext_getElem ?_ fun i h3 h4 => ?_
  · rw [rowL_len]
    have hsz : s.data.toList.length = s.size := by rw [Array.length_toList]; rfl
    simp [List.length_take, List.length_drop]
    have : s.data.size = s.size := rfl
    omega
  · rw [rowL_len] at h4
    have hlt : k * n + i < s.size := by omega
    simp only [rowL, List.getElem_map, List.getElem_range]
    rw [atB_get hlt]
    simp
    rfl

/-- The premium of a square, from the two distances from the sides. -/
def stdP (n a b : Int) : Int :=
  if a = 0 ∧ (b = 0 ∨ b = (n - 1).tdiv 2) then 116 else if a = b then 100 else if (a + b).tmod 6 = 4 then 51 else if (a + b).tmod 4 = 3 then 50 else 46
def nearI (n r : Int) : Int := min r (n - 1 - r)
def stdI (n r c : Int) : Int := stdP n (min (nearI n r) (nearI n c)) (max (nearI n r) (nearI n c))
def stdU (n : Nat) (r c : Nat) : UInt8 := (stdI n r c).toNat.toUInt8
theorem stdP_low (n a b : Int) : 0 ≤ stdP n a b ∧ stdP n a b < 128 := by
  unfold stdP
  repeat' split
  all_goals omega
theorem stdU_is (n r c : Nat) : ((stdU n r c).toNat : Int) = stdI n r c := by
  have := stdP_low n (min (nearI n r) (nearI n c)) (max (nearI n r) (nearI n c))
  unfold stdU
  have h : (stdI n r c).toNat < 128 := by unfold stdI; omega
  have h2 : 0 ≤ stdI n r c := by unfold stdI; exact this.1
  rw [show ((stdI n r c).toNat.toUInt8).toNat = (stdI n r c).toNat from by simp [Nat.toUInt8]; omega]
  omega

/-! What the functions answer. -/
abbrev Bd := Int × ByteArray × ByteArray
def noBd : Bd := (0, ByteArray.empty, ByteArray.empty)
def bdV (b : Bd) : Value := .agg #[.int .i64 b.1, .string b.2.1, .string b.2.2]
def dotsS (m : Nat) : ByteArray := ⟨(List.replicate m 46).toArray⟩
def emptyOut (n : Int) : Bd × Int := if sizB n = true then ((n, dotsS (n.toNat * n.toNat), dotsS (n.toNat * n.toNat)), 0) else (noBd, 2)
def stdL (n : Nat) : List UInt8 := gridL (stdU n) n (n * n)
def stdS (n : Nat) : ByteArray := ⟨(stdL n).toArray⟩
def standOut (n : Int) : Bd × Int := if sizB n = true then ((n, stdS n.toNat, dotsS (n.toNat * n.toNat)), 0) else (noBd, 2)
def inBd (n r c : Int) : Bool := (decide (0 ≤ r) && decide (r < n)) && (decide (0 ≤ c) && decide (c < n))
def atOut (s : ByteArray) (n : Int) (p c : ByteArray) (r k : Int) : Int := if okBd n p c = true ∧ inBd n r k = true then ((atB s (r * n + k).toNat).toNat : Int) else 0
def setS (s : ByteArray) (k : Nat) (x : UInt8) : ByteArray := ⟨(s.data.toList.set k x).toArray⟩
def setOut (n : Int) (p c : ByteArray) (r k : Int) (x : UInt8) : Bd × Int :=
  if okBd n p c = true then if inBd n r k = true then if cellI x.toNat = true then ((n, p, setS c (r * n + k).toNat x), 0) else (noBd, 7) else (noBd, 2) else (noBd, 1)
def turnOut (n : Int) (p c : ByteArray) : Bd × Int := if okBd n p c = true then ((n, turnS n.toNat p, turnS n.toNat c), 0) else (noBd, 1)
def lineOutB (n : Int) (p c : ByteArray) (k : Int) (down : Bool) : ByteArray × Int :=
  if okBd n p c = true then if 0 ≤ k ∧ k < n then (⟨(if down then colL n.toNat c k.toNat else rowL n.toNat c k.toNat).toArray⟩, 0) else (⟨#[]⟩, 2) else (⟨#[]⟩, 1)
def anyLet (c : ByteArray) : Bool := c.data.toList.any fun x => ltrI (x.toNat : Int)
def blankOut (n : Int) (p c : ByteArray) : Bool := okBd n p c && !anyLet c
end Go.Proofs.YtmkdbahdhobdjaaDoor
