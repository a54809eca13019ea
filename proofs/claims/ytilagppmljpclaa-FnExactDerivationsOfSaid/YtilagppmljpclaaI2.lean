/-
  Derivations: the model's search for a stem, and whether a list has a name.
-/
import Derived.Test.YtilagppmljpclaaHD
namespace Go.Proofs.Ytilagppmljpclaa
open Go.RowKit

/-- Is the text among the first k? -/
def inTo (us : List ByteArray) (s : ByteArray) : Nat → Bool
  | 0 => false
  | k + 1 => inTo us s k || ((strAt us k).toList == s.toList)
theorem inTo_mono {us : List ByteArray} {s : ByteArray} {i : Nat} : ∀ {k : Nat}, i < k → ((strAt us i).toList == s.toList) = true → inTo us s k = true
  | 0, h, _ => absurd h (by omega)
  | k + 1, h, e => by
    unfold inTo
    rcases Nat.lt_or_ge i k with h1 | h1
    · rw [inTo_mono h1 e]; rfl
    · obtain rfl : i = k := by omega
      rw [e, Bool.or_true]
/-- The first stem with a word, among the first k. -/
def stemIx (ss : List Stm) (word : ByteArray) : Nat → Option Nat
  | 0 => none
  | k + 1 => match stemIx ss word k with
    | some j => some j
    | none => if ((stmG ss k).word.toList == word.toList) = true then some k else none
theorem stemIx_old {ss : List Stm} {word : ByteArray} {i : Nat} (h : stemIx ss word i = none) (he : ((stmG ss i).word.toList == word.toList) = true) : ∀ {k : Nat}, i < k → stemIx ss word k = some i
  | 0, hk => absurd hk (by omega)
  | k + 1, hk => by
    rcases Nat.lt_or_ge i k with h1 | h1
    · unfold stemIx
      rw [stemIx_old h he h1]
    · obtain rfl : i = k := by omega
      unfold stemIx
      rw [h]
      exact if_pos he
theorem stemIx_no {ss : List Stm} {word : ByteArray} {k : Nat} (h : stemIx ss word k = none) (he : ((stmG ss k).word.toList == word.toList) = false) : stemIx ss word (k + 1) = none := by
  unfold stemIx
  rw [h]
  exact if_neg (by rw [he]; exact fun e => by cases e)

set_option maxHeartbeats 1000000 in
theorem l04In_any {v : Value} {us : List ByteArray} (s : ByteArray) (W : World) (hu : Strs W v us) :
    Calls Try.prog 69 #[v, .string s] W fun e w' => e = .returned (.bool (inTo us s us.length)) ∧ W = w' := by
  have hul := hu.len
  obtain ⟨ua, uc, rfl, hul1, hul2, huc⟩ := hu
  have HUC := Shh.mk huc
  clear huc
  go_enter Try.func69, Try.ntmps69
  go_wp2
  go_loopw [5] (fun i wr => ∃ k : Nat, k ≤ us.length ∧ i = .int .i64 k ∧ Shh (inTo us s k = false) ∧ wr = W) (fun i _ => us.length - (intOf i).toNat)
  case atStart => exact ⟨0, Nat.zero_le _, rfl, ⟨rfl⟩, rfl⟩
  case round =>
    obtain ⟨k, hk, rfl, hE, rfl⟩ := hrel
    by_cases hlt : k < us.length
    · obtain ⟨bu, ou, rfl, hbu, hcu⟩ := HUC.out (by omega)
      have cu := hcu k hlt
      have HY := Shh.mk (fun h => inTo_mono (us := us) (s := s) hlt h)
      have HS : Shh (inTo us s (k + 1) = (inTo us s k || ((strAt us k).toList == s.toList))) := ⟨rfl⟩
      obtain ⟨x, hx⟩ : ∃ x, strAt us k = x := ⟨_, rfl⟩
      rw [hx] at cu HY HS
      clear hcu hx
      cases hb : (x.toList == s.toList)
      · rw [hb] at HS
        have HN : Shh (inTo us s (k + 1) = false) := ⟨by rw [HS.out, hE.out]; rfl⟩
        clear HS HY
        go_wp2
        go_roundw
        case rel => exact ⟨k + 1, by omega, by go_num, HN, by first | trivial | rfl⟩
        case measure => simp [intOf]; omega
      · have HN := Shh.mk (HY.out hb)
        clear HS HY
        go_wp2
        go_ret
        exact ⟨by rw [HN.out]; rfl, by first | trivial | rfl⟩
    · obtain rfl : k = us.length := by omega
      go_wp2
      go_ret
      exact ⟨by rw [hE.out]; rfl, by first | trivial | rfl⟩

set_option maxRecDepth 100000 in
set_option maxHeartbeats 1000000 in
theorem l04Uses_any {g : Nat} {va vs : Value} {xs : List Aff} {ss : List Stm} (word : ByteArray) (W : World) (hg : GramAt W g va vs xs ss) :
    Calls Try.prog 68 #[.pointer (some ⟨g, 0, none⟩), .string word] W fun e w' => ((∃ (j : Nat) (u : Value), stemIx ss word ss.length = some j ∧ j < ss.length ∧ Strs W u (stmG ss j).uses ∧ e = .returned (.tuple #[u, .bool true])) ∨
      (stemIx ss word ss.length = none ∧ e = .returned (.tuple #[.slice none 0 0, .bool false]))) ∧ W = w' := by
  have hsl := hg.gram.stms.len
  have c0 := hg.blk.cells
  obtain ⟨⟨aa, ac, rfl, -⟩, ⟨sa, sc, rfl, hsl1, hsm, hsc⟩⟩ := hg.gram
  have HCS := Shh.mk hsc
  clear hsc hg
  go_enter Try.func68, Try.ntmps68
  go_wp2
  go_loopw [6] (fun i wr => ∃ k : Nat, k ≤ ss.length ∧ i = .int .i64 k ∧ Shh (stemIx ss word k = none) ∧ wr = W) (fun i _ => ss.length - (intOf i).toNat)
  case atStart => exact ⟨0, Nat.zero_le _, rfl, ⟨rfl⟩, rfl⟩
  case round =>
    obtain ⟨k, hk, rfl, hE, rfl⟩ := hrel
    by_cases hlt : k < ss.length
    · obtain ⟨bs, os, rfl, hbs, hcc⟩ := HCS.out (by omega)
      obtain ⟨k0, u, k1, hu⟩ := hcc k hlt
      have HU := Shh.mk hu
      have HY := Shh.mk (fun h => stemIx_old (ss := ss) (word := word) hE.out h hlt)
      have HNO := Shh.mk (fun h => stemIx_no (ss := ss) (word := word) hE.out h)
      obtain ⟨ua, uc, rfl, -⟩ := hu
      obtain ⟨x, hx⟩ : ∃ x, (stmG ss k).word = x := ⟨_, rfl⟩
      rw [hx] at k0 HY HNO
      obtain ⟨ul, hul⟩ : ∃ ul, (stmG ss k).uses.length = ul := ⟨_, rfl⟩
      have HUL := Shh.mk hul
      rw [hul] at k1 HU
      clear hcc hx hul
      cases hb : (x.toList == word.toList)
      · have HN := Shh.mk (HNO.out hb)
        clear HY HNO
        go_wp2
        go_roundw
        case rel => exact ⟨k + 1, by omega, by go_num, HN, by first | trivial | rfl⟩
        case measure => simp [intOf]; omega
      · have HN := Shh.mk (HY.out hb)
        clear HY HNO
        go_wp2
        go_ret2
        exact ⟨.inl ⟨k, _, HN.out, hlt, HU.out, rfl⟩, by first | trivial | rfl⟩
    · obtain rfl : k = ss.length := by omega
      go_wp2
      go_ret2
      exact ⟨.inr ⟨hE.out, rfl⟩, by first | trivial | rfl⟩
end Go.Proofs.Ytilagppmljpclaa
