/-
  ReadDecimal: the program's reader and the model's answer the same pair.
-/
import Derived.Test.YtbfilebkmpcepaaDoorRows
import Derived.Test.YtbfilebkmpcepaaDoorA
import Derived.Test.YtbfilebkmpcepaaDoorE1
import Derived.Test.YtbfilebkmpcepaaDoorShelfJ
namespace Go.Proofs.YtbfilebkmpcepaaDoor
open Go.RowKit

set_option maxRecDepth 100000 in
theorem specReadDecimal_any (s : ByteArray) (w : World) (hs : s.size ≤ 1048576) :
    Calls Tryd.prog 13 #[.string s] w fun e w' => e = .returned (rdV (rdS s.data.toList)) ∧ Below w.heap.size w w' := by
  have hl : Calls Tryd.prog 29 #[.string s] w fun e w' => e = .returned (rdV (rdS s.data.toList)) ∧ Below w.heap.size w w' := by
    by_cases h0 : 0 < s.size
    · by_cases h45 : s[0] = 45
      · exact l01Number_minus s w hs h0 h45
      · exact l01Number_plain s w hs h0 h45
    · have hz : s = ByteArray.empty := ByteArray.size_eq_zero_iff.1 (by omega)
      subst hz
      go_enter Tryd.func29, Tryd.ntmps29
      go_wp2_with fail
      go_ret2
      exact ⟨rfl, Below.refl _ _⟩
  cases hr : rdS s.data.toList with
  | some n =>
    rw [hr] at hl
    have HL := hid hl
    clear hl hr
    go_enter Tryd.func13, Tryd.ntmps13
    go_wp2_with (go_at_call 29; refine HL.out.mono ?_; rintro e w' ⟨rfl, hb⟩; simp only [rdV])
    go_ret2
    exact ⟨rfl, hb⟩
  | none =>
    rw [hr] at hl
    have HL := hid hl
    clear hl hr
    go_enter Tryd.func13, Tryd.ntmps13
    go_wp2_with (go_at_call 29; refine HL.out.mono ?_; rintro e w' ⟨rfl, hb⟩; simp only [rdV])
    go_ret2
    exact ⟨rfl, hb⟩

/-- What the parser's two errors need. -/
def ErrsAt (w : World) : Prop := (2 < w.heap.size ∧ ∃ te pe, w.cell? ⟨2, 0, none⟩ = some (.iface te pe)) ∧ (3 < w.heap.size ∧ ∃ te pe, w.cell? ⟨3, 0, none⟩ = some (.iface te pe))
theorem ErrsAt.on {w w' : World} (h : ErrsAt w) (hb : Below w.heap.size w w') : ErrsAt w' := by
  obtain ⟨⟨h1, te, pe, e1⟩, h2, te', pe', e2⟩ := h
  exact ⟨⟨Nat.lt_of_lt_of_le h1 hb.size, te, pe, (hb.cell h1).trans e1⟩, Nat.lt_of_lt_of_le h2 hb.size, te', pe', (hb.cell h2).trans e2⟩

theorem parse_ok (s : ByteArray) (hs : s.size ≤ 1048576) (n : Int) (h : Lib.parseIntB 64 s.data.toList = .ok n) (w : World) :
    Calls Tryd.prog 31 #[.string s, .int .i64 10, .int .i64 64] w fun e w' => e = .returned (.tuple #[.int .i64 n, .nilIface]) ∧ Below w.heap.size w w' := by
  refine (Tryd.strconv_ParseInt_10_at64_ok s (by omega) n h w).mono ?_
  rintro e w' ⟨rfl, rfl | ⟨t, rfl⟩⟩
  · exact ⟨rfl, Below.refl _ _⟩
  · exact ⟨rfl, Lib.bytesWorld_below _ _ _⟩

theorem parse_bad (s : ByteArray) (hs : s.size ≤ 1048576) (h : ∀ n, Lib.parseIntB 64 s.data.toList ≠ .ok n) (w : World) (hE : ErrsAt w) :
    Calls Tryd.prog 31 #[.string s, .int .i64 10, .int .i64 64] w fun e w' => ∃ n N, e = .returned (.tuple #[.int .i64 n, .iface 87 (.pointer (some ⟨N, 0, none⟩))]) ∧ Below w.heap.size w w' := by
  obtain ⟨⟨_, te, pe, e1⟩, _, te', pe', e2⟩ := hE
  cases hx : Lib.parseIntB 64 s.data.toList with
  | ok n => exact absurd hx (h n)
  | range =>
    refine (Any.strconv_ParseInt_10_at64_range Tryd.laysC174 s (by omega) hx _ w e2 (Or.inr ⟨te', pe', rfl⟩)).mono ?_
    rintro e w' ⟨N, rfl, _, _, hb⟩
    exact ⟨_, N, rfl, hb⟩
  | _ =>
    refine (Any.strconv_ParseInt_10_at64_syntax Tryd.laysC174 s (by omega) hx _ w e1 (Or.inr ⟨te, pe, rfl⟩)).mono ?_
    rintro e w' ⟨N, rfl, _, _, hb⟩
    exact ⟨_, N, rfl, hb⟩

theorem trim_call (s : ByteArray) (w : World) : ∃ t : ByteArray, t.size = (tl s.data.toList).length ∧ Calls Tryd.prog 30 #[.string s, .string ⟨#[45]⟩] w fun e w' => e = .returned (.string t) ∧ w' = w := by
  refine ⟨_, ?_, Tryd.strings_TrimPrefix s ⟨#[45]⟩ w⟩
  rw [← trim_tl]
  simp [ByteArray.size]

set_option maxRecDepth 100000 in
set_option maxHeartbeats 2000000 in
theorem implReadDecimal_any (s : ByteArray) (w : World) (hs : s.size ≤ 1048576) (hT : Lib.TabIs Tryd.prog w "internal/strconv.uint64pow10" .u64 Lib.pow10Tab) (hE : ErrsAt w) :
    Calls Tryd.prog 14 #[.string s] w fun e w' => e = .returned (rdV (rdS s.data.toList)) ∧ Below w.heap.size w w' := by
  obtain ⟨t, htz, htc⟩ := trim_call s w
  have HTC := hid htc
  clear htc
  by_cases h18 : t.size ≤ 18
  · by_cases hok : ∃ n, Lib.parseIntB 64 s.data.toList = .ok n
    · obtain ⟨n, hn⟩ := hok
      have hnb := Lib.parseIntB_bounds hn
      have HR := rd_ok (by omega) hn
      have HP := hid (parse_ok s hs n hn w)
      have HD := hid (fun w1 hb => implDecimal_any n (by omega) (by omega) w1 (Lib.tabBelow_of_tabIs hT w1 hb))
      clear hn hT hE
      by_cases hc : Lib.itoa n = s.data.toList
      · have hcb : (Lib.itoa n == s.toList) = true := by rw [ByteArray.toList_eq]; exact beq_iff_eq.2 hc
        rw [if_pos hc] at HR
        have HR := hid HR
        clear hc
        go_enter Tryd.func14, Tryd.ntmps14
        go_wp2_with (go_at_call 30; refine HTC.out.mono ?_; rintro e w' ⟨rfl, rfl⟩)
        go_wp2_with (go_at_call 31; refine HP.out.mono ?_; rintro e w1 ⟨rfl, hb1⟩)
        go_wp2_with (go_at_call 12; refine (HD.out _ hb1).mono ?_; rintro e w2 ⟨rfl, hb2⟩)
        go_ret2
        exact ⟨by rw [HR.out]; rfl, hb1.trans (hb2.mono hb1.size)⟩
      · have hcb : (Lib.itoa n == s.toList) = false := by rw [ByteArray.toList_eq]; exact beq_eq_false_iff_ne.2 hc
        rw [if_neg hc] at HR
        have HR := hid HR
        clear hc
        go_enter Tryd.func14, Tryd.ntmps14
        go_wp2_with (go_at_call 30; refine HTC.out.mono ?_; rintro e w' ⟨rfl, rfl⟩)
        go_wp2_with (go_at_call 31; refine HP.out.mono ?_; rintro e w1 ⟨rfl, hb1⟩)
        go_wp2_with (go_at_call 12; refine (HD.out _ hb1).mono ?_; rintro e w2 ⟨rfl, hb2⟩)
        go_ret2
        exact ⟨by rw [HR.out]; rfl, hb1.trans (hb2.mono hb1.size)⟩
    · have hno : ∀ n, Lib.parseIntB 64 s.data.toList ≠ .ok n := fun n e => hok ⟨n, e⟩
      have HR := hid (rd_bad hno)
      have HP := hid (parse_bad s hs hno w hE)
      clear hno hok hT hE
      go_enter Tryd.func14, Tryd.ntmps14
      go_wp2_with (go_at_call 30; refine HTC.out.mono ?_; rintro e w' ⟨rfl, rfl⟩)
      go_wp2_with (go_at_call 31; refine HP.out.mono ?_; rintro e w1 ⟨n, N, rfl, hb1⟩)
      go_ret2
      exact ⟨by rw [HR.out]; rfl, hb1⟩
  · have HR := hid (rd_long (l := s.data.toList) (by omega))
    clear hT hE
    go_enter Tryd.func14, Tryd.ntmps14
    go_wp2_with (go_at_call 30; refine HTC.out.mono ?_; rintro e w' ⟨rfl, rfl⟩)
    go_ret2
    exact ⟨by rw [HR.out]; rfl, Below.refl _ _⟩

end Go.Proofs.YtbfilebkmpcepaaDoor
