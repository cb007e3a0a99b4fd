/- The reference's Site, Packet, Check, asked, IsCut: contracts. -/
import Derived.Test.YtpmmahlmfcbbbaaNk
import Derived.Test.YtpmmahlmfcbbbaaNi
import Derived.Deep.QuietTactic
import Derived.BigQuiet
namespace Go.Proofs.Ytpmmahlmfcbbbaa
open Go.RowKit

set_option maxHeartbeats 400000 in
theorem Site_any (k : Int) (w : World) : Calls Try.prog 33 #[.int .i64 k] w fun e w' => e = .returned (.bool (isP k)) ∧ w' = w := by
  by_cases h0 : 0 ≤ k
  · have hv := Lib.hid (show isP k = decide (k < 24) by unfold isP; simp [h0])
    go_enter Try.func33, Try.ntmps33
    go_wp2_with fail
    go_ret
    exact ⟨retB hv.out.symm, by trivial⟩
  · have hv := Lib.hid (show isP k = false by unfold isP; simp [h0])
    go_enter Try.func33, Try.ntmps33
    go_wp2_with fail
    go_ret
    exact ⟨retB hv.out.symm, by trivial⟩
set_option maxHeartbeats 800000 in
theorem rPacket_any (p : Pk) (w : World) (A : Option Addr) (c : Nat) :
    Calls Try.prog 31 #[.agg #[.int .i64 p.frm, .int .i64 p.to, .slice A p.data.length c]] w fun e w' => e = .returned (.bool (pkB p)) ∧ Below w.heap.size w w' := by
  have hA := Lib.hid (Site_any p.frm)
  have hC := Lib.hid (Site_any p.to)
  have hv := Lib.hid (show pkB p = (isP p.frm && isP p.to && (p.frm != p.to) && decide ((p.data.length : Int) ≤ 1048576)) by unfold pkB areP; congr 2; exact propext (by omega))
  have hB := Lib.hid (bnew w (.cells #[.int .i64 p.frm, .int .i64 p.to, .slice A p.data.length c] 28))
  obtain ⟨x, hx⟩ : ∃ x, isP p.frm = x := ⟨_, rfl⟩
  obtain ⟨y, hy⟩ : ∃ y, isP p.to = y := ⟨_, rfl⟩
  obtain ⟨z, hz⟩ : ∃ z, (p.frm != p.to) = z := ⟨_, rfl⟩
  rw [hx, hy, hz] at hv
  rw [hx] at hA
  rw [hy] at hC
  clear hx hy
  go_enter Try.func31, Try.ntmps31
  go_wp2_with fail
  refine (hA.out _).mono ?_
  rintro e w1 ⟨rfl, rfl⟩
  cases x with
  | false =>
    go_wp2_with fail
    go_ret
    exact ⟨retB hv.out.symm, hB.out⟩
  | true =>
    go_wp2_with fail
    refine (hC.out _).mono ?_
    rintro e w1 ⟨rfl, rfl⟩
    cases y with
    | false =>
      go_wp2_with fail
      go_ret
      exact ⟨retB hv.out.symm, hB.out⟩
    | true =>
      cases z with
      | false =>
        go_wp2_with fail
        go_ret
        exact ⟨retB hv.out.symm, hB.out⟩
      | true =>
        go_wp2_with fail
        go_ret
        exact ⟨retB (by rw [hv.out]; rfl), hB.out⟩
set_option maxRecDepth 100000 in
set_option maxHeartbeats 800000 in
theorem IsCut_any (n : Nt) (a b : Int) (w : World) (A A' : Option Addr) (c c' : Nat) (B : Nat) (hBw : B ≤ w.heap.size) (h : NR w (· < B) A c A' c' n) :
    Calls Try.prog 39 #[.agg #[.slice A n.q.length c, .slice A' n.ap.length c'], .int .i64 a, .int .i64 b] w fun e w' => e = .returned (.bool (cutB n a b)) ∧ Below w.heap.size w w' := by
  have hB := Lib.hid (bnew w (.cells #[.slice A n.q.length c, .slice A' n.ap.length c'] 25))
  have hm := h.cap'
  have hm' := h.max'
  unfold maxLen at hm'
  have hh := Lib.hid h
  clear h
  go_enter Try.func39, Try.ntmps39
  go_wp2_with fail
  go_loopw [7] (fun i wr => ∃ k : Nat, k ≤ n.ap.length ∧ i = .int .i64 k ∧ Hid ((n.ap.take k).contains (linkP a b) = false) ∧ wr = w.alloc (.cells #[.slice A n.q.length c, .slice A' n.ap.length c'] 25)) (fun i _ => n.ap.length - (intOf i).toNat)
  case atStart => exact ⟨0, Nat.zero_le _, rfl, rfl, rfl⟩
  case round =>
    obtain ⟨k, hk, rfl, hno, rfl⟩ := hrel
    by_cases hlt : k < n.ap.length
    · obtain ⟨bb, off, rfl, hs, hc0, hc1, hI⟩ := (hh.out.ap.keep (Kept.below (hB.out.mono hBw))).at_ hlt
      have hb := Lib.hid hB.out
      have hlk := Lib.hid (show cutB n a b = n.ap.contains (linkP a b) from rfl)
      have hx2 : ∀ mn mx, linkP a b = (mn, mx) → (n.ap[k] = linkP a b ∧ n.ap[k].1 = mn ∧ n.ap[k].2 = mx) ∨ (n.ap[k] ≠ linkP a b ∧ ((n.ap[k].1 == mn) = false ∨ (n.ap[k].1 = mn ∧ (n.ap[k].2 == mx) = false))) := by
        intro mn mx h
        rw [h]
        by_cases h1 : n.ap[k].1 = mn
        · by_cases h2 : n.ap[k].2 = mx
          · exact .inl ⟨Prod.ext h1 h2, h1, h2⟩
          · exact .inr ⟨fun e => h2 (by rw [e]), .inr ⟨h1, by simpa using h2⟩⟩
        · exact .inr ⟨fun e => h1 (by rw [e]), .inl (by simpa using h1)⟩
      have hyes := Lib.hid (fun h : n.ap[k] = linkP a b => contains_yes hlt h)
      have hnx := Lib.hid (fun h : n.ap[k] ≠ linkP a b => contains_take_no hno.out hlt h)
      by_cases hab : b < a
      · have hlink : linkP a b = (b, a) := by unfold linkP; rw [Int.min_eq_right (by omega), Int.max_eq_left (by omega)]
        rcases hx2 _ _ hlink with ⟨he, h1, h2⟩ | ⟨he, h1 | ⟨h1, h2⟩⟩
        · rw [h1] at hc0
          rw [h2] at hc1
          have hv := Lib.hid (hyes.out he)
          clear he h1 h2 hlink hx2 hnx hno
          go_wp2_with fail
          go_ret
          exact ⟨retB (by rw [hlk.out, hv.out]), hb.out⟩
        · have hn2 := Lib.hid (hnx.out he)
          clear he hlink hx2 hyes hno hnx
          go_wp2_with fail
          go_roundw
          case rel => exact ⟨k + 1, by omega, by go_num, hn2.out, by trivial⟩
          case measure => simp [intOf]; omega
        · have hn2 := Lib.hid (hnx.out he)
          rw [h1] at hc0
          clear he hlink hx2 hyes hno hnx h1
          go_wp2_with fail
          go_roundw
          case rel => exact ⟨k + 1, by omega, by go_num, hn2.out, by trivial⟩
          case measure => simp [intOf]; omega
      · have hlink : linkP a b = (a, b) := by unfold linkP; rw [Int.min_eq_left (by omega), Int.max_eq_right (by omega)]
        have hab2 : a ≤ b := by omega
        have habs : a < b ∨ a = b := by omega
        rcases hx2 _ _ hlink with ⟨he, h1, h2⟩ | ⟨he, h1 | ⟨h1, h2⟩⟩
        · rw [h1] at hc0
          rw [h2] at hc1
          have hv := Lib.hid (hyes.out he)
          clear he h1 h2 hlink hx2 hnx hno
          rcases habs with habs | rfl
          all_goals
            go_wp2_with fail
            go_ret
            exact ⟨retB (by rw [hlk.out, hv.out]), hb.out⟩
        · have hn2 := Lib.hid (hnx.out he)
          clear he hlink hx2 hyes hno hnx
          rcases habs with habs | rfl
          all_goals
            go_wp2_with fail
            go_roundw
            case rel => exact ⟨k + 1, by omega, by go_num, hn2.out, by trivial⟩
            case measure => simp [intOf]; omega
        · have hn2 := Lib.hid (hnx.out he)
          rw [h1] at hc0
          clear he hlink hx2 hyes hno hnx h1
          rcases habs with habs | rfl
          all_goals
            go_wp2_with fail
            go_roundw
            case rel => exact ⟨k + 1, by omega, by go_num, hn2.out, by trivial⟩
            case measure => simp [intOf]; omega
    · have hv := Lib.hid (show cutB n a b = false by have := hno.out; rw [List.take_of_length_le (by omega)] at this; exact this)
      have hle : ¬ ((k : Int) < n.ap.length) := by omega
      clear hlt hno
      go_wp2_with fail
      go_ret
      exact ⟨retB hv.out.symm, hB.out⟩
end Go.Proofs.Ytpmmahlmfcbbbaa
