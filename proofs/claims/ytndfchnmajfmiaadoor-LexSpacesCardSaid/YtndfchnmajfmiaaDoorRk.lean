/- The reference's Lex. -/
import Derived.Test.YtndfchnmajfmiaaDoorRt
import Derived.Test.YtndfchnmajfmiaaDoorJn
import Derived.Test.YtndfchnmajfmiaaDoorPk
import Derived.Lib.IndexBytes
namespace Go.Proofs.YtndfchnmajfmiaaDoor
open Go.RowKit

theorem drop_at (s : ByteArray) {k : Nat} (h : k < s.size) : s.data.toList.drop k = s[k] :: s.data.toList.drop (k + 1) :=
  List.drop_eq_getElem_cons (l := s.data.toList) (i := k) h
theorem run_lt2 {p : UInt8 → Bool} {s : ByteArray} {k e : Nat} (h1 : k ≤ e) (h2 : e ≤ k + run p (s.data.toList.drop k)) (h : e < s.size) (hp : p s[e] = true) : e + 1 ≤ k + run p (s.data.toList.drop k) := by
  obtain ⟨i, rfl⟩ : ∃ i, e = k + i := ⟨e - k, by omega⟩
  have hl : s.data.toList.length = s.size := rfl
  have := run_lt (p := p) (l := s.data.toList.drop k) (j := i) (by omega) (by rw [List.length_drop]; omega) (by rw [List.getElem_drop]; exact hp)
  omega
theorem run_stop2 {p : UInt8 → Bool} {s : ByteArray} {k e : Nat} (h1 : k ≤ e) (h2 : e ≤ k + run p (s.data.toList.drop k)) (h : ∀ h : e < s.size, p s[e] = false) : e = k + run p (s.data.toList.drop k) := by
  obtain ⟨i, rfl⟩ : ∃ i, e = k + i := ⟨e - k, by omega⟩
  have hl : s.data.toList.length = s.size := rfl
  have := run_stop (p := p) (l := s.data.toList.drop k) (j := i) (by omega) (fun h' => by
    rw [List.length_drop] at h'
    rw [List.getElem_drop]
    exact h (by omega))
  omega
theorem sub_at (s : ByteArray) {k e : Nat} : (s.extract k e).data.toList = (s.data.toList.drop k).take (e - k) := by rw [Lib.extract_data]
theorem sub_eq (s : ByteArray) {k e : Nat} : s.extract k e = ⟨((s.data.toList.drop k).take (e - k)).toArray⟩ := by
  have := data_list (s.extract k e)
  rw [sub_at] at this
  exact this.symm

theorem name_len {l : List UInt8} (h : nameB l = true) : l.length ≤ 32 := by
  cases l with
  | nil => simp
  | cons c r =>
    simp only [nameB, Bool.and_eq_true, decide_eq_true_eq] at h
    have := h.2.1
    simp
    omega
/-- A number's digits, as a token. -/
def numOk (l : List UInt8) : Bool := decide (num l ≤ two40) && (decide (l.length = 1) || l.head? != some 48)
theorem piece_letter {c : UInt8} {r : List UInt8} (p : Nat) (hs : spaceB c = false) (hl : letterB c = true) : piece (c :: r) p = if nameB ((c :: r).take (run partB (c :: r))) = true then some (run partB (c :: r), some ⟨1, (c :: r).take (run partB (c :: r)), 0, p⟩) else none := by
  have hr := run_le partB (c :: r)
  rw [piece, if_neg (by rw [hs]; decide), if_pos hl]
  by_cases h : run partB (c :: r) ≤ 32
  · rw [if_pos h, if_pos (take_run_name hl h)]
  · rw [if_neg h, if_neg (fun h' => by
      have := name_len h'
      rw [List.length_take] at this
      omega)]
theorem piece_digit {c : UInt8} {r : List UInt8} (p : Nat) (hs : spaceB c = false) (hl : letterB c = false) (hd : digitB c = true) : piece (c :: r) p = if numOk ((c :: r).take (run digitB (c :: r))) = true then some (run digitB (c :: r), some ⟨2, [], num ((c :: r).take (run digitB (c :: r))), p⟩) else none := by
  have hr := run_le digitB (c :: r)
  have hp : run digitB (c :: r) = run digitB r + 1 := run_pos hd
  have hlen : ((c :: r).take (run digitB (c :: r))).length = run digitB (c :: r) := by rw [List.length_take]; omega
  have hhd : ((c :: r).take (run digitB (c :: r))).head? = some c := by rw [hp]; rfl
  rw [piece, if_neg (by rw [hs]; decide), if_neg (by rw [hl]; decide), if_pos hd]
  unfold numOk
  rw [hlen, hhd]
  by_cases h : num ((c :: r).take (run digitB (c :: r))) ≤ two40 ∧ (run digitB (c :: r) = 1 ∨ c ≠ 48)
  · rw [if_pos h, if_pos]
    rw [Bool.and_eq_true, decide_eq_true_eq]
    refine ⟨h.1, ?_⟩
    rcases h.2 with h2 | h2
    · simp [h2]
    · simp [h2]
  · rw [if_neg h, if_neg]
    intro h'
    rw [Bool.and_eq_true, decide_eq_true_eq, Bool.or_eq_true, decide_eq_true_eq] at h'
    exact h ⟨h'.1, h'.2.imp id (fun h2 => by simpa using h2)⟩
theorem piece_sign {c : UInt8} {r : List UInt8} (p : Nat) (hs : spaceB c = false) (hl : letterB c = false) (hd : digitB c = false) (hc : ¬ (c = 47 ∧ r.head? = some 47)) : piece (c :: r) p = if signB c = true then some (1, some ⟨3, [c], 0, p⟩) else none := by
  rw [piece, if_neg (by rw [hs]; decide), if_neg (by rw [hl]; decide), if_neg (by rw [hd]; decide), if_neg hc]

set_option maxRecDepth 100000 in
set_option maxHeartbeats 3200000 in
theorem rnumber_any (s : ByteArray) (h1 : 1 ≤ s.size) (h64 : s.size ≤ 65536) (hd : ∀ c ∈ s.data.toList, digitB c = true) (w : World) :
    Calls Tryd.prog 29 #[.string s] w fun e w' => (∃ z : Int, e = .returned (.tuple #[.int .i64 z, .bool (numOk s.data.toList)]) ∧ (numOk s.data.toList = true → z = num s.data.toList)) ∧ Below w.heap.size w w' := by
  have hlen : Hid (s.data.toList.length = s.size) := rfl
  have hdH := Lib.hid hd
  clear hd
  go_enter Tryd.func29, Tryd.ntmps29
  go_wp2_with fail
  go_loop [4, 5] (fun a i => ∃ k : Nat, k ≤ s.size ∧ i = .int .i64 k ∧ a = .int .i64 (num (s.data.toList.take k)) ∧ num (s.data.toList.take k) ≤ 1099511627776) (fun _ i => s.size - (intOf i).toNat)
  case atStart => exact ⟨0, Nat.zero_le _, rfl, rfl, by simp [num, val]⟩
  case round =>
    obtain ⟨k, hk, rfl, rfl, hn⟩ := hrel
    by_cases hlt : k < s.size
    · have hdk := hdH.out s[k] (by rw [show s[k] = s.data.toList[k]'hlt from rfl]; exact List.getElem_mem _)
      have hd2 : (48 : Int) ≤ s[k].toNat ∧ (s[k].toNat : Int) ≤ 57 := by
        unfold digitB at hdk
        simp only [Bool.and_eq_true, decide_eq_true_eq, UInt8.le_iff_toNat_le] at hdk
        have h48 : (48 : UInt8).toNat = 48 := rfl
        have h57 : (57 : UInt8).toNat = 57 := rfl
        omega
      have hsu : num (s.data.toList.take (k + 1)) = 10 * num (s.data.toList.take k) + (s[k].toNat - 48) := num_take_succ s.data.toList k hlt
      have hmo := num_take_le s.data.toList (k + 1)
      have hi : (10 * (num (s.data.toList.take k) : Int) + ((s[k].toNat : Int) - 48)) = (num (s.data.toList.take (k + 1)) : Nat) := by rw [hsu]; omega
      obtain ⟨g1, g2⟩ := hd2
      have hm : ((s[k].toNat : Int) - 48) % 256 = (s[k].toNat : Int) - 48 := by omega
      clear hdk hsu
      by_cases h40 : num (s.data.toList.take (k + 1)) ≤ 1099511627776
      · have h40' : ¬ (1099511627776 : Int) < num (s.data.toList.take (k + 1)) := by omega
        have hiH := Lib.hid hi
        have hb1 : 10 * (num (s.data.toList.take k) : Int) + ((s[k].toNat : Int) - 48) ≤ 1099511627776 := by omega
        clear hi
        go_wp2_with fail
        go_round
        case rel => exact ⟨k + 1, by omega, by go_num, by rw [← hiH.out], h40⟩
        case measure => simp [intOf]; omega
      · have hf : Hid (numOk s.data.toList = false) := by
          show numOk _ = false
          unfold numOk
          rw [decide_eq_false (by unfold two40; omega), Bool.false_and]
        have hb1 : (1099511627776 : Int) < 10 * (num (s.data.toList.take k) : Int) + ((s[k].toNat : Int) - 48) := by omega
        clear hi hmo
        go_wp2_with fail
        go_ret2
        rw [hf.out]
        exact ⟨⟨_, rfl, fun h => by cases h⟩, Below.refl _ _⟩
    · have hks : k = s.size := by omega
      subst hks
      have hta : s.data.toList.take s.size = s.data.toList := List.take_of_length_le (by rw [hlen.out]; omega)
      rw [hta] at hn ⊢
      clear hta
      have h0 : 0 < s.size := h1
      have hhd : s.data.toList.head? = some s[0] := by
        have := drop_at s h0
        rw [List.drop_zero] at this
        rw [this]; rfl
      have hf : numOk s.data.toList = (decide (s.size = 1) || (s[0] != 48)) := by
        unfold numOk
        rw [decide_eq_true (show num s.data.toList ≤ two40 from hn), hhd, hlen.out, Bool.true_and]
        congr 1
      clear hhd
      by_cases e1 : s.size = 1
      · have e1' : ((s.size : Int) == 1) = true := by rw [e1]; rfl
        have hfH : Hid (numOk s.data.toList = true) := by show _ = _; rw [hf, decide_eq_true e1, Bool.true_or]
        clear hf e1
        go_wp2_with fail
        go_quiet (fail)
        go_wp2_with fail
        go_ret2
        rw [hfH.out]
        exact ⟨⟨_, rfl, fun _ => rfl⟩, dN (Below.refl _ _) _⟩
      · have e1' : ((s.size : Int) == 1) = false := by rw [beq_eq_false_iff_ne]; omega
        cases e2 : (s[0] != 48) with
        | true =>
          have e2' : ((s[0].toNat : Int) != 48) = true := by
            rw [bne_iff_ne] at e2 ⊢
            intro h
            exact e2 (UInt8.toNat_inj.1 (by show s[0].toNat = 48; omega))
          have hfH : Hid (numOk s.data.toList = true) := by show _ = _; rw [hf, e2, Bool.or_true]
          clear hf e1 e2
          go_wp2_with fail
          go_quiet (fail)
          go_wp2_with fail
          go_ret2
          rw [hfH.out]
          exact ⟨⟨_, rfl, fun _ => rfl⟩, dN (Below.refl _ _) _⟩
        | false =>
          have e2' : ((s[0].toNat : Int) != 48) = false := by
            rw [bne_eq_false_iff_eq] at e2 ⊢
            rw [e2]; rfl
          have hfH : Hid (numOk s.data.toList = false) := by show _ = _; rw [hf, decide_eq_false e1, e2]; rfl
          clear hf e1 e2
          go_wp2_with fail
          go_quiet (fail)
          go_wp2_with fail
          go_ret2
          rw [hfH.out]
          exact ⟨⟨_, rfl, fun h => by cases h⟩, dN (Below.refl _ _) _⟩
end Go.Proofs.YtndfchnmajfmiaaDoor
