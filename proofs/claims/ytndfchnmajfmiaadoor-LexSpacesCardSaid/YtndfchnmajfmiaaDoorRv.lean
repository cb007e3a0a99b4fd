/- The reference's Valid and Decimal. -/
import Derived.Test.YtndfchnmajfmiaaDoorRn
import Derived.Lib.ConvBytes
namespace Go.Proofs.YtndfchnmajfmiaaDoor
open Go.RowKit

theorem one_conv (w : World) (b : UInt8) : (convert 39 9 (.slice (some ⟨w.heap.size, 0, none⟩) 1 1)).run Tryd.prog (w.alloc (.cells #[.int .u8 (b.toNat : Int)] 5)) = .ok (.string ⟨#[b]⟩) (w.alloc (.cells #[.int .u8 (b.toNat : Int)] 5)) := by
  have h := run_convert_bytes_arg (P := Tryd.prog) (w.alloc (.cells #[.int .u8 (b.toNat : Int)] 5)) 39 5 Tryd.underlying39 Tryd.underlying5 w.heap.size 0 1 1 [(b.toNat : Int)] (by simp) (fun i hi => by
    obtain rfl : i = 0 := by omega
    rw [World.cell?_alloc_at _ _ _ _ rfl]
    rfl) 9 Tryd.underlying9
  rw [h]
  simp [strOfNums]

set_option maxRecDepth 100000 in
set_option maxHeartbeats 1600000 in
theorem rValid_any (t : Tk) (ht : t.s.length ≤ 9223372036854775807) (w : World) : Calls Tryd.prog 34 #[tkV t] w fun e w' => e = .returned (.bool (validB t)) ∧ Below w.heap.size w w' := by
  obtain ⟨k, s, n, p⟩ := t
  simp only at ht
  have hb := Lib.hid (bnew w (.cells #[.int .i64 k, .string ⟨s.toArray⟩, .int .i64 n, .int .i64 p] 35))
  unfold tkV
  by_cases h1 : k = 1
  · subst h1
    have hN := Lib.hid (rName_list s ht)
    cases hn : nameB s with
    | false =>
      have hf : Hid (validB ⟨1, s, n, p⟩ = false) := by show validB _ = _; unfold validB; rw [if_pos rfl]; simp only; rw [hn, Bool.and_false]
      have hn := Lib.hid hn
      go_enter Tryd.func34, Tryd.ntmps34
      go_wp2_with fail
      refine (hN.out _).mono ?_
      rintro e w1 ⟨rfl, rfl⟩
      rw [hn.out]
      go_wp2_with fail
      go_ret
      exact ⟨retB hf.out.symm, hb.out⟩
    | true =>
      have hf : Hid (validB ⟨1, s, n, p⟩ = (n == 0)) := by show validB _ = _; unfold validB; rw [if_pos rfl]; simp only; rw [hn, Bool.and_true]
      have hn := Lib.hid hn
      go_enter Tryd.func34, Tryd.ntmps34
      go_wp2_with fail
      refine (hN.out _).mono ?_
      rintro e w1 ⟨rfl, rfl⟩
      rw [hn.out]
      go_wp2_with fail
      go_ret
      exact ⟨retB hf.out.symm, hb.out⟩
  · by_cases h2 : k = 2
    · subst h2
      cases s with
      | nil =>
        by_cases h3 : 0 ≤ n
        · have hf : Hid (validB ⟨2, [], n, p⟩ = decide (n ≤ 1099511627776)) := by show validB _ = _; unfold validB; rw [if_neg (by simp only; omega), if_pos rfl]; simp only [decide_eq_true h3, List.isEmpty_nil, Bool.true_and]; rfl
          go_enter Tryd.func34, Tryd.ntmps34
          go_wp2_with fail
          go_ret
          exact ⟨retB hf.out.symm, hb.out⟩
        · have hf : Hid (validB ⟨2, [], n, p⟩ = false) := by show validB _ = _; unfold validB; rw [if_neg (by simp only; omega), if_pos rfl]; simp only [decide_eq_false h3, List.isEmpty_nil, Bool.true_and, Bool.false_and]
          have h3' : decide (0 ≤ n) = false := decide_eq_false h3
          go_enter Tryd.func34, Tryd.ntmps34
          go_wp2_with fail
          go_ret
          exact ⟨retB hf.out.symm, hb.out⟩
      | cons c r =>
        have hf : Hid (validB ⟨2, c :: r, n, p⟩ = false) := by show validB _ = _; unfold validB; rw [if_neg (by simp only; omega), if_pos rfl]; rfl
        have hne : (⟨(c :: r).toArray⟩ : ByteArray).toList.isEmpty = false := by rw [str_empty]; rfl
        have hne2 : (⟨(c :: r).toArray⟩ : ByteArray).toList ≠ [] := by rw [str_empty]; simp
        go_enter Tryd.func34, Tryd.ntmps34
        go_wp2_with fail
        go_ret
        exact ⟨retB hf.out.symm, hb.out⟩
    · by_cases h3 : k = 3
      · subst h3
        have hv : validB ⟨3, s, n, p⟩ = ((n == 0) && signS s) := by unfold validB; rw [if_neg (by simp only; omega), if_neg (by simp only; omega), if_pos rfl]; rfl
        have hdl := list_data s
        have hsz : (⟨s.toArray⟩ : ByteArray).size = s.length := rfl
        generalize (⟨s.toArray⟩ : ByteArray) = S at *
        by_cases hl : S.size = 1
        · have hl1 : ((S.size : Int) == 1) = true := by rw [hl]; rfl
          have h0 : 0 < S.size := by omega
          have hss : signS s = signB S[0] := by
            rw [← hdl]
            have hll : S.data.toList.length = 1 := hl
            match hd : S.data.toList, hll with
            | [c], _ =>
              have : S[0] = S.data.toList[0]'(by rw [hd]; simp) := rfl
              rw [this]
              simp [hd, signS]
          have hG := Lib.hid (rSign_any S[0])
          cases hg : signB S[0] with
          | false =>
            have hf : Hid (validB ⟨3, s, n, p⟩ = false) := by show validB _ = _; rw [hv, hss, hg, Bool.and_false]
            have hg := Lib.hid hg
            clear hl hss hv hdl hsz
            go_enter Tryd.func34, Tryd.ntmps34
            go_wp2_with fail
            refine (hG.out _).mono ?_
            rintro e w1 ⟨rfl, rfl⟩
            rw [hg.out]
            go_wp2_with fail
            go_ret
            exact ⟨retB hf.out.symm, hb.out⟩
          | true =>
            have hf : Hid (validB ⟨3, s, n, p⟩ = (n == 0)) := by show validB _ = _; rw [hv, hss, hg, Bool.and_true]
            have hg := Lib.hid hg
            clear hl hss hv hdl hsz
            go_enter Tryd.func34, Tryd.ntmps34
            go_wp2_with fail
            refine (hG.out _).mono ?_
            rintro e w1 ⟨rfl, rfl⟩
            rw [hg.out]
            go_wp2_with fail
            go_ret
            exact ⟨retB hf.out.symm, hb.out⟩
        · have hl1 : ((S.size : Int) == 1) = false := by rw [beq_eq_false_iff_ne]; omega
          have hss : signS s = false := by
            unfold signS
            split
            · rename_i c
              exact absurd hsz hl
            · rfl
          have hf : Hid (validB ⟨3, s, n, p⟩ = false) := by show validB _ = _; rw [hv, hss, Bool.and_false]
          clear hl hss hv hdl hsz
          go_enter Tryd.func34, Tryd.ntmps34
          go_wp2_with fail
          go_ret
          exact ⟨retB hf.out.symm, hb.out⟩
      · have hf : Hid (validB ⟨k, s, n, p⟩ = false) := by show validB _ = _; unfold validB; rw [if_neg h1, if_neg h2, if_neg h3]
        have h1' : (k == 1) = false := by simpa using h1
        have h2' : (k == 2) = false := by simpa using h2
        have h3' : (k == 3) = false := by simpa using h3
        clear h1 h2 h3
        go_enter Tryd.func34, Tryd.ntmps34
        go_wp2_with fail
        go_ret
        exact ⟨retB hf.out.symm, hb.out⟩

/-- The last digit of a number. -/
def dgB (u : Nat) : UInt8 := UInt8.ofNat (48 + u % 10)
theorem str_cons (c : UInt8) (l : List UInt8) : (⟨#[c]⟩ : ByteArray) ++ (⟨l.toArray⟩ : ByteArray) = ⟨(c :: l).toArray⟩ := by
  apply ByteArray.ext
  simp
theorem dec_conv (u : Nat) (z : Int) (hz : z = 48 + (u : Int) % 10) (w : World) : (convert 39 9 (.slice (some ⟨w.heap.size, 0, none⟩) 1 1)).run Tryd.prog (w.alloc (.cells #[.int .u8 z] 5)) = .ok (.string ⟨#[dgB u]⟩) (w.alloc (.cells #[.int .u8 z] 5)) := by
  have h := one_conv w (dgB u)
  rw [show (dgB u).toNat = 48 + u % 10 from (dig_byte (k := u % 10) (by omega)).2] at h
  have : ((48 + u % 10 : Nat) : Int) = z := by rw [hz]; omega
  rw [this] at h
  exact h
theorem dec_len (N : Nat) : ∀ u, u ≤ N → (Lib.decDigits u).length ≤ u + 1 := by
  induction N with
  | zero =>
    intro u hu
    rw [Lib.decDigits, dif_pos (by omega)]
    simp
  | succ N ih =>
    intro u hu
    rw [Lib.decDigits]
    split
    · simp
    · have := ih (u / 10) (by omega)
      simp
      omega
set_option maxRecDepth 100000 in
set_option maxHeartbeats 1600000 in
theorem rDecimal_any (u0 : Nat) (hu : u0 ≤ 1099511627776) (w : World) : Calls Tryd.prog 35 #[.int .i64 u0] w fun e w' => e = .returned (.string ⟨(Lib.decDigits u0).toArray⟩) ∧ Below w.heap.size w w' := by
  have hcv := fun W => dec_conv u0 (48 + (u0 : Int) % 10) rfl W
  go_enter Tryd.func35, Tryd.ntmps35
  go_wp2_with fail
  clear hcv
  go_loopw [0, 3] (fun a s wr => ∃ (u : Nat) (rest : List UInt8), u ≤ 9223372036854775807 ∧ a = .int .i64 u ∧ s = .string ⟨(dgB u :: rest).toArray⟩ ∧ Lib.decDigits u0 = Lib.decDigits u ++ rest ∧ Below w.heap.size w wr) (fun a _ _ => (intOf a).toNat)
  case atStart => exact ⟨u0, [], by omega, rfl, rfl, by simp, bnew w _⟩
  case round =>
    obtain ⟨u, rest, hu1, rfl, rfl, he, hb⟩ := hrel
    have hrl : rest.length ≤ 1099511627777 := by
      have h1 := congrArg List.length he
      have h2 := dec_len u0 u0 (Nat.le_refl _)
      rw [List.length_append] at h1
      omega
    have heH := Lib.hid he
    clear he
    by_cases h10 : 10 ≤ u
    · have hd : Hid (Lib.decDigits u = Lib.decDigits (u / 10) ++ [dgB u]) := by show Lib.decDigits u = _; rw [Lib.decDigits, dif_neg (by omega)]; rfl
      have hcv := fun W => dec_conv (u / 10) (48 + (u : Int) / 10 % 10) (by omega) W
      have hz := hb.size
      go_wp2_with fail
      go_roundw
      case rel => exact ⟨u / 10, dgB u :: rest, by omega, by go_num, by rw [str_cons], by rw [heH.out, hd.out]; simp, hb.alloc hz _⟩
      case measure => simp [intOf]; omega
    · have hd : Hid (Lib.decDigits u = [UInt8.ofNat (48 + u)]) := by show Lib.decDigits u = _; rw [Lib.decDigits, dif_pos (by omega)]
      have hm : Hid (dgB u = UInt8.ofNat (48 + u)) := by show dgB u = _; unfold dgB; rw [Nat.mod_eq_of_lt (by omega)]
      go_wp2_with fail
      go_ret
      exact ⟨retStr (by rw [heH.out, hd.out, hm.out]; rfl), hb⟩

theorem textL_snoc (l : List Tk) (t : Tk) (h : l ≠ []) : textL (l ++ [t]) = textL l ++ 32 :: spell t := by
  induction l with
  | nil => exact absurd rfl h
  | cons a r ih =>
    cases r with
    | nil => rw [List.cons_append, List.nil_append, join_cons, join_one, join_one]
    | cons b r' => rw [List.cons_append, List.cons_append, join_cons, ← List.cons_append, ih (by simp), join_cons]; simp
theorem textL_take {l : List Tk} {k : Nat} (h : k < l.length) (h0 : 0 < k) : textL (l.take (k + 1)) = textL (l.take k) ++ 32 :: spell l[k] := by
  rw [List.take_succ_eq_append_getElem h]
  exact textL_snoc _ _ (fun e => by
    have := congrArg List.length e
    rw [List.length_take, List.length_nil] at this
    omega)
theorem textL_first {l : List Tk} (h : 0 < l.length) : textL (l.take 1) = spell l[0] := by
  have : l.take 1 = [l[0]] := by
    cases l with
    | nil => simp at h
    | cons a r => simp
  rw [this, join_one]
end Go.Proofs.YtndfchnmajfmiaaDoor
