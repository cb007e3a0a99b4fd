/- What a piece of the source means: names, numbers, signs; the panics. -/
import Derived.Test.YtndfchnmajfmiaaDoorNc
import Derived.WalkLawsBesides
import Derived.Lib.AtoiErrMem
namespace Go.Proofs.YtndfchnmajfmiaaDoor
open Go.RowKit

def tkV (t : Tk) : Value := .agg #[.int .i64 t.k, .string ⟨t.s.toArray⟩, .int .i64 t.n, .int .i64 t.p]
def noTk : Value := .agg #[.int .i64 0, .string ⟨#[]⟩, .int .i64 0, .int .i64 0]
def boomAt (p : Nat) : List PanicEntry := [{ v := .iface 3 (.int .i64 p), recovered := false }]

/-- What a token function gives: a panic with the place, nothing, or a token. -/
def TkPost (r : Option (Option Tk)) (p : Nat) (w : World) (e : Ending) (w' : World) : Prop :=
  match r with
  | none => e = .panicked (boomAt p) ∧ Below w.heap.size w w'
  | some none => e = .returned noTk ∧ Below w.heap.size w w'
  | some (some t) => e = .returned (tkV t) ∧ Below w.heap.size w w'

theorem digits_parse (l : List UInt8) : ∀ acc, acc < 18446744073709551616 → (∀ c ∈ l, digitB c = true) →
    (Lib.parseUint10 acc l = .ok (val acc l) ∧ val acc l < 18446744073709551616) ∨ (Lib.parseUint10 acc l = .range ∧ 18446744073709551616 ≤ val acc l) := by
  induction l with
  | nil => intro acc ha _; exact .inl ⟨rfl, ha⟩
  | cons c r ih =>
    intro acc ha hd
    have hc := hd c (by simp)
    have h1 : 48 ≤ c.toNat ∧ c.toNat ≤ 57 := by
      unfold digitB at hc
      simp only [Bool.and_eq_true, decide_eq_true_eq, UInt8.le_iff_toNat_le] at hc
      exact hc
    have hv := val_le r (dg acc c)
    rw [Lib.parseUint10, if_pos h1, val_cons]
    have he : acc * 10 + (c.toNat - 48) = dg acc c := by unfold dg; omega
    rw [he]
    have hdg : dg acc c = 10 * acc + (c.toNat - 48) := rfl
    split
    · right; exact ⟨rfl, by omega⟩
    · split
      · right; exact ⟨rfl, by omega⟩
      · exact ih (dg acc c) (by omega) fun x hx => hd x (by simp [hx])
theorem digits_atoi {l : List UInt8} (hne : l ≠ []) (hd : ∀ c ∈ l, digitB c = true) :
    (Lib.atoiAll l = .ok (num l : Nat) ∧ num l ≤ 9223372036854775807) ∨ (Lib.atoiAll l = .range ∧ 9223372036854775808 ≤ num l) := by
  cases l with
  | nil => exact absurd rfl hne
  | cons c r =>
    have hc := hd c (by simp)
    unfold digitB at hc
    simp only [Bool.and_eq_true, decide_eq_true_eq, UInt8.le_iff_toNat_le] at hc
    have h48 : 48 ≤ c.toNat := hc.1
    have n1 : ¬ c.toNat = 45 := by omega
    have n2 : ¬ c.toNat = 43 := by omega
    have hp := digits_parse (c :: r) 0 (by omega) hd
    unfold Lib.atoiAll
    simp only [n2, n1, or_self, if_false, Lib.parseMag, reduceCtorEq, not_false_eq_true, true_and, false_and]
    unfold num
    rcases hp with ⟨h1, h2⟩ | ⟨h1, h2⟩
    · rw [h1]
      simp only
      by_cases h3 : 9223372036854775808 ≤ val 0 (c :: r)
      · right; exact ⟨by rw [if_pos h3], h3⟩
      · left; exact ⟨by rw [if_neg h3], by omega⟩
    · rw [h1]
      right
      exact ⟨rfl, by omega⟩

/-- What digits mean. -/
def numTk (l : List UInt8) (p : Nat) : Option (Option Tk) := if num l ≤ two40 ∧ (l.length = 1 ∨ l.head? ≠ some 48) then some (some ⟨2, [], num l, p⟩) else none
def nameTk (l : List UInt8) (p : Nat) : Option (Option Tk) := if nameB l = true then some (some ⟨1, l, 0, p⟩) else none

set_option maxHeartbeats 400000 in
theorem wrong_any (s : ByteArray) (p : Nat) (w : World) : Calls Tryd.prog 49 #[.string s, .int .i64 p] w (TkPost none p w) := by
  go_enter Tryd.func49, Tryd.ntmps49
  go_wp2_with fail
  exact ⟨rfl, rfl, (Below.refl _ _).alloc (Nat.le_refl _) _⟩
set_option maxHeartbeats 400000 in
theorem nothing_any (s : ByteArray) (p : Nat) (w : World) : Calls Tryd.prog 50 #[.string s, .int .i64 p] w (TkPost (some none) p w) := by
  go_enter Tryd.func50, Tryd.ntmps50
  go_wp2_with fail
  exact bodyPost_ret (v := noTk) (by simp [results, Tryd.results50, go_sem, noTk]) rfl ⟨rfl, (Below.refl _ _).alloc (Nat.le_refl _) _⟩
set_option maxHeartbeats 400000 in
theorem sign_any (s : ByteArray) (p : Nat) (w : World) : Calls Tryd.prog 54 #[.string s, .int .i64 p] w (TkPost (some (some ⟨3, s.data.toList, 0, p⟩)) p w) := by
  have hd := Lib.hid (data_list s)
  go_enter Tryd.func54, Tryd.ntmps54
  go_wp2_with fail
  exact bodyPost_ret (v := tkV ⟨3, s.data.toList, 0, p⟩) (by simp only [tkV]; simp [results, Tryd.results54, go_sem]) rfl ⟨rfl, (Below.refl _ _).alloc (Nat.le_refl _) _⟩
set_option maxHeartbeats 400000 in
theorem name_any (s : ByteArray) (hs : s.size ≤ 9223372036854775807) (p : Nat) (w : World) (hK : KW w) : Calls Tryd.prog 51 #[.string s, .int .i64 p] w (TkPost (nameTk s.data.toList p) p w) := by
  have hd := Lib.hid (data_list s)
  have hn := Lib.hid (fun w hK => Name_any s hs w hK)
  have hK' := Lib.hid hK
  clear hK
  cases hb : nameB s.data.toList with
  | true =>
    have hf : Hid (nameTk s.data.toList p = some (some ⟨1, s.data.toList, 0, p⟩)) := by show nameTk _ _ = _; unfold nameTk; rw [if_pos hb]
    have hb' := Lib.hid hb
    clear hb
    go_enter Tryd.func51, Tryd.ntmps51
    go_wp2_with fail
    refine (hn.out _ (hK'.out.al _)).mono ?_
    rintro e w1 ⟨rfl, rfl⟩
    rw [hb'.out]
    go_wp2_with fail
    rw [hf.out]
    exact bodyPost_ret (v := tkV ⟨1, s.data.toList, 0, p⟩) (by simp only [tkV]; simp [results, Tryd.results51, go_sem]) rfl ⟨rfl, (Below.refl _ _).alloc (Nat.le_refl _) _⟩
  | false =>
    have hf : Hid (nameTk s.data.toList p = none) := by show nameTk _ _ = _; unfold nameTk; rw [if_neg (by rw [hb]; decide)]
    have hb' := Lib.hid hb
    clear hb
    go_enter Tryd.func51, Tryd.ntmps51
    go_wp2_with fail
    refine (hn.out _ (hK'.out.al _)).mono ?_
    rintro e w1 ⟨rfl, rfl⟩
    rw [hb'.out]
    go_wp2_with fail
    rw [hf.out]
    exact ⟨rfl, rfl, (Below.refl _ _).alloc (Nat.le_refl _) _⟩
set_option maxHeartbeats 400000 in
theorem signOrComment_any (s : ByteArray) (hs : s.size ≤ 9223372036854775807) (p : Nat) (w : World) : Calls Tryd.prog 56 #[.string s, .int .i64 p] w (TkPost (if 1 < s.size then some none else some (some ⟨3, s.data.toList, 0, p⟩)) p w) := by
  have hd := Lib.hid (data_list s)
  by_cases h1 : 1 < s.size
  · rw [if_pos h1]
    go_enter Tryd.func56, Tryd.ntmps56
    go_wp2_with fail
    refine (nothing_any s p _).mono ?_
    rintro e w1 ⟨rfl, hb⟩
    have hz := hb.size
    simp only [World.size_alloc] at hz hb
    have hc := unbox hb
    obtain ⟨c, f⟩ := bcell hb
    unfold noTk
    go_wp2_with fail
    exact bodyPost_ret (v := noTk) (by simp [results, Tryd.results56, go_sem, noTk, c]) rfl ⟨rfl, (((hc.setCell (Nat.le_refl _) _).setCell (Nat.le_refl _) _).setCell (Nat.le_refl _) _).setCell (Nat.le_refl _) _⟩
  · rw [if_neg h1]
    have h1' : ¬ (1 : Int) < s.size := by omega
    go_enter Tryd.func56, Tryd.ntmps56
    go_wp2_with fail
    refine (sign_any s p _).mono ?_
    rintro e w1 ⟨rfl, hb⟩
    have hz := hb.size
    simp only [World.size_alloc] at hz hb
    have hc := unbox hb
    obtain ⟨c, f⟩ := bcell hb
    unfold tkV
    go_wp2_with fail
    exact bodyPost_ret (v := tkV ⟨3, s.data.toList, 0, p⟩) (by simp [results, Tryd.results56, go_sem, tkV, c]) rfl ⟨rfl, (((hc.setCell (Nat.le_refl _) _).setCell (Nat.le_refl _) _).setCell (Nat.le_refl _) _).setCell (Nat.le_refl _) _⟩

theorem size_ne {s : ByteArray} (h0 : 0 < s.size) : s.data.toList ≠ [] := fun e => by have : s.data.toList.length = s.size := rfl; rw [e] at this; simp at this; omega
theorem head_at {s : ByteArray} (h0 : 0 < s.size) : s.data.toList.head? = some s[0] := by
  have h := List.head?_eq_getElem? (l := s.data.toList)
  rw [h, List.getElem?_eq_getElem (show 0 < s.data.toList.length from h0)]
  rfl

set_option maxRecDepth 100000 in
set_option maxHeartbeats 800000 in
theorem number_any (s : ByteArray) (hs : s.size ≤ 1000000) (h0 : 0 < s.size) (hdig : ∀ c ∈ s.data.toList, digitB c = true) (p : Nat) (w : World) (hK : KW w) : Calls Tryd.prog 53 #[.string s, .int .i64 p] w (TkPost (numTk s.data.toList p) p w) := by
  have hne := size_ne h0
  have hlen : Hid (s.data.toList.length = s.size) := rfl
  obtain ⟨te, pe, hrng⟩ := hK.rng
  have hhead := head_at h0
  rcases digits_atoi hne hdig with ⟨h1, h2⟩ | ⟨h1, h2⟩
  · have hA : Hid (∀ w, Calls Tryd.prog 61 #[.string s] w fun e w' => e = .returned (.tuple #[.int .i64 (num s.data.toList : Nat), .nilIface]) ∧ Below w.heap.size w w') := fun w => (Tryd.strconv_Atoi_ok s (by omega) _ h1 w).mono fun e w' ⟨he, hw⟩ => ⟨he, by
      rcases hw with rfl | ⟨t, rfl⟩
      · exact Below.refl _ _
      · exact Lib.bytesWorld_below _ _ _⟩
    have hnum : Hid (numTk s.data.toList p = if num s.data.toList ≤ two40 ∧ (s.size = 1 ∨ s[0] ≠ 48) then some (some ⟨2, [], num s.data.toList, p⟩) else none) := by
      show numTk _ _ = _
      unfold numTk
      rw [hlen.out, hhead]
      simp
    clear h1 hne hdig hhead hK hrng
    generalize num s.data.toList = m at *
    by_cases h3 : m ≤ two40
    · have h3' : ¬ (1099511627776 : Int) < m := by unfold two40 at h3; omega
      by_cases h4 : s.size = 1
      · have hf : Hid (numTk s.data.toList p = some (some ⟨2, [], m, p⟩)) := by show numTk _ _ = _; rw [hnum.out, if_pos ⟨h3, .inl h4⟩]
        have h4' : ¬ (1 : Int) < s.size := by omega
        clear hnum h3 h4
        go_enter Tryd.func53, Tryd.ntmps53
        go_wp2_with fail
        refine (hA.out _).mono ?_
        rintro e w1 ⟨rfl, hb⟩
        simp only [World.size_alloc] at hb
        have hc := unbox hb
        obtain ⟨c, f⟩ := bcell hb
        have hz := hb.size
        simp only [World.size_alloc] at hz
        clear hb
        go_wp2_with fail
        rw [hf.out]
        exact bodyPost_ret (v := tkV ⟨2, [], m, p⟩) (by simp [results, Tryd.results53, go_sem, tkV, c]) rfl ⟨rfl, (((hc.setCell (Nat.le_refl _) _).setCell (Nat.le_refl _) _).setCell (Nat.le_refl _) _).setCell (Nat.le_refl _) _⟩
      · have h4' : (1 : Int) < s.size := by omega
        cases h5 : (((s[0].toNat : Int)) == 48) with
        | true =>
          have h6 : s[0] = 48 := by rw [beq_iff_eq] at h5; exact UInt8.toNat_inj.1 (by show s[0].toNat = 48; omega)
          have hf : Hid (numTk s.data.toList p = none) := by show numTk _ _ = _; rw [hnum.out, if_neg (fun h => h.2.elim h4 (fun h' => h' h6))]
          clear hnum h3 h4 h6
          go_enter Tryd.func53, Tryd.ntmps53
          go_wp2_with fail
          refine (hA.out _).mono ?_
          rintro e w1 ⟨rfl, hb⟩
          simp only [World.size_alloc] at hb
          have hc := unbox hb
          obtain ⟨c, f⟩ := bcell hb
          have hz := hb.size
          simp only [World.size_alloc] at hz
          clear hb
          go_wp2_with fail
          rw [hf.out]
          exact ⟨rfl, rfl, hc⟩
        | false =>
          have h6 : s[0] ≠ 48 := by rintro h6; rw [h6] at h5; exact absurd h5 (by decide)
          have hf : Hid (numTk s.data.toList p = some (some ⟨2, [], m, p⟩)) := by show numTk _ _ = _; rw [hnum.out, if_pos ⟨h3, .inr h6⟩]
          clear hnum h3 h4 h6
          go_enter Tryd.func53, Tryd.ntmps53
          go_wp2_with fail
          refine (hA.out _).mono ?_
          rintro e w1 ⟨rfl, hb⟩
          simp only [World.size_alloc] at hb
          have hc := unbox hb
          obtain ⟨c, f⟩ := bcell hb
          have hz := hb.size
          simp only [World.size_alloc] at hz
          clear hb
          go_wp2_with fail
          rw [hf.out]
          exact bodyPost_ret (v := tkV ⟨2, [], m, p⟩) (by simp [results, Tryd.results53, go_sem, tkV, c]) rfl ⟨rfl, (((hc.setCell (Nat.le_refl _) _).setCell (Nat.le_refl _) _).setCell (Nat.le_refl _) _).setCell (Nat.le_refl _) _⟩
    · have h3' : (1099511627776 : Int) < m := by unfold two40 at h3; omega
      have hf : Hid (numTk s.data.toList p = none) := by show numTk _ _ = _; rw [hnum.out, if_neg (fun h => h3 h.1)]
      clear hnum h3
      go_enter Tryd.func53, Tryd.ntmps53
      go_wp2_with fail
      refine (hA.out _).mono ?_
      rintro e w1 ⟨rfl, hb⟩
      simp only [World.size_alloc] at hb
      have hc := unbox hb
      obtain ⟨c, f⟩ := bcell hb
      have hz := hb.size
      simp only [World.size_alloc] at hz
      clear hb
      go_wp2_with fail
      rw [hf.out]
      exact ⟨rfl, rfl, hc⟩
  · have hA : Hid (∀ w, w.cell? ⟨4, 0, none⟩ = some (.iface te pe) → Calls Tryd.prog 61 #[.string s] w fun e w' => ∃ a b, e = .returned (.tuple #[.int .i64 a, .iface 84 b]) ∧ Below w.heap.size w w') := fun w hw => (Tryd.strconv_Atoi_range s (by omega) h1 _ w hw (.inr ⟨te, pe, rfl⟩)).mono fun e w' ⟨N, he, _, _, hb⟩ => ⟨_, _, he, hb⟩
    have hf : Hid (numTk s.data.toList p = none) := by show numTk _ _ = _; unfold numTk; rw [if_neg]; rintro ⟨h, -⟩; unfold two40 at h; omega
    have hr' : Hid (∀ o : Obj, (w.alloc o).cell? ⟨4, 0, none⟩ = some (.iface te pe)) := fun o => (World.cell?_alloc_lt w o ⟨_, 0, none⟩ (World.block_lt_of_cell? w ⟨_, 0, none⟩ hrng)).trans hrng
    clear h1 h2 hne hdig hhead hK hrng
    go_enter Tryd.func53, Tryd.ntmps53
    go_wp2_with fail
    refine (hA.out _ (hr'.out _)).mono ?_
    rintro e w1 ⟨a, b, rfl, hb⟩
    simp only [World.size_alloc] at hb
    have hc := unbox hb
    obtain ⟨c, f⟩ := bcell hb
    clear hb
    go_wp2_with fail
    rw [hf.out]
    exact ⟨rfl, rfl, hc⟩
end Go.Proofs.YtndfchnmajfmiaaDoor
