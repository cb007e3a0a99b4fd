/- LexBack: the law. -/
import Derived.Test.YtndfchnmajfmiaaDoorWr
import Derived.Test.YtndfchnmajfmiaaDoorPb
import Derived.Lib.ItoaLen
namespace Go.Proofs.YtndfchnmajfmiaaDoor
open Go.RowKit

/-- What Few says. -/
def FewPost (l : List Tk) (w : World) (e : Ending) (w' : World) : Prop := ∃ b, e = .returned (.bool b) ∧ (b = true → l.length ≤ 200) ∧ w = w'
set_option maxRecDepth 100000 in
set_option maxHeartbeats 1600000 in
/-- Few: where it says yes, there are few tokens. -/
theorem Few_any (l : List Tk) (hl : l.length ≤ 9223372036854775807) (w : World) (A : Option Addr) (c : Nat) (hr : TR w w.heap.size A l) :
    Calls Tryd.prog 15 #[.slice A l.length c] w (FewPost l w) := by
  have hrH := Lib.hid hr
  clear hr
  go_enter Tryd.func15, Tryd.ntmps15
  go_wp2_with fail
  go_loop [3, 4] (fun z i => ∃ (k : Nat) (n : Int), k ≤ l.length ∧ i = .int .i64 k ∧ z = .int .i64 n) (fun _ i => l.length - (intOf i).toNat)
  case atStart => exact ⟨0, 0, Nat.zero_le _, rfl, rfl⟩
  case round =>
    obtain ⟨k, n, hk, rfl, rfl⟩ := hrel
    by_cases hlt : k < l.length
    · obtain ⟨b, o, rfl, hb, hc⟩ := hrH.out (by omega)
      obtain ⟨c0, c1, c2, c3⟩ := hc k hlt
      clear hc
      go_wp2_with fail
      go_round
      case rel => exact ⟨k + 1, _, by omega, by go_num, rfl⟩
      case measure => simp [intOf]; omega
    · by_cases h2 : l.length ≤ 200
      · have h2' : (l.length : Int) ≤ 200 := by omega
        go_wp2_with fail
        go_ret
        exact ⟨_, rfl, fun _ => h2, rfl⟩
      · have h2' : decide ((l.length : Int) ≤ 200) = false := by simp; omega
        go_wp2_with fail
        go_ret
        exact ⟨_, rfl, (fun h => by cases h), rfl⟩

/-- Valid tokens are short. -/
theorem spell_short {t : Tk} (h : validB t = true) : (spell t).length ≤ 32 := by
  obtain ⟨k, s, n, p⟩ := t
  unfold validB at h
  simp only at h
  split at h
  · rename_i hk
    subst hk
    rw [Bool.and_eq_true] at h
    have h2 := h.2
    show s.length ≤ 32
    cases s with
    | nil => simp
    | cons c r =>
      simp only [nameB, Bool.and_eq_true, decide_eq_true_eq] at h2
      have := h2.2.1
      simp; omega
  · split at h
    · rename_i hk
      subst hk
      simp only [Bool.and_eq_true, decide_eq_true_eq] at h
      have h1 := h.2.2
      unfold two40 at h1
      have := Lib.itoa_length_le n (by omega) (by omega)
      show (spell ⟨2, s, n, p⟩).length ≤ 32
      unfold spell
      rw [if_pos rfl]
      simp only
      omega
    · split at h
      · rename_i hk
        subst hk
        rw [Bool.and_eq_true] at h
        have h2 := h.2
        match s, h2 with
        | [c], _ => show ([c] : List UInt8).length ≤ 32; simp
      · cases h
theorem text_short (l : List Tk) (h : l.all validB = true) : (textL l).length ≤ l.length * 33 := by
  have tl : ∀ (t : Tk) (m : List Tk), (textL (t :: m)).length ≤ (spell t).length + 1 + (textL m).length := fun t m => by
    cases m with
    | nil => rw [join_one]; omega
    | cons u r => rw [join_cons, List.length_append, List.length_cons]; omega
  induction l with
  | nil => exact Nat.zero_le _
  | cons t r ih =>
    rw [List.all_cons, Bool.and_eq_true] at h
    have := ih h.2
    have := tl t r
    have := spell_short h.1
    rw [List.length_cons, Nat.succ_mul]
    omega
/-- Lex of a text that is written as a list. -/
theorem Lex_okL (l : List UInt8) (hl : l.length ≤ 65536) {m : List Tk} (h : lexL l = .ok m) (w : World) (hK : KW w) :
    Calls Tryd.prog 12 #[.string ⟨l.toArray⟩] w fun e w' => ∃ A c, e = .returned (.tuple #[.slice A m.length c, .int .i64 0, .int .i64 0]) ∧ m.length ≤ c ∧ TR w' w'.heap.size A m ∧ Below w.heap.size w w' := Lex_lit l hl h w hK
theorem valid_ok {t : Tk} (h : validB t = true) : OkT t := by
  obtain ⟨k, s, n, p⟩ := t
  have h32 := spell_short h
  unfold validB at h
  simp only at h
  split at h
  · rename_i hk
    subst hk
    rw [Bool.and_eq_true, beq_iff_eq] at h
    have h1 := h.1
    subst h1
    exact ⟨by show s.length ≤ _; have : (spell ⟨1, s, 0, p⟩).length = s.length := rfl; omega, by show _ ≤ (0 : Int) ∧ (0 : Int) ≤ _; omega⟩
  · split at h
    · simp only [Bool.and_eq_true, decide_eq_true_eq, List.isEmpty_iff] at h
      obtain ⟨rfl, h1, h2⟩ := h
      unfold two40 at h2
      exact ⟨by simp, by show _ ≤ n ∧ n ≤ _; omega⟩
    · split at h
      · rename_i hk
        subst hk
        rw [Bool.and_eq_true, beq_iff_eq] at h
        have h1 := h.1
        subst h1
        exact ⟨by show s.length ≤ _; have : (spell ⟨3, s, 0, p⟩).length = s.length := rfl; omega, by show _ ≤ (0 : Int) ∧ (0 : Int) ≤ _; omega⟩
      · cases h
end Go.Proofs.YtndfchnmajfmiaaDoor
