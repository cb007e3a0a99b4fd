/- LexWrong: the law. -/
import Derived.Test.YtndfchnmajfmiaaDoorSa
import Derived.Test.YtndfchnmajfmiaaDoorPl
namespace Go.Proofs.YtndfchnmajfmiaaDoor
open Go.RowKit

/-- Lex of a source: its tokens. -/
theorem Lex_ok (s : ByteArray) (hl : s.size ≤ 65536) {m : List Tk} (h : lexL s.data.toList = .ok m) (w : World) (hK : KW w) :
    Calls Tryd.prog 12 #[.string s] w fun e w' => ∃ A c, e = .returned (.tuple #[.slice A m.length c, .int .i64 0, .int .i64 0]) ∧ m.length ≤ c ∧ TR w' w'.heap.size A m ∧ Below w.heap.size w w' := by
  refine (Lex_any s hl w hK).mono fun e w' he => ?_
  unfold LexPost at he
  rw [h] at he
  obtain ⟨v, rfl, hto, hb⟩ := he
  obtain ⟨A, c, rfl, hc, hr⟩ := hto.form
  exact ⟨A, c, rfl, hc, hr, hb⟩
/-- Lex of a source: its error. -/
theorem Lex_er (s : ByteArray) (hl : s.size ≤ 65536) {p : Nat} (h : lexL s.data.toList = .error p) (w : World) (hK : KW w) :
    Calls Tryd.prog 12 #[.string s] w fun e w' => e = .returned (.tuple #[.slice none 0 0, .int .i64 (p : Nat), .int .i64 30]) ∧ Below w.heap.size w w' := by
  refine (Lex_any s hl w hK).mono fun e w' he => ?_
  unfold LexPost at he
  rw [h] at he
  exact he
theorem ba_append (a b : ByteArray) : (a ++ b).data.toList = a.data.toList ++ b.data.toList := by simp
theorem ba_take (a : ByteArray) (n : Nat) : (a.extract 0 n).data.toList = a.data.toList.take n := by rw [Lib.extract_data]; rfl

set_option maxRecDepth 100000 in
set_option maxHeartbeats 3200000 in
theorem wrong_law (s m : ByteArray) (hs : s.size ≤ 140737488355328) (hm : m.size ≤ 140737488355328) (w : World) (hK : KW w) : Calls Tryd.prog 9 #[.string s, .string m] w fun e w' => e = .returned (.bool true) ∧ Below w.heap.size w w' := by
  have hKH := Lib.hid hK
  clear hK
  have hsz : Hid (s.data.toList.length = s.size) := rfl
  have hmz : Hid (m.data.toList.length = m.size) := rfl
  by_cases hlen : s.size + m.size ≤ 3000
  · have hlen' : ¬ (3000 : Int) < (s.size : Int) + m.size := by omega
    cases hx : lexL s.data.toList with
    | ok l =>
      have hL := Lib.hid (fun W (hW : KW W) => Lex_ok s (by omega) hx W hW)
      clear hx
      go_enter Tryd.func9, Tryd.ntmps9
      go_wp2_with fail
      refine (sane_any _ hKH.out).mono ?_
      rintro e w1 ⟨rfl, hB⟩
      go_wp2_with fail
      refine (hL.out _ (hKH.out.step hB)).mono ?_
      rintro e w2 ⟨A, c, rfl, -, -, hb⟩
      have hB := hB.trans (hb.mono hB.size)
      go_wp2_with fail
      go_ret
      exact ⟨rfl, hB⟩
    | error p =>
      obtain ⟨h1, ⟨k, h2⟩, h3, h4⟩ := lexL_error hx
      have h3 := h3 32 m.data.toList (by decide) (by decide)
      have hps : p < s.size := h1
      have hps' : (p : Int) < s.size := by omega
      have hL := Lib.hid (fun W (hW : KW W) => Lex_er s (by omega) hx W hW)
      have e2 : lexL (s.extract 0 p).data.toList = .ok k := by rw [ba_take]; exact h2
      have e4 : lexL (s.extract p s.size).data.toList = .error 0 := by rw [Lib.extract_to_end]; exact h4
      have e3 : lexL (s ++ ⟨#[32]⟩ ++ m).data.toList = .error p := by rw [ba_append, ba_append, List.append_assoc]; exact h3
      have z2 : (s.extract 0 p).size ≤ 65536 := by have := congrArg List.length (ba_take s p); rw [List.length_take] at this; have e : (s.extract 0 p).data.toList.length = (s.extract 0 p).size := rfl; omega
      have z4 : (s.extract p s.size).size ≤ 65536 := by have := congrArg List.length (Lib.extract_to_end s p); rw [List.length_drop] at this; have e : (s.extract p s.size).data.toList.length = (s.extract p s.size).size := rfl; have := hsz.out; omega
      have z3 : (s ++ ⟨#[32]⟩ ++ m).size ≤ 65536 := by have e : (s ++ ⟨#[32]⟩ ++ m).data.toList.length = (s ++ ⟨#[32]⟩ ++ m).size := rfl; rw [← e, ba_append, ba_append, List.length_append, List.length_append]; have := hsz.out; have := hmz.out; simp only [List.length_cons, List.length_nil]; omega
      have L2 := Lib.hid (fun W (hW : KW W) => Lex_ok _ z2 e2 W hW)
      have L3 := Lib.hid (fun W (hW : KW W) => Lex_er _ z3 e3 W hW)
      have L4 := Lib.hid (fun W (hW : KW W) => Lex_er _ z4 e4 W hW)
      clear hx h1 h2 h3 h4 e2 e3 e4 z2 z3 z4
      go_enter Tryd.func9, Tryd.ntmps9
      go_wp2_with fail
      refine (sane_any _ hKH.out).mono ?_
      rintro e w1 ⟨rfl, hB⟩
      go_wp2_with fail
      refine (hL.out _ (hKH.out.step hB)).mono ?_
      rintro e w2 ⟨rfl, hb⟩
      have hB := hB.trans (hb.mono hB.size)
      go_wp2_with fail
      refine (L2.out _ (hKH.out.step hB)).mono ?_
      rintro e w3 ⟨A, c, rfl, -, -, hb⟩
      have hB := hB.trans (hb.mono hB.size)
      go_wp2_with fail
      refine (L3.out _ (hKH.out.step hB)).mono ?_
      rintro e w4 ⟨rfl, hb⟩
      have hB := hB.trans (hb.mono hB.size)
      go_wp2_with fail
      refine (L4.out _ (hKH.out.step hB)).mono ?_
      rintro e w5 ⟨rfl, hb⟩
      have hB := hB.trans (hb.mono hB.size)
      go_wp2_with fail
      go_ret
      exact ⟨rfl, hB⟩
  · have hlen' : (3000 : Int) < (s.size : Int) + m.size := by omega
    go_enter Tryd.func9, Tryd.ntmps9
    go_wp2_with fail
    refine (sane_any _ hKH.out).mono ?_
    rintro e w1 ⟨rfl, hB⟩
    go_wp2_with fail
    go_ret
    exact ⟨rfl, hB⟩
end Go.Proofs.YtndfchnmajfmiaaDoor
