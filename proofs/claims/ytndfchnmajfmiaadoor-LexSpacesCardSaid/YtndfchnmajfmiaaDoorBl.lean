/- LexBack: the law, walked. -/
import Derived.Test.YtndfchnmajfmiaaDoorBk
namespace Go.Proofs.YtndfchnmajfmiaaDoor
open Go.RowKit

set_option maxRecDepth 100000 in
set_option maxHeartbeats 6400000 in
theorem back_law (l : List Tk) (hl : l.length ≤ 9223372036854775807) (hok : ∀ t ∈ l, OkT t) (s : ByteArray) (hs : s.size ≤ 140737488355328) (w : World) (hK : KW w) (A : Option Addr) (c : Nat) (hr : TR w w.heap.size A l) :
    Calls Tryd.prog 5 #[.slice A l.length c, .string s] w fun e w' => e = .returned (.bool true) ∧ Below w.heap.size w w' := by
  have hKH := Lib.hid hK
  have hokH := Lib.hid hok
  have hrH := Lib.hid hr
  clear hK hok hr
  go_enter Tryd.func5, Tryd.ntmps5
  go_wp2_with fail
  refine (sane_any _ hKH.out).mono ?_
  rintro e w1 ⟨rfl, hB⟩
  have rl := Lib.hid (hrH.out.step hB)
  go_wp2_with fail
  refine (Few_any l hl _ _ _ rl.out).mono ?_
  rintro e w2 ⟨b, rfl, hf, rfl⟩
  cases b with
  | false =>
    clear hf
    go_wp2_with fail
    go_ret
    exact ⟨rfl, hB⟩
  | true =>
    have hl2 := hf rfl
    clear hf
    by_cases hlen : s.size ≤ 3000
    · have hlen' : ¬ (3000 : Int) < s.size := by omega
      cases hv : l.all validB with
      | true =>
        have hE : Hid (textE l = (textL l, 0)) := by show textE l = _; unfold textE; rw [hv]; rfl
        have hts := text_short l hv
        have hT := Lib.hid (Text_any l (by omega) hokH.out (fun _ => by omega))
        obtain ⟨m, hm, hsm⟩ := lexL_text hv
        have hLm := Lib.hid (fun W (hW : KW W) => Lex_okL (textL l) (by omega) hm W hW)
        have hml : m.length ≤ 9223372036854775807 := by rw [← sameL_length hsm]; omega
        have hsmH := Lib.hid hsm
        clear hv hts hm hsm
        go_wp2_with fail
        refine (hT.out _ (hKH.out.step hB) _ _ rl.out).mono ?_
        rintro e w3 ⟨rfl, hb⟩
        rw [hE.out]
        have hB := hB.trans (hb.mono hB.size)
        have rl := Lib.hid (rl.out.step hb)
        clear hb
        go_wp2_with fail
        refine (hLm.out _ (hKH.out.step hB)).mono ?_
        rintro e w4 ⟨A4, c4, rfl, -, r4, hb⟩
        have hB := hB.trans (hb.mono hB.size)
        have rl := Lib.hid (rl.out.step hb)
        have r4 := Lib.hid r4
        clear hb
        go_wp2_with fail
        refine (Same_at hl hml rl.out r4.out (Below.refl _ _) (Nat.le_refl _)).mono ?_
        rintro e w4 ⟨rfl, hb⟩
        rw [hsmH.out]
        have hB := hB.trans (hb.mono hB.size)
        clear hb
        cases hx : lexL s.data.toList with
        | error q =>
          have hL := Lib.hid (fun W (hW : KW W) => Lex_er s (by omega) hx W hW)
          clear hx
          go_wp2_with fail
          refine (hL.out _ (hKH.out.step hB)).mono ?_
          rintro e w5 ⟨rfl, hb⟩
          have hB := hB.trans (hb.mono hB.size)
          go_wp2_with fail
          go_ret
          exact ⟨rfl, hB⟩
        | ok x =>
          have hL := Lib.hid (fun W (hW : KW W) => Lex_ok s (by omega) hx W hW)
          have hval := lexL_valid hx
          have hall : x.all validB = true := List.all_eq_true.2 hval
          obtain ⟨g1, g2⟩ := lexL_short hx
          have hsl : s.data.toList.length = s.size := rfl
          obtain ⟨y, hy, hsy⟩ := lexL_text hall
          have hE : Hid (textE x = (textL x, 0)) := by show textE x = _; unfold textE; rw [hall]; rfl
          have hT := Lib.hid (Text_any x (by omega) (fun t ht => valid_ok (hval t ht)) (fun _ => by omega))
          have hL2 := Lib.hid (fun W (hW : KW W) => Lex_okL (textL x) (by omega) hy W hW)
          have hxl : x.length ≤ 9223372036854775807 := by omega
          have hyl : y.length ≤ 9223372036854775807 := by rw [← sameL_length hsy]; omega
          have hsyH := Lib.hid hsy
          clear hx hval hall g1 g2 hy hsy hsl
          go_wp2_with fail
          refine (hL.out _ (hKH.out.step hB)).mono ?_
          rintro e w5 ⟨A5, c5, rfl, -, r5, hb⟩
          have hB := hB.trans (hb.mono hB.size)
          have r5 := Lib.hid r5
          clear hb
          go_wp2_with fail
          refine (hT.out _ (hKH.out.step hB) _ _ r5.out).mono ?_
          rintro e w6 ⟨rfl, hb⟩
          rw [hE.out]
          have hB := hB.trans (hb.mono hB.size)
          have r5 := Lib.hid (r5.out.step hb)
          clear hb
          go_wp2_with fail
          refine (hL2.out _ (hKH.out.step hB)).mono ?_
          rintro e w7 ⟨A7, c7, rfl, -, r7, hb⟩
          have hB := hB.trans (hb.mono hB.size)
          have r5 := Lib.hid (r5.out.step hb)
          have r7 := Lib.hid r7
          clear hb
          go_wp2_with fail
          refine (Same_at hxl hyl r5.out r7.out (Below.refl _ _) (Nat.le_refl _)).mono ?_
          rintro e w8 ⟨rfl, hb⟩
          rw [hsyH.out]
          have hB := hB.trans (hb.mono hB.size)
          go_wp2_with fail
          go_ret
          exact ⟨rfl, hB⟩
      | false =>
        have hE : Hid (textE l = ([], 30)) := by show textE l = _; unfold textE; rw [hv]; rfl
        have hT := Lib.hid (Text_any l (by omega) hokH.out (fun h => by rw [hv] at h; cases h))
        clear hv
        go_wp2_with fail
        refine (hT.out _ (hKH.out.step hB) _ _ rl.out).mono ?_
        rintro e w3 ⟨rfl, hb⟩
        rw [hE.out]
        have hB := hB.trans (hb.mono hB.size)
        clear hb
        cases hx : lexL s.data.toList with
        | error q =>
          have hL := Lib.hid (fun W (hW : KW W) => Lex_er s (by omega) hx W hW)
          clear hx
          go_wp2_with fail
          refine (hL.out _ (hKH.out.step hB)).mono ?_
          rintro e w5 ⟨rfl, hb⟩
          have hB := hB.trans (hb.mono hB.size)
          go_wp2_with fail
          go_ret
          exact ⟨rfl, hB⟩
        | ok x =>
          have hL := Lib.hid (fun W (hW : KW W) => Lex_ok s (by omega) hx W hW)
          have hval := lexL_valid hx
          have hall : x.all validB = true := List.all_eq_true.2 hval
          obtain ⟨g1, g2⟩ := lexL_short hx
          have hsl : s.data.toList.length = s.size := rfl
          obtain ⟨y, hy, hsy⟩ := lexL_text hall
          have hE : Hid (textE x = (textL x, 0)) := by show textE x = _; unfold textE; rw [hall]; rfl
          have hT := Lib.hid (Text_any x (by omega) (fun t ht => valid_ok (hval t ht)) (fun _ => by omega))
          have hL2 := Lib.hid (fun W (hW : KW W) => Lex_okL (textL x) (by omega) hy W hW)
          have hxl : x.length ≤ 9223372036854775807 := by omega
          have hyl : y.length ≤ 9223372036854775807 := by rw [← sameL_length hsy]; omega
          have hsyH := Lib.hid hsy
          clear hx hval hall g1 g2 hy hsy hsl
          go_wp2_with fail
          refine (hL.out _ (hKH.out.step hB)).mono ?_
          rintro e w5 ⟨A5, c5, rfl, -, r5, hb⟩
          have hB := hB.trans (hb.mono hB.size)
          have r5 := Lib.hid r5
          clear hb
          go_wp2_with fail
          refine (hT.out _ (hKH.out.step hB) _ _ r5.out).mono ?_
          rintro e w6 ⟨rfl, hb⟩
          rw [hE.out]
          have hB := hB.trans (hb.mono hB.size)
          have r5 := Lib.hid (r5.out.step hb)
          clear hb
          go_wp2_with fail
          refine (hL2.out _ (hKH.out.step hB)).mono ?_
          rintro e w7 ⟨A7, c7, rfl, -, r7, hb⟩
          have hB := hB.trans (hb.mono hB.size)
          have r5 := Lib.hid (r5.out.step hb)
          have r7 := Lib.hid r7
          clear hb
          go_wp2_with fail
          refine (Same_at hxl hyl r5.out r7.out (Below.refl _ _) (Nat.le_refl _)).mono ?_
          rintro e w8 ⟨rfl, hb⟩
          rw [hsyH.out]
          have hB := hB.trans (hb.mono hB.size)
          go_wp2_with fail
          go_ret
          exact ⟨rfl, hB⟩
    · have hlen' : (3000 : Int) < s.size := by omega
      go_wp2_with fail
      go_ret
      exact ⟨rfl, hB⟩
end Go.Proofs.YtndfchnmajfmiaaDoor
