/- LexTextSpec: the law, walked. -/
import Derived.Test.YtndfchnmajfmiaaDoorRt
import Derived.Test.YtndfchnmajfmiaaDoorBl
namespace Go.Proofs.YtndfchnmajfmiaaDoor
open Go.RowKit

theorem sameT_refl (t : Tk) : sameT t t = true := by unfold sameT; simp
theorem sameL_refl (l : List Tk) : sameL l l = true := by
  induction l with
  | nil => rfl
  | cons t r ih => rw [sameL, sameT_refl, ih]; rfl

set_option maxRecDepth 100000 in
set_option maxHeartbeats 6400000 in
theorem text_law (a b : List Tk) (ha : a.length ≤ 9223372036854775807) (hb : b.length ≤ 9223372036854775807) (hok : ∀ t ∈ a, OkT t) (s : ByteArray) (hs : s.size ≤ 140737488355328) (w : World) (hK : KW w) (A : Option Addr) (c : Nat) (hr : TR w w.heap.size A a)
    (B : Option Addr) (d : Nat) (hq : TR w w.heap.size B b) :
    Calls Tryd.prog 4 #[.slice A a.length c, .slice B b.length d, .string s] w fun e w' => e = .returned (.bool true) ∧ Below w.heap.size w w' := by
  have hKH := Lib.hid hK
  have hokH := Lib.hid hok
  have hrH := Lib.hid hr
  have hqH := Lib.hid hq
  clear hK hok hr hq
  go_enter Tryd.func4, Tryd.ntmps4
  go_wp2_with fail
  refine (sane_any _ hKH.out).mono ?_
  rintro e w1 ⟨rfl, hB⟩
  have ra := Lib.hid (hrH.out.step hB)
  have rb := Lib.hid (hqH.out.step hB)
  go_wp2_with fail
  refine (Few_any a ha _ _ _ ra.out).mono ?_
  rintro e w2 ⟨z, rfl, hf, rfl⟩
  cases z with
  | false =>
    clear hf
    go_wp2_with fail
    go_ret
    exact ⟨rfl, hB⟩
  | true =>
    have hl2 := hf rfl
    clear hf
    go_wp2_with fail
    refine (Few_any b hb _ _ _ rb.out).mono ?_
    rintro e w2 ⟨z, rfl, hf, rfl⟩
    cases z with
    | false =>
      clear hf
      go_wp2_with fail
      go_ret
      exact ⟨rfl, hB⟩
    | true =>
      clear hf
      by_cases hlen : s.size ≤ 1000
      · have hlen' : ¬ (1000 : Int) < s.size := by omega
        have hT := Lib.hid (Text_any a (by omega) hokH.out (fun hv => by have := text_short a hv; omega))
        have hR := Lib.hid (rText_any a (by omega) hokH.out)
        have hN := Lib.hid (fun W (hW : KW W) => Name_any s (by omega) W hW)
        have hM := Lib.hid (fun W => rName_any s (by omega) W)
        have hsr := Lib.hid (sameL_refl a)
        go_wp2_with fail
        refine (hT.out _ (hKH.out.step hB) _ _ ra.out).mono ?_
        rintro e w3 ⟨rfl, hb3⟩
        have hB := hB.trans (hb3.mono hB.size)
        have ra := Lib.hid (ra.out.step hb3)
        have rb := Lib.hid (rb.out.step hb3)
        clear hb3
        go_wp2_with fail
        refine (hR.out _ _ _ ra.out).mono ?_
        rintro e w4 ⟨rfl, hb4⟩
        have hB := hB.trans (hb4.mono hB.size)
        have ra := Lib.hid (ra.out.step hb4)
        have rb := Lib.hid (rb.out.step hb4)
        clear hb4 hT hR
        generalize (textE a).1 = ts
        generalize (textE a).2 = te
        go_wp2_with fail
        refine (Same_any a b ha hb _ _ _ _ _ ra.out rb.out).mono ?_
        rintro e w5 ⟨rfl, hb5⟩
        have hB := hB.trans (hb5.mono hB.size)
        have ra := Lib.hid (ra.out.step hb5)
        have rb := Lib.hid (rb.out.step hb5)
        clear hb5
        go_wp2_with fail
        refine (rSame_any a b ha hb _ _ _ _ _ ra.out rb.out).mono ?_
        rintro e w6 ⟨rfl, hb6⟩
        have hB := hB.trans (hb6.mono hB.size)
        have ra := Lib.hid (ra.out.step hb6)
        clear hb6
        go_wp2_with fail
        refine (Same_any a a ha ha _ _ _ _ _ ra.out ra.out).mono ?_
        rintro e w7 ⟨rfl, hb7⟩
        rw [hsr.out]
        have hB := hB.trans (hb7.mono hB.size)
        clear hb7
        go_wp2_with fail
        refine (hN.out _ (hKH.out.step hB)).mono ?_
        rintro e w8 ⟨rfl, rfl⟩
        go_wp2_with fail
        refine (hM.out _).mono ?_
        rintro e w9 ⟨rfl, rfl⟩
        go_wp2_with fail
        go_ret
        exact ⟨rfl, hB⟩
      · have hlen' : (1000 : Int) < s.size := by omega
        go_wp2_with fail
        go_ret
        exact ⟨rfl, hB⟩
end Go.Proofs.YtndfchnmajfmiaaDoor
