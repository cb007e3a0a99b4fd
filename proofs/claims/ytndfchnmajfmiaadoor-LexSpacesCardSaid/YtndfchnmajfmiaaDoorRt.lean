/- The reference's Text. -/
import Derived.Test.YtndfchnmajfmiaaDoorRv
import Derived.Test.YtndfchnmajfmiaaDoorBk
namespace Go.Proofs.YtndfchnmajfmiaaDoor
open Go.RowKit

theorem str_app (a b : List UInt8) : (⟨a.toArray⟩ : ByteArray) ++ (⟨b.toArray⟩ : ByteArray) = ⟨(a ++ b).toArray⟩ := by
  apply ByteArray.ext
  simp
theorem spell_num {t : Tk} (h : t.k = 2) (hv : validB t = true) : 0 ≤ t.n ∧ t.n ≤ 1099511627776 ∧ spell t = Lib.decDigits t.n.toNat := by
  obtain ⟨k, s, n, p⟩ := t
  simp only at h
  subst h
  unfold validB at hv
  simp only [if_neg (show ¬ (2 : Int) = 1 by decide), if_pos, Bool.and_eq_true, decide_eq_true_eq] at hv
  have h40 : ((two40 : Nat) : Int) = 1099511627776 := rfl
  refine ⟨hv.2.1, by show n ≤ _; omega, ?_⟩
  unfold spell
  rw [if_pos rfl]
  exact itoa_pos hv.2.1
theorem spell_word {t : Tk} (h : (t.k == 2) = false) : spell t = t.s := by
  unfold spell
  rw [if_neg (by simpa using h)]

set_option maxRecDepth 100000 in
set_option maxHeartbeats 3200000 in
theorem rText_any (l : List Tk) (hl : l.length ≤ 100000) (hok : ∀ t ∈ l, OkT t) (w : World) (A : Option Addr) (c : Nat) (hr : TR w w.heap.size A l) :
    Calls Tryd.prog 17 #[.slice A l.length c] w fun e w' => e = .returned (.tuple #[.string ⟨(textE l).1.toArray⟩, .int .i64 (textE l).2]) ∧ Below w.heap.size w w' := by
  have hrH := Lib.hid hr
  have hokH := Lib.hid hok
  clear hr hok
  go_enter Tryd.func17, Tryd.ntmps17
  go_wp2_with fail
  go_loopw [4, 5] (fun s i wr => ∃ k : Nat, k ≤ l.length ∧ i = .int .i64 k ∧ (∀ j (h : j < l.length), j < k → validB l[j] = true) ∧ s = .string ⟨(textL (l.take k)).toArray⟩ ∧ Below w.heap.size w wr) (fun _ i _ => l.length - (intOf i).toNat)
  case atStart => exact ⟨0, Nat.zero_le _, rfl, fun _ _ h => absurd h (by omega), rfl, Below.refl _ _⟩
  case round =>
    obtain ⟨k, hk, rfl, hva, rfl, hb⟩ := hrel
    have hsh : (textL (l.take k)).length ≤ 3300000 := by
      have hav : (l.take k).all validB = true := by
        rw [List.all_eq_true]
        intro t ht
        obtain ⟨j, hj, rfl⟩ := List.getElem_of_mem ht
        rw [List.getElem_take]
        rw [List.length_take] at hj
        exact hva j (by omega) (by omega)
      have := text_short _ hav
      rw [List.length_take] at this
      omega
    have hvaH := Lib.hid hva
    clear hva
    by_cases hlt : k < l.length
    · obtain ⟨b, off, rfl, hbB, hcells⟩ := (hrH.out.below hb (Nat.le_refl _)) (by omega)
      obtain ⟨c0, c1, c2, c3⟩ := hcells k hlt
      have hz := hb.size
      have hok := hokH.out l[k] (List.getElem_mem hlt)
      have hallf := Lib.hid (fun h => all_valid (l := l) hlt h)
      have hvs := Lib.hid (fun (h : validB l[k] = true) j (hj : j < l.length) (hjk : j < k + 1) => show validB l[j] = true by
        by_cases e : j = k
        · subst e; exact h
        · exact hvaH.out j hj (by omega))
      have hsn := Lib.hid (fun (h0 : 0 < k) => textL_take hlt h0)
      have hs1 := Lib.hid (fun (h0 : k = 0) => show textL (l.take (k + 1)) = spell l[k] by subst h0; exact textL_first hlt)
      clear hcells hvaH
      generalize l[k] = t at *
      have hV := Lib.hid (rValid_any t (by have := hok.1; omega))
      clear hok
      have hi1 : (0 : Int) ≤ k := by omega
      have hi2 : (k : Int) < l.length := by omega
      cases hv : validB t with
      | false =>
        have hf : Hid (textE l = ([], 30)) := by show textE l = _; unfold textE; rw [hallf.out hv]; rfl
        have hvF := Lib.hid hv
        clear hv
        go_wp2_with fail
        refine (hV.out _).mono ?_
        rintro e w1 ⟨rfl, hb1⟩
        rw [hvF.out]
        have hB1 := hb.trans (hb1.mono hz)
        go_wp2_with fail
        go_ret2
        rw [hf.out]
        exact ⟨rfl, hB1⟩
      | true =>
        have hvsH := Lib.hid (hvs.out hv)
        have hnum := Lib.hid (fun h => spell_num (t := t) h hv)
        have hword := Lib.hid (fun h => spell_word (t := t) h)
        have hss := spell_short hv
        have hvF := Lib.hid hv
        clear hv hvs hallf
        have hst : ∀ W, Below wr.heap.size wr W → W.cell? ⟨b, off + k * 4, none⟩ = some (.int .i64 t.k) ∧ W.cell? ⟨b, off + k * 4 + 1, none⟩ = some (.string ⟨t.s.toArray⟩) ∧ W.cell? ⟨b, off + k * 4 + 2, none⟩ = some (.int .i64 t.n) := fun W hW => ⟨by rw [hW.cell (p := ⟨b, off + k * 4, none⟩) (by show b < _; omega)]; exact c0, by rw [hW.cell (p := ⟨b, off + k * 4 + 1, none⟩) (by show b < _; omega)]; exact c1, by rw [hW.cell (p := ⟨b, off + k * 4 + 2, none⟩) (by show b < _; omega)]; exact c2⟩
        have hstH := Lib.hid hst
        clear hst
        go_wp2_with fail
        refine (hV.out _).mono ?_
        rintro e w1 ⟨rfl, hb1⟩
        rw [hvF.out]
        have hB1 := hb.trans (hb1.mono hz)
        obtain ⟨d0, d1, d2⟩ := hstH.out _ hb1
        clear c0 c1 c2 c3 hV hstH hb1
        by_cases h0 : 0 < k
        · have hcat : Hid ((⟨((textL (l.take k)) ++ [32] ++ spell t).toArray⟩ : ByteArray) = ⟨(textL (l.take (k + 1))).toArray⟩) := by show _ = _; rw [hsn.out h0]; simp
          have h0i : (0 : Int) < k := by omega
          clear hsn hs1
          cases h2 : (t.k == 2) with
          | true =>
            obtain ⟨n1, n2, n3⟩ := hnum.out (by simpa using h2)
            rw [n3] at hcat hss
            have hnn : t.n = (t.n.toNat : Int) := by omega
            have hD := Lib.hid (rDecimal_any t.n.toNat (by omega))
            rw [hnn] at d2
            generalize t.n.toNat = u at *
            clear n1 n2 n3 hnn hnum hword
            go_wp2_with fail
            refine (hD.out _).mono ?_
            rintro e w2 ⟨rfl, hb2⟩
            have hB2 := hB1.trans (hb2.mono hB1.size)
            go_wp2_with fail
            go_roundw
            case rel => exact ⟨k + 1, by omega, by go_num, hvsH.out, by rw [← hcat.out, ← str_app, ← str_app], hB2⟩
            case measure => simp [intOf]; omega
          | false =>
            rw [hword.out h2] at hcat hss
            clear hnum hword
            go_wp2_with fail
            go_roundw
            case rel => exact ⟨k + 1, by omega, by go_num, hvsH.out, by rw [← hcat.out, ← str_app, ← str_app], hB1⟩
            case measure => simp [intOf]; omega
        · have hk0 : k = 0 := by omega
          have hcat : Hid ((⟨([] ++ spell t : List UInt8).toArray⟩ : ByteArray) = ⟨(textL (l.take (k + 1))).toArray⟩) := by show _ = _; rw [hs1.out hk0]; simp
          have hte : textL (l.take k) = [] := by rw [hk0]; rfl
          rw [hte]
          clear hsn hs1 hte
          subst hk0
          simp only [Nat.zero_mul, Nat.add_zero, Nat.zero_add] at d0 d1 d2
          cases h2 : (t.k == 2) with
          | true =>
            obtain ⟨n1, n2, n3⟩ := hnum.out (by simpa using h2)
            rw [n3] at hcat hss
            have hnn : t.n = (t.n.toNat : Int) := by omega
            have hD := Lib.hid (rDecimal_any t.n.toNat (by omega))
            rw [hnn] at d2
            generalize t.n.toNat = u at *
            clear n1 n2 n3 hnn hnum hword
            go_wp2_with fail
            refine (hD.out _).mono ?_
            rintro e w2 ⟨rfl, hb2⟩
            have hB2 := hB1.trans (hb2.mono hB1.size)
            go_wp2_with fail
            go_roundw
            case rel => exact ⟨1, by omega, by go_num, hvsH.out, by rw [← hcat.out, ← str_app], hB2⟩
            case measure => simp [intOf]; omega
          | false =>
            rw [hword.out h2] at hcat hss
            clear hnum hword
            go_wp2_with fail
            go_roundw
            case rel => exact ⟨1, by omega, by go_num, hvsH.out, by rw [← hcat.out, ← str_app], hB1⟩
            case measure => simp [intOf]; omega
    · have hkl : k = l.length := by omega
      subst hkl
      have hall : l.all validB = true := by
        rw [List.all_eq_true]
        intro t ht
        obtain ⟨j, hj, rfl⟩ := List.getElem_of_mem ht
        exact hvaH.out j hj hj
      have hf : Hid (textE l = (textL l, 0)) := by show textE l = _; unfold textE; rw [hall]; rfl
      clear hall hvaH
      rw [List.take_length]
      go_wp2_with fail
      go_ret2
      rw [hf.out]
      exact ⟨rfl, hb⟩
end Go.Proofs.YtndfchnmajfmiaaDoor
