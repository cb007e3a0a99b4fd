/- Conversions of bytes to strings. -/
import Derived.Test.YtpmmahlmfcbbbaaNb
import Derived.Lib.ConvBytes
import Derived.Deep.QuietTactic
import Derived.BigQuiet
namespace Go.Proofs.Ytpmmahlmfcbbbaa
open Go.RowKit

theorem conv_str {w : World} {S : Nat → Prop} {c : Nat} {A : Option Addr} {bs : List UInt8} (h : RBs w S A bs) : (convert 26 9 (.slice A bs.length c)).run Try.prog w = .ok (.string ⟨bs.toArray⟩) w := by
  rcases Nat.eq_zero_or_pos bs.length with h0 | h0
  · have hb : bs = [] := List.eq_nil_of_length_eq_zero h0
    subst hb
    cases A with
    | none => exact run_convert_bytes_nil (P := Try.prog) w 26 5 Try.underlying26 Try.underlying5 0 c 9 Try.underlying9
    | some a =>
      have hl := run_loadCells_list (P := Try.prog) w a [] (by simp)
      show (convert 26 9 (.slice (some a) 0 c)).run Try.prog w = _
      rw [run_convert_bytes_string w 26 9 5 (some a) 0 c Try.underlying26 Try.underlying5 Try.underlying9, run_bytesToString w a 0 c [] hl]
      rfl
  · obtain ⟨b, off, rfl, hb, hc⟩ := h h0
    rw [run_convert_bytes_arg (P := Try.prog) w 26 5 Try.underlying26 Try.underlying5 b off bs.length c (bs.map fun b => (b.toNat : Int)) (by simp) (fun i hi => by rw [hc i hi]; simp [List.getD, hi]) 9 Try.underlying9]
    congr 2
    simp [strOfNums, Function.comp_def]
theorem conv_drew {w : World} {S : Nat → Prop} {c : Nat} {A : Option Addr} {bs : List UInt8} (h : RBs w S A bs) (n : Nat) : (convert 26 9 (.slice A bs.length c)).run Try.prog (w.drewN n) = .ok (.string ⟨bs.toArray⟩) (w.drewN n) :=
  conv_str (h.keep (w' := w.drewN n) fun _ _ _ => rfl)

end Go.Proofs.Ytpmmahlmfcbbbaa
