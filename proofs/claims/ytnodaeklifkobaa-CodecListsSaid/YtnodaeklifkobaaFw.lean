/- The guards 'count', 'Few', 'few': what passes them is small. -/
import Derived.Test.YtnodaeklifkobaaProg
import Derived.Test.YtnodaeklifkobaaGv
import Derived.Outline
namespace Go.Proofs.Ytnodaeklifkobaa
open Go.RowKit

def CountPost (x : GV) (d : Int) (w : World) (e : Ending) (w' : World) : Prop :=
  ∃ m : Int, e = .returned (.int .i64 m) ∧ 1 ≤ m ∧ m ≤ (d + 2) * 1000 + 50000000000000000 ∧ (m ≤ 999 → (big x : Int) ≤ 200 * m) ∧ Below w.heap.size w w'

set_option maxHeartbeats 400000 in
theorem count_any (x : GV) : ∀ (d : Int), -1 ≤ d → d ≤ 20 → ∀ (w : World) (B : Nat) (v : Value), B ≤ w.heap.size → RV w B x v → Calls Try.prog 38 #[v, .int .i64 d] w (CountPost x d w) := by
  induction x using GV.ind with
  | h kd n s l ih =>
    intro d hd1 hd2 w B v hB hv
    obtain ⟨a, cap, rfl, hk, hn, hs, hby, hl⟩ := hv.parts
    have hl' := hl.keep (w' := w.alloc (.cells #[.int .i64 kd, .int .i64 n, .string s, .slice a l.length cap] 24)) (fun b o h => World.cell?_alloc_lt w _ ⟨b, o, none⟩ (by simpa using Nat.lt_of_lt_of_le h hB))
    simp only [GV.kind, GV.num, GV.str, GV.els] at hk hn hs hby hl' ⊢
    have ih' := Lib.hid ih
    clear ih hv hl hk hn
    unfold maxLen at hs
    by_cases hd : d < 0
    · go_enter Try.func38, Try.ntmps38
      go_wp2_with fail
      go_ret
      exact ⟨1000, rfl, by omega, by omega, by omega, (Below.refl _ _).alloc (Nat.le_refl _) _⟩
    · have hd' : decide (d < 0) = false := by simpa using hd
      by_cases hln : 150 < l.length
      · go_enter Try.func38, Try.ntmps38
        go_wp2_with fail
        go_ret
        exact ⟨1000, rfl, by omega, by omega, by omega, (Below.refl _ _).alloc (Nat.le_refl _) _⟩
      · go_enter Try.func38, Try.ntmps38
        go_wp2_with fail
        go_loopw [5, 6] (fun c i wr => ∃ (k : Nat) (m : Int), k ≤ l.length ∧ i = .int .i64 k ∧ c = .int .i64 m ∧ 1 ≤ m ∧ m ≤ (d + 2) * 1000 + 50000000000000000 ∧ (m ≤ 999 → 1 + (s.size : Int) + bigAll (l.take k) ≤ 200 * m) ∧ Below (w.heap.size + 1) (w.alloc (.cells #[.int .i64 kd, .int .i64 n, .string s, .slice a l.length cap] 24)) wr) (fun _ i _ => l.length - (intOf i).toNat)
        case atStart => exact ⟨0, _, Nat.zero_le _, rfl, rfl, by omega, by omega, by simp [bigAll]; omega, Below.refl _ _⟩
        case round =>
          obtain ⟨k, m, hk, rfl, rfl, hm1, hm2, hm3, hb⟩ := hrel
          obtain ⟨hx0, hx1, hx2, hx3⟩ := box4 hb
          have hm3' := Lib.hid hm3
          clear hm3
          by_cases hlt : k < l.length
          · by_cases hmm : m ≤ 1000
            · obtain ⟨b, off, a', c', rfl, hbB, hv, c0, c1, c2, c3⟩ := (hl'.under hb (by omega)).at_ hlt
              have hd := Lib.hid (bigAll_take l k hlt)
              have hz := hb.size
              simp only [World.size_alloc] at hz
              go_wp2_with fail
              refine (ih'.out l[k] (List.getElem_mem hlt) (d - 1) (by omega) (by omega) _ B _ (by omega) hv).mono ?_
              rintro e w1 ⟨m1, rfl, h1, h2, h3, hb1⟩
              have hb2 := hb.trans (hb1.mono (by omega))
              have h3' := Lib.hid h3
              clear h3
              go_wp2_with fail
              go_roundw
              case rel => exact ⟨k + 1, _, by omega, by go_num, rfl, by omega, by omega, fun hm => by
                have := h3'.out (by omega)
                have := hm3'.out (by omega)
                rw [hd.out]
                omega, hb2⟩
              case measure => simp [intOf]; omega
            · go_wp2_with fail
              go_ret
              exact ⟨m, rfl, by omega, by omega, by omega, unbox hb⟩
          · go_wp2_with fail
            go_ret
            refine ⟨m, rfl, by omega, by omega, fun hm => ?_, unbox hb⟩
            have := hm3'.out hm
            rw [List.take_of_length_le (by omega)] at this
            rw [big]
            omega

def Few1Post (x : GV) (w : World) (e : Ending) (w' : World) : Prop := ∃ b : Bool, e = .returned (.bool b) ∧ (b = true → big x ≤ 40000) ∧ Below w.heap.size w w'

theorem few1_any (x : GV) (w : World) (B : Nat) (v : Value) (hB : B ≤ w.heap.size) (hv : RV w B x v) : Calls Try.prog 25 #[v, .int .i64 20] w (Few1Post x w) := by
  obtain ⟨a, cap, rfl, hk, hn, hs, hby, hl⟩ := hv.parts
  have hv1 := hv.alloc hB (.cells #[.int .i64 x.kind, .int .i64 x.num, .string x.str, .slice a x.els.length cap] 24)
  clear hv hl
  go_enter Try.func25, Try.ntmps25
  go_wp2_with fail
  refine (count_any x 20 (by omega) (by omega) _ B _ (by simp; omega) hv1).mono ?_
  rintro e w1 ⟨m, rfl, h1, h2, h3, hb1⟩
  have h3' := Lib.hid h3
  clear h3
  simp only [World.size_alloc] at hb1
  go_wp2_with fail
  go_ret
  exact ⟨_, rfl, fun hm => by
    have hm' : m ≤ 200 := by simpa using hm
    have := h3'.out (by omega)
    omega, unbox hb1⟩

def FewPost (l : List GV) (w : World) (e : Ending) (w' : World) : Prop := ∃ b : Bool, e = .returned (.bool b) ∧ (b = true → ∀ x ∈ l, big x ≤ 40000) ∧ Below w.heap.size w w'

set_option maxHeartbeats 400000 in
theorem few_any (l : List GV) (w : World) (B : Nat) (a : Option Addr) (cap : Nat) (hB : B ≤ w.heap.size) (h : RL w B l a cap) (hm : l.length ≤ 9223372036854775807) : Calls Try.prog 11 #[.slice a l.length cap] w (FewPost l w) := by
  go_enter Try.func11, Try.ntmps11
  go_wp2_with fail
  go_loopw [7] (fun i wr => ∃ k : Nat, k ≤ l.length ∧ i = .int .i64 k ∧ (∀ x ∈ l.take k, big x ≤ 40000) ∧ Below w.heap.size w wr) (fun i _ => l.length - (intOf i).toNat)
  case atStart => exact ⟨0, Nat.zero_le _, rfl, by simp, Below.refl _ _⟩
  case round =>
    obtain ⟨k, hk, rfl, hf, hb⟩ := hrel
    have hf' := Lib.hid hf
    clear hf
    by_cases hlt : k < l.length
    · obtain ⟨b, off, a', c', rfl, hbB, hv, c0, c1, c2, c3⟩ := (h.under hb hB).at_ hlt
      have hz := hb.size
      go_wp2_with fail
      refine (few1_any l[k] _ B _ (by simp; omega) (hv.alloc (by omega) _)).mono ?_
      rintro e w1 ⟨q, rfl, hq, hb1⟩
      have hb2 := (hb.alloc hb.size _).trans (hb1.mono (by simp; omega))
      have hq' := Lib.hid hq
      clear hq
      cases q with
      | true =>
        go_wp2_with fail
        go_roundw
        case rel => exact ⟨k + 1, by omega, by go_num, fun x hx => by
          rw [List.take_succ_eq_append_getElem hlt, List.mem_append, List.mem_singleton] at hx
          rcases hx with hx | rfl
          · exact hf'.out x hx
          · exact hq'.out trivial, hb2⟩
        case measure => simp [intOf]; omega
      | false =>
        go_wp2_with fail
        go_ret
        exact ⟨false, rfl, by simp, hb2⟩
    · go_wp2_with fail
      go_ret
      exact ⟨true, rfl, fun _ x hx => hf'.out x (by rw [List.take_of_length_le (by omega)]; exact hx), hb⟩
end Go.Proofs.Ytnodaeklifkobaa
