/- wellFormed, allWellFormed: contracts. -/
import Derived.Test.YtbhpmeljmkoebaaDoorProg
import Derived.Test.YtbhpmeljmkoebaaDoorKGv
import Derived.Outline
namespace Go.Proofs.YtbhpmeljmkoebaaDoor.K
open Go.RowKit

mutual
def formed : GV → Bool
  | .mk k n s l => if k = 1 then s.toList.isEmpty && l.length == 0 else if k = 2 then n == 0 && l.length == 0 else if k = 3 then n == 0 && (s.toList.isEmpty && formedAll l) else false
def formedAll : List GV → Bool
  | [] => true
  | x :: r => formed x && formedAll r
end

theorem formedAll_drop (l : List GV) (k : Nat) (h : k < l.length) : formedAll (l.drop k) = (formed l[k] && formedAll (l.drop (k + 1))) := by
  rw [List.drop_eq_getElem_cons h, formedAll]

set_option maxHeartbeats 400000 in
theorem allWellFormed_of (l : List GV) (ih : ∀ x ∈ l, ∀ (w : World) (B : Nat) (v : Value), B ≤ w.heap.size → RV w B x v → Calls Tryd.prog 71 #[v] w fun e w' => e = .returned (.bool (formed x)) ∧ Below w.heap.size w w')
    (w : World) (B : Nat) (hB : B ≤ w.heap.size) (a : Option Addr) (cap : Nat) (h : RL w B l a cap) :
    Calls Tryd.prog 74 #[.slice a l.length cap] w fun e w' => e = .returned (.bool (formedAll l)) ∧ Below w.heap.size w w' := by
  have hm : l.length ≤ 9223372036854775807 := Nat.le_trans h.1 (Nat.le_trans h.2.1 (by decide))
  have ih' := Lib.hid ih
  clear ih
  go_enter Tryd.func74, Tryd.ntmps74
  go_wp2_with fail
  go_loopw [7] (fun i wr => ∃ k : Nat, k ≤ l.length ∧ i = .int .i64 k ∧ formedAll l = formedAll (l.drop k) ∧ Below w.heap.size w wr) (fun i _ => l.length - (intOf i).toNat)
  case atStart => exact ⟨0, Nat.zero_le _, rfl, rfl, Below.refl _ _⟩
  case round =>
    obtain ⟨k, hk, rfl, hf, hb⟩ := hrel
    have hf' := Lib.hid hf
    clear hf
    by_cases hlt : k < l.length
    · obtain ⟨b, off, a', c', rfl, hbB, hv, c0, c1, c2, c3⟩ := (h.under hb hB).at_ hlt
      have hd := Lib.hid (formedAll_drop l k hlt)
      have hz := hb.size
      go_wp2_with fail
      refine (ih'.out l[k] (List.getElem_mem hlt) _ B _ (by simp; omega) (hv.alloc (by omega) _)).mono ?_
      rintro e w1 ⟨rfl, hb1⟩
      have hb2 := (hb.alloc hb.size _).trans (hb1.mono (by simp; omega))
      by_cases hx : formed l[k] = true
      · go_wp2_with fail
        go_roundw
        case rel => exact ⟨k + 1, by omega, by go_num, by rw [hf'.out, hd.out, hx, Bool.true_and], hb2⟩
        case measure => simp [intOf]; omega
      · have hx' : formed l[k] = false := by simpa using hx
        clear hx
        go_wp2_with fail
        go_ret
        exact ⟨retB (by rw [hf'.out, hd.out, hx', Bool.false_and]), hb2⟩
    · go_wp2_with fail
      go_ret
      exact ⟨retB (by rw [hf'.out, List.drop_of_length_le (by omega), formedAll]), hb⟩

set_option maxHeartbeats 400000 in
theorem wellFormed_any (x : GV) : ∀ (w : World) (B : Nat) (v : Value), B ≤ w.heap.size → RV w B x v → Calls Tryd.prog 71 #[v] w fun e w' => e = .returned (.bool (formed x)) ∧ Below w.heap.size w w' := by
  induction x using GV.ind with
  | h k n s l ih =>
    intro w B v hB hv
    obtain ⟨a, cap, rfl, hk, hn, hs, hby, hl⟩ := hv.parts
    have hlB := hl.keep (w' := w.alloc (.cells #[.int .i64 k, .int .i64 n, .string s, .slice a l.length cap] 64)) (fun b o h => World.cell?_alloc_lt w _ ⟨b, o, none⟩ (by simpa using Nat.lt_of_lt_of_le h hB))
    have hall := Lib.hid (allWellFormed_of l ih)
    simp only [GV.kind, GV.num, GV.str, GV.els]
    clear ih hv hl
    unfold formed
    by_cases h1 : k = 1
    · subst h1
      go_enter Tryd.func71, Tryd.ntmps71
      go_wp2_with fail
      all_goals go_ret
      all_goals exact ⟨by simp [*, cast_beq0], (Below.refl _ _).alloc (Nat.le_refl _) _⟩
    · by_cases h2 : k = 2
      · subst h2
        go_enter Tryd.func71, Tryd.ntmps71
        go_wp2_with fail
        all_goals go_ret
        all_goals exact ⟨by simp [*, cast_beq0], (Below.refl _ _).alloc (Nat.le_refl _) _⟩
      · by_cases h3 : k = 3
        · subst h3
          by_cases hn0 : n = 0
          · subst hn0
            by_cases hs0 : s.toList = []
            · go_enter Tryd.func71, Tryd.ntmps71
              go_wp2_with fail
              refine (hall.out _ B (by simp; omega) _ _ hlB).mono ?_
              rintro e w1 ⟨rfl, hb1⟩
              go_wp2_with fail
              all_goals go_ret
              all_goals exact ⟨by simp [*], ((Below.refl _ _).alloc (Nat.le_refl _) _).trans (hb1.mono (by simp))⟩
            · go_enter Tryd.func71, Tryd.ntmps71
              go_wp2_with fail
              all_goals go_ret
              all_goals exact ⟨by simp [*], (Below.refl _ _).alloc (Nat.le_refl _) _⟩
          · go_enter Tryd.func71, Tryd.ntmps71
            go_wp2_with fail
            all_goals go_ret
            all_goals exact ⟨by simp [*], (Below.refl _ _).alloc (Nat.le_refl _) _⟩
        · go_enter Tryd.func71, Tryd.ntmps71
          go_wp2_with fail
          all_goals go_ret
          all_goals exact ⟨by simp [*], (Below.refl _ _).alloc (Nat.le_refl _) _⟩
end Go.Proofs.YtbhpmeljmkoebaaDoor.K
