/- depth, Check; the reference's Formed, Depth, Check: contracts. -/
import Derived.Test.YtbhpmeljmkoebaaDoorKWf
namespace Go.Proofs.YtbhpmeljmkoebaaDoor.K
open Go.RowKit

set_option maxHeartbeats 400000 in
theorem depth_any (x : GV) : big x ≤ 1000000 → ∀ (w : World) (B : Nat) (v : Value), B ≤ w.heap.size → RV w B x v → Calls Tryd.prog 72 #[v] w fun e w' => e = .returned (.int .i64 (dep x)) ∧ Below w.heap.size w w' := by
  induction x using GV.ind with
  | h k n s l ih =>
    intro hbig w B v hB hv
    obtain ⟨a, cap, rfl, hk, hn, hs, hby, hl⟩ := hv.parts
    have hl' := hl.keep (w' := w.alloc (.cells #[.int .i64 k, .int .i64 n, .string s, .slice a l.length cap] 64)) (fun b o h => World.cell?_alloc_lt w _ ⟨b, o, none⟩ (by simpa using Nat.lt_of_lt_of_le h hB))
    rw [big] at hbig
    simp only [GV.kind, GV.num, GV.str, GV.els] at hk hn hs hby hl' ⊢
    have ih' := Lib.hid ih
    clear ih hv hl
    have hm : l.length ≤ 9223372036854775807 := by omega
    have hdl := depAll_le l
    unfold dep
    by_cases h3 : k = 3
    · subst h3
      go_enter Tryd.func72, Tryd.ntmps72
      go_wp2_with fail
      go_loopw [3, 12] (fun d i wr => ∃ k : Nat, k ≤ l.length ∧ i = .int .i64 k ∧ d = .int .i64 (depAll (l.take k)) ∧ Below (w.heap.size + 1) (w.alloc (.cells #[.int .i64 3, .int .i64 n, .string s, .slice a l.length cap] 64)) wr) (fun _ i _ => l.length - (intOf i).toNat)
      case atStart => exact ⟨0, Nat.zero_le _, rfl, rfl, Below.refl _ _⟩
      case round =>
        obtain ⟨k, hk, rfl, rfl, hb⟩ := hrel
        by_cases hlt : k < l.length
        · obtain ⟨b, off, a', c', rfl, hbB, hv, c0, c1, c2, c3⟩ := (hl'.under hb (by omega)).at_ hlt
          have hd := Lib.hid (depAll_take l k hlt)
          have hz := hb.size
          simp only [World.size_alloc] at hz
          have hbe := bigAll_mem (List.getElem_mem hlt)
          have hde := dep_le l[k]
          have htk := depAll_take_le l k
          go_wp2_with fail
          refine (ih'.out l[k] (List.getElem_mem hlt) (by omega) _ B _ (by simp; omega) (hv.alloc (by omega) _)).mono ?_
          rintro e w1 ⟨rfl, hb1⟩
          have hb2 := (hb.alloc (by omega) _).trans (hb1.mono (by simp; omega))
          go_wp2_with fail
          go_roundw
          case rel => exact ⟨k + 1, by omega, by go_num, by rw [hd.out]; go_num, hb2⟩
          case measure => simp [intOf]; omega
        · have htk := depAll_take_le l k
          go_wp2_with fail
          go_ret
          exact ⟨retI (by rw [List.take_of_length_le (by omega)]; all_goals omega), unbox hb⟩
    · go_enter Tryd.func72, Tryd.ntmps72
      go_wp2_with fail
      go_ret
      exact ⟨retI (by simp), (Below.refl _ _).alloc (Nat.le_refl _) _⟩

set_option maxHeartbeats 400000 in
theorem rdepth_any (x : GV) : big x ≤ 1000000 → ∀ (w : World) (B : Nat) (v : Value), B ≤ w.heap.size → RV w B x v → Calls Tryd.prog 64 #[v] w fun e w' => e = .returned (.int .i64 (dep x)) ∧ Below w.heap.size w w' := by
  induction x using GV.ind with
  | h k n s l ih =>
    intro hbig w B v hB hv
    obtain ⟨a, cap, rfl, hk, hn, hs, hby, hl⟩ := hv.parts
    have hl' := hl.keep (w' := w.alloc (.cells #[.int .i64 k, .int .i64 n, .string s, .slice a l.length cap] 64)) (fun b o h => World.cell?_alloc_lt w _ ⟨b, o, none⟩ (by simpa using Nat.lt_of_lt_of_le h hB))
    rw [big] at hbig
    simp only [GV.kind, GV.num, GV.str, GV.els] at hk hn hs hby hl' ⊢
    have ih' := Lib.hid ih
    clear ih hv hl
    have hm : l.length ≤ 9223372036854775807 := by omega
    have hdl := depAll_le l
    unfold dep
    by_cases h3 : k = 3
    · subst h3
      go_enter Tryd.func64, Tryd.ntmps64
      go_wp2_with fail
      go_loopw [3, 4] (fun d i wr => ∃ k : Nat, k ≤ l.length ∧ i = .int .i64 k ∧ d = .int .i64 (depAll (l.take k)) ∧ Below (w.heap.size + 1) (w.alloc (.cells #[.int .i64 3, .int .i64 n, .string s, .slice a l.length cap] 64)) wr) (fun _ i _ => l.length - (intOf i).toNat)
      case atStart => exact ⟨0, Nat.zero_le _, rfl, rfl, Below.refl _ _⟩
      case round =>
        obtain ⟨k, hk, rfl, rfl, hb⟩ := hrel
        obtain ⟨_, _, _, hx3⟩ := box4 hb
        by_cases hlt : k < l.length
        · obtain ⟨b, off, a', c', rfl, hbB, hv, c0, c1, c2, c3⟩ := (hl'.under hb (by omega)).at_ hlt
          have hd := Lib.hid (depAll_take l k hlt)
          have hz := hb.size
          simp only [World.size_alloc] at hz
          have hbe := bigAll_mem (List.getElem_mem hlt)
          have hde := dep_le l[k]
          have htk := depAll_take_le l k
          go_wp2_with fail
          refine (ih'.out l[k] (List.getElem_mem hlt) (by omega) _ B _ (by omega) hv).mono ?_
          rintro e w1 ⟨rfl, hb1⟩
          have hb2 := hb.trans (hb1.mono (by omega))
          go_wp2_with fail
          go_roundw
          case rel => exact ⟨k + 1, by omega, by go_num, by rw [hd.out]; go_num, hb2⟩
          case measure => simp [intOf]; omega
        · have htk := depAll_take_le l k
          go_wp2_with fail
          go_ret
          exact ⟨retI (by rw [List.take_of_length_le (by omega)]; all_goals omega), unbox hb⟩
    · go_enter Tryd.func64, Tryd.ntmps64
      go_wp2_with fail
      go_ret
      exact ⟨retI (by simp), (Below.refl _ _).alloc (Nat.le_refl _) _⟩

set_option maxHeartbeats 400000 in
theorem rformed_any (x : GV) : ∀ (w : World) (B : Nat) (v : Value), B ≤ w.heap.size → RV w B x v → Calls Tryd.prog 63 #[v] w fun e w' => e = .returned (.bool (formed x)) ∧ Below w.heap.size w w' := by
  induction x using GV.ind with
  | h k n s l ih =>
    intro w B v hB hv
    obtain ⟨a, cap, rfl, hk, hn, hs, hby, hl⟩ := hv.parts
    have hl' := hl.keep (w' := w.alloc (.cells #[.int .i64 k, .int .i64 n, .string s, .slice a l.length cap] 64)) (fun b o h => World.cell?_alloc_lt w _ ⟨b, o, none⟩ (by simpa using Nat.lt_of_lt_of_le h hB))
    simp only [GV.kind, GV.num, GV.str, GV.els] at hk hn hs hby hl' ⊢
    have ih' := Lib.hid ih
    clear ih hv hl
    have hm : l.length ≤ 9223372036854775807 := by omega
    by_cases h1 : k = 1
    · subst h1
      go_enter Tryd.func63, Tryd.ntmps63
      go_wp2_with fail
      all_goals go_ret
      all_goals exact ⟨by simp [*, formed, cast_beq0], (Below.refl _ _).alloc (Nat.le_refl _) _⟩
    · by_cases h2 : k = 2
      · subst h2
        go_enter Tryd.func63, Tryd.ntmps63
        go_wp2_with fail
        all_goals go_ret
        all_goals exact ⟨by simp [*, formed, cast_beq0], (Below.refl _ _).alloc (Nat.le_refl _) _⟩
      · by_cases h3 : k = 3
        · subst h3
          go_enter Tryd.func63, Tryd.ntmps63
          go_wp2_with fail
          go_loopw [3] (fun i wr => ∃ k : Nat, k ≤ l.length ∧ i = .int .i64 k ∧ formedAll l = formedAll (l.drop k) ∧ Below (w.heap.size + 1) (w.alloc (.cells #[.int .i64 3, .int .i64 n, .string s, .slice a l.length cap] 64)) wr) (fun i _ => l.length - (intOf i).toNat)
          case atStart => exact ⟨0, Nat.zero_le _, rfl, rfl, Below.refl _ _⟩
          case round =>
            obtain ⟨k, hk, rfl, hf, hb⟩ := hrel
            have hf' := Lib.hid hf
            clear hf
            obtain ⟨hx0, hx1, hx2, hx3⟩ := box4 hb
            by_cases hlt : k < l.length
            · obtain ⟨b, off, a', c', rfl, hbB, hv, c0, c1, c2, c3⟩ := (hl'.under hb (by omega)).at_ hlt
              have hd := Lib.hid (formedAll_drop l k hlt)
              have hz := hb.size
              simp only [World.size_alloc] at hz
              go_wp2_with fail
              refine (ih'.out l[k] (List.getElem_mem hlt) _ B _ (by omega) hv).mono ?_
              rintro e w1 ⟨rfl, hb1⟩
              have hb2 := hb.trans (hb1.mono (by omega))
              by_cases hx : formed l[k] = true
              · go_wp2_with fail
                go_roundw
                case rel => exact ⟨k + 1, by omega, by go_num, by rw [hf'.out, hd.out, hx, Bool.true_and], hb2⟩
                case measure => simp [intOf]; omega
              · have hx' : formed l[k] = false := by simpa using hx
                clear hx
                go_wp2_with fail
                go_ret
                exact ⟨by simp [formed, hf'.out, hd.out, hx'], unbox hb2⟩
            · have he : Hid (formedAll l = true) := by rw [hf'.out, List.drop_of_length_le (by omega), formedAll]; rfl
              go_wp2_with fail
              all_goals go_ret
              all_goals exact ⟨by simp [*, formed, he.out], unbox hb⟩
        · go_enter Tryd.func63, Tryd.ntmps63
          go_wp2_with fail
          all_goals go_ret
          all_goals exact ⟨by simp [*, formed], (Below.refl _ _).alloc (Nat.le_refl _) _⟩

/-- What Check answers. -/
def chk (x : GV) : Int := if formed x then (if 16 < dep x then 2 else 0) else 1

set_option maxHeartbeats 400000 in
theorem check_any (x : GV) (hbig : big x ≤ 1000000) (w : World) (B : Nat) (v : Value) (hB : B ≤ w.heap.size) (hv : RV w B x v) : Calls Tryd.prog 60 #[v] w fun e w' => e = .returned (.int .i64 (chk x)) ∧ Below w.heap.size w w' := by
  have hW := Lib.hid (wellFormed_any x)
  have hD := Lib.hid (depth_any x hbig)
  have hde := dep_le x
  obtain ⟨a, cap, rfl, hk, hn, hs, hby, hl⟩ := hv.parts
  have hv1 := hv.alloc hB (.cells #[.int .i64 x.kind, .int .i64 x.num, .string x.str, .slice a x.els.length cap] 64)
  clear hv hl
  go_enter Tryd.func60, Tryd.ntmps60
  go_wp2_with fail
  refine (hW.out _ B _ (by simp; omega) hv1).mono ?_
  rintro e w1 ⟨rfl, hb1⟩
  simp only [World.size_alloc] at hb1
  obtain ⟨hx0, hx1, hx2, hx3⟩ := box4 hb1
  have hz := hb1.size
  simp only [World.size_alloc] at hz
  by_cases hf : formed x = true
  · go_wp2_with fail
    refine (hD.out _ B _ (by omega) (hv1.under hb1 (by omega))).mono ?_
    rintro e w2 ⟨rfl, hb2⟩
    by_cases hd : 16 < dep x
    · go_wp2_with fail
      go_ret
      exact ⟨by simp [chk, hf, hd], unbox (hb1.trans (hb2.mono (by omega)))⟩
    · go_wp2_with fail
      go_ret
      exact ⟨by simp [chk, hf, hd], unbox (hb1.trans (hb2.mono (by omega)))⟩
  · have hf' : formed x = false := by simpa using hf
    clear hf
    go_wp2_with fail
    go_ret
    exact ⟨by simp [chk, hf'], unbox hb1⟩

set_option maxHeartbeats 400000 in
theorem rcheck_any (x : GV) (hbig : big x ≤ 1000000) (w : World) (B : Nat) (v : Value) (hB : B ≤ w.heap.size) (hv : RV w B x v) : Calls Tryd.prog 53 #[v] w fun e w' => e = .returned (.int .i64 (chk x)) ∧ Below w.heap.size w w' := by
  have hW := Lib.hid (rformed_any x)
  have hD := Lib.hid (rdepth_any x hbig)
  have hde := dep_le x
  obtain ⟨a, cap, rfl, hk, hn, hs, hby, hl⟩ := hv.parts
  have hv1 := hv.alloc hB (.cells #[.int .i64 x.kind, .int .i64 x.num, .string x.str, .slice a x.els.length cap] 64)
  clear hv hl
  go_enter Tryd.func53, Tryd.ntmps53
  go_wp2_with fail
  refine (hW.out _ B _ (by simp; omega) hv1).mono ?_
  rintro e w1 ⟨rfl, hb1⟩
  simp only [World.size_alloc] at hb1
  obtain ⟨hx0, hx1, hx2, hx3⟩ := box4 hb1
  have hz := hb1.size
  simp only [World.size_alloc] at hz
  by_cases hf : formed x = true
  · go_wp2_with fail
    refine (hD.out _ B _ (by omega) (hv1.under hb1 (by omega))).mono ?_
    rintro e w2 ⟨rfl, hb2⟩
    by_cases hd : 16 < dep x
    · go_wp2_with fail
      go_ret
      exact ⟨by simp [chk, hf, hd], unbox (hb1.trans (hb2.mono (by omega)))⟩
    · go_wp2_with fail
      go_ret
      exact ⟨by simp [chk, hf, hd], unbox (hb1.trans (hb2.mono (by omega)))⟩
  · have hf' : formed x = false := by simpa using hf
    clear hf
    go_wp2_with fail
    go_ret
    exact ⟨by simp [chk, hf'], unbox hb1⟩
end Go.Proofs.YtbhpmeljmkoebaaDoor.K
