/- DiskWriteSpec: the law. -/
import Derived.Test.YtalkbccofiiojaaRv
import Derived.Test.YtalkbccofiiojaaLr
namespace Go.Proofs.Ytalkbccofiiojaa
open Go.RowKit

theorem rReadPost.yes {d : Dk} {a : Int} {w w' : World} {e : Ending} (p : rReadPost d a w e w') (h : (runB d && hasB d a) = true) :
    ∃ A c, e = .returned (.tuple #[.slice A (readL d a).length c, .int .i64 0]) ∧ RBs w' (· < w.heap.size) A (readL d a) ∧ Below w.heap.size w w' := by
  obtain ⟨hb, h'⟩ := p
  rw [h] at h'
  obtain ⟨A, c, h1, -, -, h2⟩ := h'
  exact ⟨A, c, h1, h2, hb⟩
theorem rReadPost.no {d : Dk} {a : Int} {w w' : World} {e : Ending} (p : rReadPost d a w e w') (h : (runB d && hasB d a) = false) :
    e = .returned (.tuple #[.slice none 0 0, .int .i64 40]) ∧ Below w.heap.size w w' := by
  obtain ⟨hb, h'⟩ := p
  rw [h] at h'
  exact ⟨h', hb⟩
theorem conv_none (w : World) : (convert 35 9 (.slice none 0 0)).run Try.prog w = .ok (.string ⟨#[]⟩) w :=
  conv_str (bs := []) (A := none) (c := 0) (S := fun _ => True) fun h => absurd h (Nat.lt_irrefl 0)

set_option maxRecDepth 100000 in
set_option maxHeartbeats 8000000 in
theorem writes_any (d : Dk) (a : Int) (ha : I64 a) (b : List UInt8) (w : World) (A A' Ab : Option Addr) (c c' cb : Nat) (hd : DR w (· < w.heap.size) A c A' c' d) (hbl : b.length ≤ cb ∧ cb ≤ maxLen) (hrb : RBs w (· < w.heap.size) Ab b) :
    Calls Try.prog 4 #[.agg #[.slice A d.secs.length c, .slice A' d.pend.length c', .int .i64 d.left, .bool d.stop], .int .i64 a, .slice Ab b.length cb] w fun e w' => e = .returned (.bool true) ∧ Below w.heap.size w w' := by
  have H := Lib.hid (Held.init w A A' c c' d)
  have hdh := Lib.hid hd
  have hrbh := Lib.hid hrb
  have hblh := Lib.hid (Nat.le_trans hbl.1 hbl.2)
  have hb63 : b.length ≤ 9223372036854775807 := by have := hblh.out; unfold maxLen at this; omega
  obtain ⟨x, m, hq⟩ : ∃ x m, writeD d a b = (x, m) := ⟨_, _, rfl⟩
  have hq := Lib.hid hq
  clear hd hrb hbl
  go_enter Try.func4, Try.ntmps4
  go_wp2_with fail
  refine (sane_any _).mono ?_
  rintro e w1 ⟨rfl, hb⟩
  have H := Lib.hid (H.out.step hb)
  clear hb
  obtain ⟨y0, y1, y2, y3⟩ := H.out.kb.cells
  go_wp2_with fail
  refine (Few_any d w1 A A' c c' (H.out.drw hdh.out)).mono ?_
  rintro e w2 ⟨⟨f, rfl⟩, hb⟩
  have H := Lib.hid (H.out.step hb)
  clear hb y0 y1 y2 y3
  cases f with
  | false =>
    go_wp2_with fail
    go_ret
    exact ⟨rfl, H.out.below⟩
  | true =>
    by_cases h1 : (1000 : Int) < b.length
    · go_wp2_with fail
      go_ret
      exact ⟨rfl, H.out.below⟩
    have hsb := hrbh.out.keep (Kept.below H.out.below)
    have hw := Lib.hid (Write_any d a ha b hblh.out w2 A A' Ab c c' cb (· < w2.heap.size) (fun _ h => h) (H.out.drw hdh.out) (hsb.mono fun _ h => Nat.lt_of_lt_of_le h H.out.below.size))
    clear hsb
    obtain ⟨y0, y1, y2, y3⟩ := H.out.kb.cells
    go_wp2_with fail
    clear h1
    refine hw.out.mono ?_
    intro e w3 hp
    obtain ⟨A1, c1, A1', c1', rfl, hdx, hb⟩ := hp.get hq.out
    clear hp y0 y1 y2 y3 hw
    have hdx := Lib.hid (hdx.mono (S' := (· < w3.heap.size)) fun b h => Sn.lt (fun _ h => h) hb b h)
    have H := Lib.hid (H.out.step hb)
    clear hb
    have hbn := bnew w3 (.cells #[.slice A1 x.secs.length c1, .slice A1' x.pend.length c1', .int .i64 x.left, .bool x.stop] 25)
    have H := H.out.step hbn
    have hdx := hdx.out.step hbn
    have hkx := KB.new w3 A1 A1' c1 c1' x
    clear hbn
    have y := H.kb.cells
    obtain ⟨y0, y1, y2, y3⟩ := y
    go_wp2_with fail
    clear y0 y1 y2 y3
    generalize w3.alloc (.cells #[.slice A1 x.secs.length c1, .slice A1' x.pend.length c1', .int .i64 x.left, .bool x.stop] 25) = V3 at *
    have H := Lib.hid H
    have hdx := Lib.hid hdx
    have hkx := Lib.hid hkx
    have hsb := hrbh.out.keep (Kept.below H.out.below)
    refine (rWrite_any d a ha b hblh.out V3 A A' Ab c c' cb (· < V3.heap.size) (fun _ h => h) (H.out.drw hdh.out) (hsb.mono fun _ h => Nat.lt_of_lt_of_le h H.out.below.size)).mono ?_
    clear hsb
    intro e w4 hp
    obtain ⟨A2, c2, A2', c2', rfl, hdz, hb⟩ := hp.get hq.out
    clear hp
    have hdz := Lib.hid (hdz.mono (S' := (· < w4.heap.size)) fun b h => Sn.lt (fun _ h => h) hb b h)
    have H := Lib.hid (H.out.step hb)
    have hdx := Lib.hid (hdx.out.step hb)
    have hkx := Lib.hid (hkx.out.step hb)
    clear hb
    have hbn := bnew w4 (.cells #[.slice A2 x.secs.length c2, .slice A2' x.pend.length c2', .int .i64 x.left, .bool x.stop] 25)
    have H := H.out.step hbn
    have hdx := hdx.out.step hbn
    have hkx := hkx.out.step hbn
    have hdz := hdz.out.step hbn
    have hkz := KB.new w4 A2 A2' c2 c2' x
    clear hbn
    obtain ⟨y0, y1, y2, y3⟩ := H.kb.cells
    go_wp2_with fail
    clear y0 y1 y2 y3
    generalize w4.alloc (.cells #[.slice A2 x.secs.length c2, .slice A2' x.pend.length c2', .int .i64 x.left, .bool x.stop] 25) = V4 at *
    have H := Lib.hid H
    have hdx := Lib.hid hdx
    have hkx := Lib.hid hkx
    have hdz := Lib.hid hdz
    have hkz := Lib.hid hkz
    refine (Read_any d a V4 A A' c c' (H.out.drw hdh.out)).mono ?_
    intro e w5 hp
    cases hr : runB d && hasB d a with
    | false =>
      obtain ⟨rfl, hb⟩ := hp.no hr
      have H := Lib.hid (H.out.step hb)
      have hdx := Lib.hid (hdx.out.step hb)
      have hkx := Lib.hid (hkx.out.step hb)
      have hdz := Lib.hid (hdz.out.step hb)
      have hkz := Lib.hid (hkz.out.step hb)
      clear hb hp
      obtain ⟨y0, y1, y2, y3⟩ := H.out.kb.cells
      go_wp2_with fail
      clear y0 y1 y2 y3
      refine (rRead_any d a w5 A A' c c' (H.out.drw hdh.out)).mono ?_
      intro e w6 hp
      obtain ⟨rfl, hb⟩ := hp.no hr
      have H := Lib.hid (H.out.step hb)
      have hdx := Lib.hid (hdx.out.step hb)
      have hkx := Lib.hid (hkx.out.step hb)
      have hdz := Lib.hid (hdz.out.step hb)
      have hkz := Lib.hid (hkz.out.step hb)
      clear hb hp
      obtain ⟨u0, u1, u2, u3⟩ := hkx.out.cells
      obtain ⟨v0, v1, v2, v3⟩ := hkz.out.cells
      go_wp2_with fail
      clear u0 u1 u2 u3 v0 v1 v2 v3
      refine (Same_any x w6 A1 A1' A2 A2' c1 c1' c2 c2' hdx.out hdz.out).mono ?_
      rintro e w7 ⟨rfl, hb⟩
      have H := Lib.hid (H.out.step hb)
      have hmm : (m == m) = true := by simp
      clear hb
      have ks1 := conv_none w7
      go_wp2_with fail
      go_ret
      exact ⟨rfl, H.out.below⟩
    | true =>
      obtain ⟨g0, rfl, -, hG, hb⟩ := hp.yes hr rfl
      have hl := Lib.hid (readL_length (runB_iff.1 (hasP hr).1).1 (hasP hr).2)
      have hG := hG.reads
      have hG := Lib.hid hG
      have H := Lib.hid (H.out.step hb)
      have hdx := Lib.hid (hdx.out.step hb)
      have hkx := Lib.hid (hkx.out.step hb)
      have hdz := Lib.hid (hdz.out.step hb)
      have hkz := Lib.hid (hkz.out.step hb)
      clear hb hp
      obtain ⟨y0, y1, y2, y3⟩ := H.out.kb.cells
      go_wp2_with fail
      clear y0 y1 y2 y3
      refine (rRead_any d a w5 A A' c c' (H.out.drw hdh.out)).mono ?_
      intro e w6 hp
      obtain ⟨A5, c5, rfl, hG5, hb⟩ := hp.yes hr
      have hG5 := Lib.hid (hG5.mono (S' := (· < w6.heap.size)) fun _ h => Nat.lt_of_lt_of_le h hb.size)
      have hG := Lib.hid ((hG.out.keep (Kept.below hb)).mono (S' := (· < w6.heap.size)) fun _ h => Nat.lt_of_lt_of_le h hb.size)
      have H := Lib.hid (H.out.step hb)
      have hdx := Lib.hid (hdx.out.step hb)
      have hkx := Lib.hid (hkx.out.step hb)
      have hdz := Lib.hid (hdz.out.step hb)
      have hkz := Lib.hid (hkz.out.step hb)
      clear hb hp
      obtain ⟨u0, u1, u2, u3⟩ := hkx.out.cells
      obtain ⟨v0, v1, v2, v3⟩ := hkz.out.cells
      go_wp2_with fail
      clear u0 u1 u2 u3 v0 v1 v2 v3
      refine (Same_any x w6 A1 A1' A2 A2' c1 c1' c2 c2' hdx.out hdz.out).mono ?_
      rintro e w7 ⟨rfl, hb⟩
      have H := Lib.hid (H.out.step hb)
      have hmm : (m == m) = true := by simp
      have ks1 := conv_str (c := 128) (hG.out.keep (Kept.below hb))
      rw [hl.out] at ks1
      have ks2 := conv_str (c := c5) (hG5.out.keep (Kept.below hb))
      clear hb
      go_wp2_with fail
      go_ret
      exact ⟨rfl, H.out.below⟩
end Go.Proofs.Ytalkbccofiiojaa
