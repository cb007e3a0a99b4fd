/- DiskSyncSpec: the law. -/
import Derived.Test.YtalkbccofiiojaaRy
import Derived.Test.YtalkbccofiiojaaLr
namespace Go.Proofs.Ytalkbccofiiojaa
open Go.RowKit

set_option maxRecDepth 100000 in
set_option maxHeartbeats 8000000 in
theorem syncs_any (d : Dk) (l : Int) (hl : I64 l) (w : World) (A A' : Option Addr) (c c' : Nat) (hd : DR w (· < w.heap.size) A c A' c' d) :
    Calls Try.prog 5 #[.agg #[.slice A d.secs.length c, .slice A' d.pend.length c', .int .i64 d.left, .bool d.stop], .int .i64 l] w fun e w' => e = .returned (.bool true) ∧ Below w.heap.size w w' := by
  have H := Lib.hid (Held.init w A A' c c' d)
  have hdh := Lib.hid hd
  have hlh := Lib.hid hl
  clear hd hl
  obtain ⟨x, m, hq⟩ : ∃ x m, syncD d = (x, m) := ⟨_, _, rfl⟩
  have hq := Lib.hid hq
  obtain ⟨u, k, hu⟩ : ∃ x m, stopD d l = (x, m) := ⟨_, _, rfl⟩
  have hu := Lib.hid hu
  go_enter Try.func5, Try.ntmps5
  go_wp2_with fail
  refine (sane_any _).mono ?_
  rintro e w1 ⟨rfl, hb⟩
  have H := Lib.hid (H.out.step hb)
  clear hb
  obtain ⟨y0, y1, y2, y3⟩ := H.out.kb.cells
  go_wp2_with fail
  refine (Few_any d w1 A A' c c' (H.out.drw hdh.out)).mono ?_
  rintro e w2 ⟨⟨f, rfl⟩, hb⟩
  have H := Lib.hid (H.out.step hb)
  clear hb y0 y1 y2 y3
  cases f with
  | false =>
    go_wp2_with fail
    go_ret
    exact ⟨rfl, H.out.below⟩
  | true =>
    obtain ⟨y0, y1, y2, y3⟩ := H.out.kb.cells
    --M
    go_wp2_with fail
    clear y0 y1 y2 y3
    refine (Sync_any d w2 A A' c c' (· < w2.heap.size) (fun _ h => h) (H.out.drw hdh.out)).mono ?_
    intro e w3 hp
    obtain ⟨A1, c1, A1', c1', rfl, hd1, hb⟩ := hp.get hq.out
    clear hp
    have hd1 := hd1.mono (S' := (· < w3.heap.size)) fun b h => Sn.lt (fun _ h => h) hb b h
    have H := H.out.step hb
    clear hb
    have hbn := bnew w3 (.cells #[.slice A1 x.secs.length c1, .slice A1' x.pend.length c1', .int .i64 x.left, .bool x.stop] 25)
    have H := H.step hbn
    have hd1 := hd1.step hbn
    have hk1 := KB.new w3 A1 A1' c1 c1' x
    clear hbn
    have y := H.kb.cells
    obtain ⟨y0, y1, y2, y3⟩ := y
    --M
    go_wp2_with fail
    clear y0 y1 y2 y3
    generalize w3.alloc (.cells #[.slice A1 x.secs.length c1, .slice A1' x.pend.length c1', .int .i64 x.left, .bool x.stop] 25) = V3 at *
    have H := Lib.hid H
    have hd1 := Lib.hid hd1
    have hk1 := Lib.hid hk1
    refine (rSync_any d V3 A A' c c' (· < V3.heap.size) (fun _ h => h) (H.out.drw hdh.out)).mono ?_
    intro e w4 hp
    obtain ⟨A2, c2, A2', c2', rfl, hd2, hb⟩ := hp.get hq.out
    clear hp
    have hd2 := hd2.mono (S' := (· < w4.heap.size)) fun b h => Sn.lt (fun _ h => h) hb b h
    have H := H.out.step hb
    have hd1 := hd1.out.step hb
    have hk1 := hk1.out.step hb
    clear hb
    have hbn := bnew w4 (.cells #[.slice A2 x.secs.length c2, .slice A2' x.pend.length c2', .int .i64 x.left, .bool x.stop] 25)
    have H := H.step hbn
    have hd2 := hd2.step hbn
    have hk2 := KB.new w4 A2 A2' c2 c2' x
    have hd1 := hd1.step hbn
    have hk1 := hk1.step hbn
    clear hbn
    have y := H.kb.cells
    obtain ⟨y0, y1, y2, y3⟩ := y
    --M
    go_wp2_with fail
    clear y0 y1 y2 y3
    generalize w4.alloc (.cells #[.slice A2 x.secs.length c2, .slice A2' x.pend.length c2', .int .i64 x.left, .bool x.stop] 25) = V4 at *
    have H := Lib.hid H
    have hd1 := Lib.hid hd1
    have hk1 := Lib.hid hk1
    have hd2 := Lib.hid hd2
    have hk2 := Lib.hid hk2
    refine (Stop_any d l hlh.out V4 A A' c c' (· < V4.heap.size) (fun _ h => h) (H.out.drw hdh.out)).mono ?_
    intro e w5 hp
    obtain ⟨A3, c3, A3', c3', rfl, hd3, hb⟩ := hp.get hu.out
    clear hp
    have hd3 := hd3.mono (S' := (· < w5.heap.size)) fun b h => Sn.lt (fun _ h => h) hb b h
    have H := H.out.step hb
    have hd1 := hd1.out.step hb
    have hk1 := hk1.out.step hb
    have hd2 := hd2.out.step hb
    have hk2 := hk2.out.step hb
    clear hb
    have hbn := bnew w5 (.cells #[.slice A3 u.secs.length c3, .slice A3' u.pend.length c3', .int .i64 u.left, .bool u.stop] 25)
    have H := H.step hbn
    have hd3 := hd3.step hbn
    have hk3 := KB.new w5 A3 A3' c3 c3' u
    have hd1 := hd1.step hbn
    have hk1 := hk1.step hbn
    have hd2 := hd2.step hbn
    have hk2 := hk2.step hbn
    clear hbn
    have y := H.kb.cells
    obtain ⟨y0, y1, y2, y3⟩ := y
    --M
    go_wp2_with fail
    clear y0 y1 y2 y3
    generalize w5.alloc (.cells #[.slice A3 u.secs.length c3, .slice A3' u.pend.length c3', .int .i64 u.left, .bool u.stop] 25) = V5 at *
    have H := Lib.hid H
    have hd1 := Lib.hid hd1
    have hk1 := Lib.hid hk1
    have hd2 := Lib.hid hd2
    have hk2 := Lib.hid hk2
    have hd3 := Lib.hid hd3
    have hk3 := Lib.hid hk3
    refine (rStop_any d l hlh.out V5 A A' c c' (· < V5.heap.size) (fun _ h => h) (H.out.drw hdh.out)).mono ?_
    intro e w6 hp
    obtain ⟨A4, c4, A4', c4', rfl, hd4, hb⟩ := hp.get hu.out
    clear hp
    have hd4 := hd4.mono (S' := (· < w6.heap.size)) fun b h => Sn.lt (fun _ h => h) hb b h
    have H := H.out.step hb
    have hd1 := hd1.out.step hb
    have hk1 := hk1.out.step hb
    have hd2 := hd2.out.step hb
    have hk2 := hk2.out.step hb
    have hd3 := hd3.out.step hb
    have hk3 := hk3.out.step hb
    clear hb
    have hbn := bnew w6 (.cells #[.slice A4 u.secs.length c4, .slice A4' u.pend.length c4', .int .i64 u.left, .bool u.stop] 25)
    have H := H.step hbn
    have hd4 := hd4.step hbn
    have hk4 := KB.new w6 A4 A4' c4 c4' u
    have hd1 := hd1.step hbn
    have hk1 := hk1.step hbn
    have hd2 := hd2.step hbn
    have hk2 := hk2.step hbn
    have hd3 := hd3.step hbn
    have hk3 := hk3.step hbn
    clear hbn
    have y := H.kb.cells
    obtain ⟨y0, y1, y2, y3⟩ := y
    clear y0 y1 y2 y3
    obtain ⟨p0, p1, p2, p3⟩ := hk1.cells
    obtain ⟨q0, q1, q2, q3⟩ := hk2.cells
    --M
    go_wp2_with fail
    clear p0 p1 p2 p3 q0 q1 q2 q3
    generalize w6.alloc (.cells #[.slice A4 u.secs.length c4, .slice A4' u.pend.length c4', .int .i64 u.left, .bool u.stop] 25) = V6 at *
    have H := Lib.hid H
    have hd1 := Lib.hid hd1
    have hk1 := Lib.hid hk1
    have hd2 := Lib.hid hd2
    have hk2 := Lib.hid hk2
    have hd3 := Lib.hid hd3
    have hk3 := Lib.hid hk3
    have hd4 := Lib.hid hd4
    have hk4 := Lib.hid hk4
    refine (Same_any x V6 A1 A1' A2 A2' c1 c1' c2 c2' hd1.out hd2.out).mono ?_
    rintro e w7 ⟨rfl, hb⟩
    have H := Lib.hid (H.out.step hb)
    have hd3 := Lib.hid (hd3.out.step hb)
    have hk3 := Lib.hid (hk3.out.step hb)
    have hd4 := Lib.hid (hd4.out.step hb)
    have hk4 := Lib.hid (hk4.out.step hb)
    have hmm : (m == m) = true := by simp
    clear hb
    obtain ⟨p0, p1, p2, p3⟩ := hk3.out.cells
    obtain ⟨q0, q1, q2, q3⟩ := hk4.out.cells
    --M
    go_wp2_with fail
    clear p0 p1 p2 p3 q0 q1 q2 q3
    refine (Same_any u w7 A3 A3' A4 A4' c3 c3' c4 c4' hd3.out hd4.out).mono ?_
    rintro e w8 ⟨rfl, hb⟩
    have H := Lib.hid (H.out.step hb)
    have hkk : (k == k) = true := by simp
    clear hb
    --M
    go_wp2_with fail
    go_ret
    exact ⟨rfl, H.out.below⟩
end Go.Proofs.Ytalkbccofiiojaa
