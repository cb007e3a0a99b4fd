/- slices.Grow and slices.Concat over packets: contracts. -/
import Derived.Test.YtpmmahlmfcbbbaaNe
import Derived.Test.YtpmmahlmfcbbbaaAr
import Derived.Lib.AppendZerosOnto
import Derived.Lib.Walk
import Derived.Lib.SliceRun
namespace Go.Proofs.Ytpmmahlmfcbbbaa
open Go.RowKit

theorem Try.infoP : (Try.prog.info? 28).map (fun i => (i.zero, i.size, i.bytes)) = some (some (.agg #[.int .i64 0, .int .i64 0, .slice none 0 0]), 3, 40) := by kernel_rfl

set_option maxRecDepth 100000 in
set_option maxHeartbeats 2000000 in
theorem GrowP_any (n : Nat) (h0 : 0 < n) (hn : n ≤ 100000) (w : World) :
    Calls Try.prog 51 #[.slice none 0 0, .int .i64 n] w fun e w' => ∃ c, e = .returned (.slice (some ⟨w.heap.size, 0, none⟩) 0 c) ∧ w'.ownsRow w.heap.size 28 3 (.slice (some ⟨w.heap.size, 0, none⟩) 0 c) 0 [] ∧ Below w.heap.size w w' := by
  obtain ⟨i0, hi0, hz0, hz1, hz2⟩ := info_parts Try.infoP
  have hge : n ≤ grownCap w n 0 28 := grownCap_ge w _ _ _
  have hcm : grownCap w n 0 28 ≤ maxLen := grownCap_le_maxLen w n 0 _ (by unfold maxLen; omega)
  have hrz : ∀ ty, (Builtin.append_ #[22, 3] ty #[.slice none 0 0, .int .i64 (n : Int)]).run Try.prog w = .ok (.slice (some ⟨w.heap.size, 0, none⟩) n (grownCap w n 0 28)) (w.drew.alloc (.cells (#[] ++ Builtin.zeroCells #[.int .i64 0, .int .i64 0, .slice none 0 0] n ++ Builtin.zeroCells #[.int .i64 0, .int .i64 0, .slice none 0 0] (grownCap w n 0 28 - n)) 28)) := fun ty => by
    have h := Lib.run_append_grow_zeros w 22 3 ty 28 i0 _ .i64 .i64 Try.underlying22 Try.underlying3 hi0 hz0 none 0 0 [] (run_firstCells_none w.drew i0.size 0 0 0) n h0 (by rw [hz1]; decide) (by omega) (by omega) (by rw [hz2]; omega) (by rw [hz2, Nat.zero_add]; exact growslice_fits (by omega) (by omega))
    rw [show (Value.agg #[.int .i64 0, .int .i64 0, .slice none 0 0]).cells = #[.int .i64 0, .int .i64 0, .slice none 0 0] from rfl] at h
    simpa using h
  obtain ⟨G, hG⟩ : ∃ G, G = grownCap w n 0 28 := ⟨_, rfl⟩
  rw [← hG] at hrz hge hcm
  have hcm' := hcm
  unfold maxLen at hcm'
  have hrz' := Lib.hid hrz
  clear hG hrz hi0 hz0
  go_enter Try.func51, Try.ntmps51
  go_wp2_with (at_builtin; refine Lib.wpList_append_run _ rfl _ _ _ _ rfl _ _ rfl rfl _ _ (hrz'.out _) ?_)
  go_ret
  refine ⟨G, rfl, ⟨rfl, .inr ⟨w.heap.size, G, _, rfl, Nat.le_refl _, heap_alloc_new w.drew _, Nat.zero_le _, hcm, ?_, by simp⟩⟩, unD (bnew w.drew _)⟩
  simp only [Array.size_append, size_zeroCells, List.size_toArray, List.length_cons, List.length_nil]
  omega

theorem row_formP {w : World} {B n : Nat} {v : Value} {xs : List Value} (h : w.ownsRow B 28 3 v n xs) : ∃ A c, v = .slice A n c := by
  rcases h.2 with ⟨rfl, rfl⟩ | ⟨g, cap, cur, rfl, -⟩
  · exact ⟨_, _, rfl⟩
  · exact ⟨_, _, rfl⟩
theorem row_belowP {w w' : World} {B n : Nat} {v : Value} {xs : List Value} (h : w.ownsRow B 28 3 v n xs) (hb : Below w.heap.size w w') : w'.ownsRow B 28 3 v n xs :=
  World.ownsRow.kept (row := none) h ⟨hb.os, hb.tape, hb.output, hb.size, fun k hk _ => hb.block k hk⟩ (by cases v.ownBlock <;> simp)

/-- append of records that lie somewhere, onto a row of the call's own. -/
theorem append_pks (w : World) (B : Nat) (ty : TypeId) (v : Value) (n : Nat) (xs : List Value) (hown : w.ownsRow B 28 3 v n xs) (A : Option Addr) (m c : Nat) (news : List Value) (hl : news.length = m * 3)
    (hA : 0 < news.length → ∃ ad, A = some ad ∧ ∀ j u, news[j]? = some u → w.cell? (ad.add j) = some u) (h1 : ∀ u ∈ news, u.oneCell' = true) (hlen : n + m ≤ 1000000) (hB : B ≤ w.heap.size) :
    ∃ v' w', (Builtin.append_ #[22, 22] ty #[v, .slice A m c]).run Try.prog w = .ok v' w' ∧ w'.ownsRow B 28 3 v' (n + m) (xs ++ news) ∧ Below B w w' := by
  obtain ⟨i0, hi0, hz0, hz1, hz2⟩ := info_parts Try.infoP
  obtain ⟨v', w', hr, ho, hg, -⟩ := run_append_src_row (P := Try.prog) w B 22 22 ty 28 i0 _ 3 40 Try.underlying22 hi0 hz0 hz1 hz2 rfl v n xs hown (.slice A m c) m news (Src.ofRow Try.underlying22 w A m c news hl (by decide) hA h1) (by omega) (by omega) hB
  exact ⟨v', w', hr, ho, (Below.refl B w).grown hg hB fun k hk => (World.ownsRow.lt hown k hk).1⟩

set_option maxRecDepth 100000 in
set_option maxHeartbeats 2000000 in
theorem ConcatP_any (n : Nat) (hn : n ≤ 4096) (w : World) (Gb G2 : Nat) (A : Option Addr) (c : Nat) (xs ys : List Value) (hx : xs.length = n * 3) (hy : ys.length = 3)
    (hc0 : w.cell? ⟨Gb, 0, none⟩ = some (.slice A n c)) (hc1 : w.cell? ⟨Gb, 1, none⟩ = some (.slice (some ⟨G2, 0, none⟩) 1 1))
    (hxs : 0 < xs.length → ∃ ad, A = some ad ∧ ∀ j u, xs[j]? = some u → w.cell? (ad.add j) = some u) (hys : ∀ j u, ys[j]? = some u → w.cell? ((⟨G2, 0, none⟩ : Addr).add j) = some u) (h1 : ∀ u ∈ xs, u.oneCell' = true) (h2 : ∀ u ∈ ys, u.oneCell' = true) :
    Calls Try.prog 44 #[.slice (some ⟨Gb, 0, none⟩) 2 2] w fun e w' => ∃ v, e = .returned v ∧ w'.ownsRow w.heap.size 28 3 v (n + 1) (xs ++ ys) ∧ Below w.heap.size w w' := by
  have hGl := World.block_lt_of_cell? w _ hc0
  have keep : Hid (∀ W, Below w.heap.size w W → (W.cell? ⟨Gb, 0, none⟩ = some (.slice A n c) ∧ W.cell? ⟨Gb, 1, none⟩ = some (.slice (some ⟨G2, 0, none⟩) 1 1)) ∧ (0 < xs.length → ∃ ad, A = some ad ∧ ∀ j u, xs[j]? = some u → W.cell? (ad.add j) = some u) ∧ (∀ j u, ys[j]? = some u → W.cell? ((⟨G2, 0, none⟩ : Addr).add j) = some u)) := fun W hW =>
    ⟨⟨(hW.cell (p := ⟨Gb, 0, none⟩) hGl).trans hc0, (hW.cell (p := ⟨Gb, 1, none⟩) hGl).trans hc1⟩, fun h => by
      obtain ⟨ad, e, hc⟩ := hxs h
      exact ⟨ad, e, fun j u hu => (hW.cell (World.block_lt_of_cell? w _ (hc j u hu))).trans (hc j u hu)⟩,
      fun j u hu => (hW.cell (World.block_lt_of_cell? w _ (hys j u hu))).trans (hys j u hu)⟩
  have hx' := Lib.hid hx
  have hy' := Lib.hid hy
  have h1' := Lib.hid h1
  have h2' := Lib.hid h2
  have hw1 : IntKind.i64.wrap ((n : Int) + 1) = n + 1 := IntWalk.i64_in _ (by omega)
  have j0 : (0 : Int) ≤ n := by omega
  have j1 : (n : Int) ≤ 4096 := by omega
  clear hx hy h1 h2 hxs hys
  go_enter Try.func44, Try.ntmps44
  go_wp2_with fail
  go_loopw [3, 5, 11] (fun sz _ i wr => wr = w ∧ ((i = .int .i64 0 ∧ sz = .int .i64 0) ∨ (i = .int .i64 1 ∧ sz = .int .i64 n) ∨ (i = .int .i64 2 ∧ sz = .int .i64 ((n : Int) + 1)))) (fun _ _ i _ => 3 - (intOf i).toNat)
  case atStart => exact ⟨rfl, .inl ⟨rfl, rfl⟩⟩
  case round =>
    obtain ⟨rfl, ⟨rfl, rfl⟩ | ⟨rfl, rfl⟩ | ⟨rfl, rfl⟩⟩ := hrel
    · go_wp2_with fail
      go_roundw
      case rel => exact ⟨by trivial, .inr (.inl ⟨rfl, by go_num⟩)⟩
      case measure => simp [intOf]
    · go_wp2_with fail
      go_roundw
      case rel => exact ⟨by trivial, .inr (.inr ⟨rfl, by go_num⟩)⟩
      case measure => simp [intOf]
    · go_wp2_with fail
      have hg := GrowP_any (n + 1) (by omega) (by omega) wr
      rw [show ((n + 1 : Nat) : Int) = (n : Int) + 1 by omega] at hg
      refine hg.mono ?_
      rintro e w1 ⟨c1, rfl, ho, hb⟩
      have ho' := Lib.hid ho
      have hb' := Lib.hid hb
      clear hg ho hb hc0 hc1
      go_wp2_with fail
      obtain ⟨w0, hw0⟩ : ∃ w0, w0 = wr := ⟨_, rfl⟩
      subst hw0
      go_loopw [6, 8, 27] (fun v _ i wr => ((i = .int .i64 0 ∧ Hid (wr.ownsRow w0.heap.size 28 3 v 0 [])) ∨ (i = .int .i64 1 ∧ Hid (wr.ownsRow w0.heap.size 28 3 v n xs)) ∨ (i = .int .i64 2 ∧ Hid (wr.ownsRow w0.heap.size 28 3 v (n + 1) (xs ++ ys)))) ∧ Below w0.heap.size w0 wr) (fun _ _ i _ => 3 - (intOf i).toNat)
      case atStart => exact ⟨.inl ⟨rfl, ho'.out⟩, hb'.out⟩
      case round =>
        obtain ⟨⟨rfl, hov⟩ | ⟨rfl, hov⟩ | ⟨rfl, hov⟩, hbq⟩ := hrel
        · obtain ⟨⟨d0, d1⟩, d2, d3⟩ := keep.out _ hbq
          obtain ⟨Av, cv, rfl⟩ := row_formP hov.out
          obtain ⟨v', w', hr, ho2, hb2⟩ := append_pks wr w0.heap.size 22 _ 0 [] hov.out A n c xs hx'.out d2 h1'.out (by omega) hbq.size
          rw [Nat.zero_add, List.nil_append] at ho2
          have hr' := Lib.hid hr
          have ho2' := Lib.hid ho2
          clear d2 d3 hr ho2 hov
          go_wp2_with (at_builtin; refine Lib.wpList_append_run _ rfl _ _ _ _ rfl _ _ rfl rfl _ _ hr'.out ?_)
          go_roundw
          case rel => exact ⟨.inr (.inl ⟨by trivial, ho2'.out⟩), hbq.trans hb2⟩
          case measure => simp [intOf]
        · obtain ⟨⟨d0, d1⟩, d2, d3⟩ := keep.out _ hbq
          obtain ⟨Av, cv, rfl⟩ := row_formP hov.out
          obtain ⟨v', w', hr, ho2, hb2⟩ := append_pks wr w0.heap.size 22 _ n xs hov.out (some ⟨G2, 0, none⟩) 1 1 ys hy'.out (fun _ => ⟨_, rfl, d3⟩) h2'.out (by omega) hbq.size
          have hr' := Lib.hid hr
          have ho2' := Lib.hid ho2
          clear d2 d3 hr ho2 hov
          go_wp2_with (at_builtin; refine Lib.wpList_append_run _ rfl _ _ _ _ rfl _ _ rfl rfl _ _ hr'.out ?_)
          go_roundw
          case rel => exact ⟨.inr (.inr ⟨by trivial, ho2'.out⟩), hbq.trans hb2⟩
          case measure => simp [intOf]
        · obtain ⟨Av, cv, rfl⟩ := row_formP hov.out
          have hov' := Lib.hid hov.out
          go_wp2_with fail
          go_ret
          exact ⟨_, rfl, hov'.out, hbq⟩
end Go.Proofs.Ytpmmahlmfcbbbaa
