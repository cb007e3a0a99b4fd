/- Sectors of the call's own; perform, torn: contracts. -/
import Derived.Test.YtalkbccofiiojaaNw
import Derived.Test.YtalkbccofiiojaaSt
import Derived.Deep.RegionHeld3
import Derived.Laws.Rows
namespace Go.Proofs.Ytalkbccofiiojaa
open Go.RowKit

/-- Sectors in a block of the call's own; S: where they may lie beside new blocks. -/
def OS (w : World) (S : Nat → Prop) (g : Nat) (ls : List (List UInt8)) : Prop :=
  ∃ cs : Array Value, w.heap[g]? = some (.cells cs 35 (0, 0)) ∧ cs.size = ls.length ∧ ∀ i (h : i < ls.length), ∃ v, cs[i]? = some v ∧ Row w (fun b => (S b ∨ g < b) ∧ b < w.heap.size) v ls[i]
theorem OS.lt {w : World} {S : Nat → Prop} {g : Nat} {ls : List (List UInt8)} (h : OS w S g ls) : g < w.heap.size := by
  obtain ⟨cs, h, -⟩ := h
  exact (Array.getElem?_eq_some_iff.1 h).1
theorem OS.step {w w' : World} {S : Nat → Prop} {g : Nat} {ls : List (List UInt8)} (h : OS w S g ls) (hb : Below w.heap.size w w') : OS w' S g ls := by
  have hg := h.lt
  obtain ⟨cs, h1, h2, h3⟩ := h
  refine ⟨cs, (hb.block g hg).trans h1, h2, fun i hi => ?_⟩
  obtain ⟨v, hv, hr⟩ := h3 i hi
  exact ⟨v, hv, (hr.keep (fun b o hS => hb.cell (p := ⟨b, o, none⟩) hS.2)).mono fun b hS => ⟨hS.1, Nat.lt_of_lt_of_le hS.2 hb.size⟩⟩
theorem OS.sr {w : World} {S : Nat → Prop} {g : Nat} {ls : List (List UInt8)} (h : OS w S g ls) : SR w (fun b => S b ∨ (g ≤ b ∧ b < w.heap.size)) (some ⟨g, 0, none⟩) ls := fun _ => by
  have hg := h.lt
  obtain ⟨cs, h1, h2, h3⟩ := h
  refine ⟨g, 0, rfl, .inr ⟨Nat.le_refl _, hg⟩, fun i hi => ?_⟩
  obtain ⟨v, hv, hr⟩ := h3 i hi
  exact ⟨v, by rw [Nat.zero_add, cell_of_row w g i cs _ _ h1]; exact hv, hr.mono fun b hS => hS.1.elim .inl fun h => .inr ⟨Nat.le_of_lt h, hS.2⟩⟩
theorem OS.frozen {w : World} {S : Nat → Prop} {g : Nat} {ls : List (List UInt8)} (h : OS w S g ls) (i : Nat) : w.frozen? ⟨g, i, none⟩ = false := by
  obtain ⟨cs, h1, -⟩ := h
  exact frozen_of_row w g i _ _ h1
theorem OS.cell {w : World} {S : Nat → Prop} {g : Nat} {ls : List (List UInt8)} (h : OS w S g ls) {i : Nat} (hi : i < ls.length) : ∃ A c, w.cell? ⟨g, i, none⟩ = some (.slice A ls[i].length c) ∧ ls[i].length ≤ c ∧ c ≤ maxLen ∧ RBs w (fun b => (S b ∨ g < b) ∧ b < w.heap.size) A ls[i] := by
  obtain ⟨cs, h1, h2, h3⟩ := h
  obtain ⟨v, hv, A, c, rfl, q1, q2, q3⟩ := h3 i hi
  exact ⟨A, c, by rw [cell_of_row w g i cs _ _ h1]; exact hv, q1, q2, q3⟩
theorem kept_set (w : World) (S : Nat → Prop) (g i : Nat) (hB : ∀ b, S b → b < g) (v : Value) : Kept (fun b => (S b ∨ g < b) ∧ b < w.heap.size) w (w.setCell ⟨g, i, none⟩ v) := fun b _ hS =>
  World.cell?_of_block (heap_setCell_other w ⟨g, i, none⟩ b v (hS.1.elim (fun h => Nat.ne_of_lt (hB b h)) (fun h => Nat.ne_of_gt h)))
theorem OS.set {w : World} {S : Nat → Prop} {g : Nat} {ls : List (List UInt8)} (h : OS w S g ls) (hB : ∀ b, S b → b < g) {i : Nat} {v : Value} {l : List UInt8} (hv : Row w (fun b => (S b ∨ g < b) ∧ b < w.heap.size) v l) : OS (w.setCell ⟨g, i, none⟩ v) S g (ls.set i l) := by
  obtain ⟨cs, h1, h2, h3⟩ := h
  refine ⟨_, heap_setCell_same w g i cs _ v h1, by simpa using h2, fun j hj => ?_⟩
  rw [List.length_set] at hj
  have hm : ∀ {u : Value} {m : List UInt8}, Row w (fun b => (S b ∨ g < b) ∧ b < w.heap.size) u m → Row (w.setCell ⟨g, i, none⟩ v) (fun b => (S b ∨ g < b) ∧ b < (w.setCell ⟨g, i, none⟩ v).heap.size) u m := fun hr =>
    (hr.keep (kept_set w S g i hB v)).mono fun b hS => ⟨hS.1, by simpa using hS.2⟩
  by_cases hij : i = j
  · subst hij
    exact ⟨v, by simp [h2, hj], by rw [List.getElem_set_self]; exact hm hv⟩
  · obtain ⟨u, hu, hr⟩ := h3 j hj
    exact ⟨u, by rw [Array.getElem?_setIfInBounds_ne hij]; exact hu, by rw [List.getElem_set_ne hij]; exact hm hr⟩
/-- A step that turns one block, which holds nothing of it. -/
theorem OS.other {w w' : World} {S : Nat → Prop} {g x : Nat} {ls : List (List UInt8)} (h : OS w S g ls) (hg : w.grownBy w' (some x)) (h1 : ∀ b, S b → b < x) (h2 : x < g) : OS w' S g ls := by
  have hl := h.lt
  obtain ⟨cs, h3, h4, h5⟩ := h
  refine ⟨cs, (hg.block g hl (fun e => by injection e with e; omega)).trans h3, h4, fun i hi => ?_⟩
  obtain ⟨v, hv, hr⟩ := h5 i hi
  refine ⟨v, hv, (hr.keep (fun b o hS => World.cell?_of_block (hg.block b hS.2 (fun e => ?_)))).mono fun b hS => ⟨hS.1, Nat.lt_of_lt_of_le hS.2 hg.size⟩⟩
  injection e with e
  rcases hS.1 with h | h
  · have := h1 b h; omega
  · omega
theorem OS.cell1 {w : World} {S : Nat → Prop} {g x : Nat} {ls : List (List UInt8)} (h : OS w S g ls) (o : Nat) (v : Value) (h1 : ∀ b, S b → b < x) (h2 : x < g) : OS (w.setCell ⟨x, o, none⟩ v) S g ls :=
  h.other ⟨rfl, rfl, rfl, by simp, fun k _ hk => heap_setCell_other w ⟨x, o, none⟩ k v (fun e => hk (by rw [e]))⟩ h1 h2
theorem SR.vals {w : World} {S : Nat → Prop} {A : Option Addr} {ls : List (List UInt8)} (h : SR w S A ls) :
    ∃ Vs : List Value, Vs.length = ls.length ∧ (∀ i (h : i < ls.length), ∃ v, Vs[i]? = some v ∧ Row w S v ls[i]) ∧ (0 < ls.length → ∃ ad, A = some ad ∧ ∀ j v, Vs[j]? = some v → w.cell? (ad.add j) = some v) ∧ ∀ v ∈ Vs, v.oneCell' = true := by
  by_cases hp : 0 < ls.length
  case neg =>
    have : ls = [] := List.eq_nil_of_length_eq_zero (by omega)
    subst this
    exact ⟨[], rfl, fun i hi => absurd hi (by simp), fun h => absurd h hp, fun v hv => by simp at hv⟩
  obtain ⟨b, off, e, hs, hc⟩ := h hp
  have hx : ∀ k : Fin ls.length, ∃ v, w.cell? ⟨b, off + k.1, none⟩ = some v ∧ Row w S v ls[k.1] := fun k => hc k.1 k.2
  refine ⟨List.ofFn fun k => Classical.choose (hx k), by simp, fun i hi => ?_, fun _ => ⟨_, e, fun j v hv => ?_⟩, fun v hv => ?_⟩
  · exact ⟨Classical.choose (hx ⟨i, hi⟩), by simp [hi], (Classical.choose_spec (hx ⟨i, hi⟩)).2⟩
  · rw [List.getElem?_ofFn] at hv
    split at hv
    · rename_i hj
      injection hv with hv
      subst hv
      rw [add_none]
      exact (Classical.choose_spec (hx ⟨j, hj⟩)).1
    · cases hv
  · rw [List.mem_ofFn] at hv
    obtain ⟨k, rfl⟩ := hv
    obtain ⟨A1, c1, e1, -⟩ := (Classical.choose_spec (hx k)).2
    rw [e1]; rfl

theorem Try.infoB : (Try.prog.info? 35).map (fun i => (i.zero, i.size, i.bytes)) = some (some (.slice none 0 0), 1, 24) := by kernel_rfl
theorem make_secs (n : Nat) (h : n ≤ 4096) (W : World) : (Instr.makeSlice 22 (.int .i64 (n : Int)) (.int .i64 (n : Int))).run Try.prog W = .ok (.slice (some ⟨W.heap.size, 0, none⟩) n n) (W.alloc (.cells (List.replicate n (Value.slice none 0 0)).toArray 35)) := by
  obtain ⟨i0, hi0, hz0, hz1, hz2⟩ := info_parts Try.infoB
  have h := run_make (P := Try.prog) W 22 35 i0 (.slice none 0 0) Try.underlying22 hi0 hz0 .i64 .i64 n n (by omega) (by omega) (by rw [hz2]; omega) (by omega)
  have e : madeCells (Value.slice none 0 0).cells (Int.toNat (n : Int) * 1) = (List.replicate n (Value.slice none 0 0)).toArray := by
    rw [show (Value.slice none 0 0).cells = #[.slice none 0 0] from rfl]
    apply Array.toList_inj.1
    rw [toList_madeCells_one]
    simp
  rw [hz1, e] at h
  simpa using h

theorem applyW_length (ls : List (List UInt8)) (ps : List Wr) : (applyW ls ps).length = ls.length := by
  unfold applyW
  induction ps generalizing ls with
  | nil => rfl
  | cons x r ih => rw [List.foldl_cons, ih]; simp
theorem applyW_take (ls : List (List UInt8)) (ps : List Wr) (k : Nat) (h : k < ps.length) : applyW ls (ps.take (k + 1)) = (applyW ls (ps.take k)).set ps[k].pl.toNat ps[k].data := by
  rw [List.take_succ_eq_append_getElem h]
  unfold applyW
  rw [List.foldl_append]
  rfl

theorem applyW_128 (ls : List (List UInt8)) (ps : List Wr) (h : ∀ s ∈ ls, s.length = 128) (hp : ∀ x ∈ ps, x.data.length = 128) : ∀ s ∈ applyW ls ps, s.length = 128 := by
  unfold applyW
  induction ps generalizing ls with
  | nil => exact h
  | cons x r ih =>
    rw [List.foldl_cons]
    refine ih _ (fun s hs => ?_) fun y hy => hp y (by simp [hy])
    rcases List.mem_or_eq_of_mem_set hs with hs | rfl
    · exact h s hs
    · exact hp x (by simp)
theorem splice_all {α : Type} (L cs : List α) (h : cs.length = L.length) : splice L 0 cs = cs := by
  unfold splice; rw [h, Nat.zero_add, List.drop_length]; simp

set_option maxRecDepth 100000 in
set_option maxHeartbeats 2000000 in
theorem perform_any (ls : List (List UInt8)) (ps : List Wr) (hl : ls.length ≤ 4096) (hp : ps.length ≤ 4096) (hps : ∀ x ∈ ps, (0 ≤ x.pl ∧ x.pl < (ls.length : Int)) ∧ x.data.length = 128) (w : World) (A A' : Option Addr) (c c' : Nat) (S : Nat → Prop) (hBw : ∀ b, S b → b < w.heap.size) (hs : SR w S A ls) (hpr : PR w S A' ps) :
    Calls Try.prog 35 #[.slice A ls.length c, .slice A' ps.length c'] w fun e w' => e = .returned (.slice (some ⟨w.heap.size, 0, none⟩) ls.length ls.length) ∧ OS w' S w.heap.size (applyW ls ps) ∧ Below w.heap.size w w' := by
  obtain ⟨Z, hZ⟩ : ∃ Z, Z = List.replicate ls.length (Value.slice none 0 0) := ⟨_, rfl⟩
  have hmk := make_secs ls.length hl
  rw [← hZ] at hmk
  have hZl : Z.length = ls.length := by rw [hZ]; simp
  have hB := bnew w (.cells Z.toArray 35)
  obtain ⟨Vs, hV1, hV2, hV3, hV4⟩ := hs.vals
  replace hV3 : 0 < ls.length → ∃ ad, A = some ad ∧ ∀ j v, Vs[j]? = some v → (w.alloc (.cells Z.toArray 35)).cell? (ad.add j) = some v := fun h => by
    obtain ⟨ad, e, hc⟩ := hV3 h
    exact ⟨ad, e, fun j v hv => (World.cell?_alloc_lt w _ _ (World.block_lt_of_cell? w _ (hc j v hv))).trans (hc j v hv)⟩
  have hz := Lib.hid (heap_alloc_new w (.cells Z.toArray 35))
  have hB' := Lib.hid hB
  have hXl := Lib.hid (show Vs.length = Nat.min ls.length ls.length by rw [hV1]; exact (Nat.min_self _).symm)
  have hpos := Lib.hid (show 0 < Vs.length → (some (⟨w.heap.size, 0, none⟩ : Addr)) = some ⟨w.heap.size, 0, none⟩ ∧ ∃ ad, A = some ad ∧ ∀ j v, Vs[j]? = some v → (w.alloc (.cells Z.toArray 35)).cell? (ad.add j) = some v from fun h => ⟨rfl, hV3 (by omega)⟩)
  have hfit := Lib.hid (show 0 + Vs.length ≤ Z.length by omega)
  have hV4' := Lib.hid hV4
  have hV2' := Lib.hid hV2
  have hsp := Lib.hid (splice_all Z Vs (by omega))
  have hV1' := Lib.hid hV1
  have hpr' := Lib.hid hpr
  have hps' := Lib.hid hps
  clear hZ hZl hB hV1 hV2 hV3 hV4 hpr hs hps
  go_enter Try.func35, Try.ntmps35
  go_wp2_with (with_reducible refine wpList_copy_splice rfl (.tmp 11) (.tmp 12) 22 22 rfl 35 Try.underlying22 (by kernel_rfl) (some ⟨w.heap.size, 0, none⟩) A ls.length ls.length ls.length c rfl rfl w.heap.size 0 Z 35 hz.out Vs hXl.out hpos.out hfit.out hV4'.out w.heap.size w hB'.out (Nat.le_refl _) ?_; intro w2 HG2 hB2)
  have hO : Hid (OS w2 S w.heap.size ls) := by
    have h := HG2.out
    rw [hsp.out] at h
    refine ⟨Vs.toArray, h, by simpa using hV1'.out, fun i hi => ?_⟩
    obtain ⟨v, hv, hr⟩ := hV2'.out i hi
    have hsz := hB2.size
    exact ⟨v, by simpa using hv, (hr.keep (Kept.of hBw hB2)).mono fun b hb => ⟨.inl hb, Nat.lt_of_lt_of_le (hBw b hb) hsz⟩⟩
  have hB2' := Lib.hid hB2
  clear HG2 hB2 hmk
  go_wp2_with fail
  go_loopw [7, 16] (fun _ i wr => ∃ k : Nat, k ≤ ps.length ∧ i = .int .i64 k ∧ Hid (OS wr S w.heap.size (applyW ls (ps.take k))) ∧ Below w.heap.size w wr) (fun _ i _ => ps.length - (intOf i).toNat)
  case atStart => exact ⟨0, Nat.zero_le _, rfl, hO.out, hB2'.out⟩
  case round =>
    obtain ⟨k, hk, rfl, ho, hb⟩ := hrel
    by_cases hlt : k < ps.length
    · obtain ⟨b1, off1, A1, c1, rfl, hs1, hp0, hp1, hq1, hq2, hrw, hI⟩ := (hpr'.out.keep (Kept.of hBw hb)).at_ (i := k) hlt
      obtain ⟨⟨g0, g1⟩, g2⟩ := hps'.out _ (List.getElem_mem hlt)
      have hl0 : (applyW ls (ps.take k)).length = ls.length := applyW_length _ _
      have g3 : ps[k].pl.toNat < ls.length := by omega
      obtain ⟨O, hc0⟩ : ∃ O, wr.cell? ⟨w.heap.size, ps[k].pl.toNat, none⟩ = some O := by
        obtain ⟨A0, c0, h, -⟩ := ho.out.cell (i := ps[k].pl.toNat) (by rw [hl0]; exact g3)
        exact ⟨_, h⟩
      have hf0 := ho.out.frozen ps[k].pl.toNat
      have hgw := ho.out.lt
      have hn := Lib.hid (applyW_take ls ps k hlt)
      have hl0' := Lib.hid hl0
      have hrw' := Lib.hid hrw
      have hb' := Lib.hid hb
      have g2' := Lib.hid g2
      clear hl0 hrw hb g2
      have hS0 : ∀ g, S g → g < ((wr.alloc (.cells #[.int .i64 ps[k].pl, .slice A1 ps[k].data.length c1] 54)).drew).heap.size := fun g hg => by have := hBw g hg; simp; omega
      have hR1 : RBs ((wr.alloc (.cells #[.int .i64 ps[k].pl, .slice A1 ps[k].data.length c1] 54)).drew) S A1 ps[k].data := hrw'.out.keep fun b o hlt => World.cell?_alloc_lt wr _ ⟨b, o, none⟩ (by have := hBw b hlt; simp; omega)
      have hk : Hid (((wr.alloc (.cells #[.int .i64 ps[k].pl, .slice A1 ps[k].data.length c1] 54)).drew).cell? ⟨wr.heap.size, 0, none⟩ = some (.int .i64 ps[k].pl) ∧ ((wr.alloc (.cells #[.int .i64 ps[k].pl, .slice A1 ps[k].data.length c1] 54)).drew).cell? ⟨wr.heap.size, 1, none⟩ = some (.slice A1 ps[k].data.length c1)) := by
        constructor <;> (show (wr.alloc _).cell? _ = _; rw [World.cell?_alloc_at _ _ _ _ rfl]; rfl)
      have hc1 : ((wr.alloc (.cells #[.int .i64 ps[k].pl, .slice A1 ps[k].data.length c1] 54)).drew).cell? ⟨w.heap.size, ps[k].pl.toNat, none⟩ = some O := (World.cell?_alloc_lt wr _ ⟨w.heap.size, ps[k].pl.toNat, none⟩ hgw).trans hc0
      have hf1 : ((wr.alloc (.cells #[.int .i64 ps[k].pl, .slice A1 ps[k].data.length c1] 54)).drew).frozen? ⟨w.heap.size, ps[k].pl.toNat, none⟩ = false := (World.frozen?_of_block (a := ⟨w.heap.size, ps[k].pl.toNat, none⟩) (Below.heap_alloc wr _ w.heap.size hgw)).trans hf0
      have hC := Lib.hid (sector_any ps[k].data _ A1 c1 S hS0 hR1)
      clear hS0 hR1
      go_wp2_with fail
      go_region_held3 (fun w' => w'.cell? ⟨wr.heap.size, 0, none⟩ = some (.int .i64 ps[k].pl) ∧ w'.cell? ⟨wr.heap.size, 1, none⟩ = some (.slice A1 ps[k].data.length c1))
        (first | exact ⟨(World.cell?_of_block (heap_setCell_other _ _ _ _ (Nat.ne_of_gt hgw))).trans ((hb9.cell (p := ⟨wr.heap.size, 0, none⟩) (by simp)).trans hk.out.1), (World.cell?_of_block (heap_setCell_other _ _ _ _ (Nat.ne_of_gt hgw))).trans ((hb9.cell (p := ⟨wr.heap.size, 1, none⟩) (by simp)).trans hk.out.2)⟩ | exact ⟨(hb9.cell (p := ⟨wr.heap.size, 0, none⟩) (by simp)).trans hk.out.1, (hb9.cell (p := ⟨wr.heap.size, 1, none⟩) (by simp)).trans hk.out.2⟩ | exact hk.out)
        (first | (go_at_call 29; refine hC.out.mono ?_; rintro e w9 ⟨rfl, hd9, hb9⟩; have c9 := (hb9.cell (p := ⟨w.heap.size, ps[k].pl.toNat, none⟩) (by simp; omega)).trans hc1; have f9 := (hb9.frozen (p := ⟨w.heap.size, ps[k].pl.toNat, none⟩) (by simp; omega)).trans hf1))
      all_goals
        go_wp2_with fail
        go_roundw
        case rel =>
          have hbx : Below wr.heap.size wr w9 := (unDN (n := 1) (w := wr.alloc (.cells #[.int .i64 ps[k].pl, .slice A1 ps[k].data.length c1] 54)) (hb9.mono (Nat.le_refl _))) |> fun h => (bnew wr _).trans (h.mono (by simp))
          refine ⟨k + 1, by omega, by go_num, ?_, (hb'.out.trans (hbx.mono hb'.out.size)).setCell (p := ⟨w.heap.size, ps[k].pl.toNat, none⟩) (Nat.le_refl _) _⟩
          show OS _ _ _ _
          rw [hn.out]
          have hp := pad_full g2'.out
          rw [hp] at hd9
          rw [show ((wr.alloc (.cells #[.int .i64 ps[k].pl, .slice A1 ps[k].data.length c1] 54)).drew).heap.size = wr.heap.size + 1 by simp] at hd9
          have g2 := g2'.out
          refine (ho.out.step hbx).set hBw ⟨some ⟨wr.heap.size + 1, 0, none⟩, 128, by rw [g2], by omega, by unfold maxLen; omega, hd9.readsIn ⟨?_, ?_⟩⟩
          · omega
          · exact hd9.lt
        case measure => simp [intOf]; omega
    · have hle : ¬ ((k : Int) < ps.length) := by omega
      have hf : Hid (OS wr S w.heap.size (applyW ls ps)) := by have := ho.out; rwa [List.take_of_length_le (by omega)] at this
      clear ho
      go_wp2_with fail
      go_ret
      exact ⟨rfl, hf.out, hb⟩
end Go.Proofs.Ytalkbccofiiojaa
