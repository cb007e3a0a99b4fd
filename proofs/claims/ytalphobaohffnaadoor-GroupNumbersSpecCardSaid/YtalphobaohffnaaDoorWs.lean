/- The reference's Sum. -/
import Derived.Test.YtalphobaohffnaaDoorWc
import Derived.Test.YtalphobaohffnaaDoorTi
import Derived.Test.YtalphobaohffnaaDoorRi
namespace Go.Proofs.YtalphobaohffnaaDoor
open Go.RowKit

theorem DB.store {w : World} {g : Nat} {d e : List UInt8} {T : TypeId} (h : DB w g T d) : DB (w.setRow g (BV e).toArray) g T e := setRow_heap w g _ (BV e).toArray _ _ h
theorem DB.far {w : World} {g k : Nat} {d : List UInt8} {T : TypeId} (h : DB w g T d) (c : Array Value) (hk : g ≠ k) : DB (w.setRow k c) g T d := by
  unfold DB; rw [setRow_other w k g c hk]; exact h

theorem zero4 (w : World) : DB (w.alloc (.cells #[.int .u8 0, .int .u8 0, .int .u8 0, .int .u8 0, .int .u8 0, .int .u8 0, .int .u8 0, .int .u8 0, .int .u8 0, .int .u8 0, .int .u8 0, .int .u8 0, .int .u8 0, .int .u8 0, .int .u8 0, .int .u8 0, .int .u8 0, .int .u8 0, .int .u8 0, .int .u8 0, .int .u8 0, .int .u8 0, .int .u8 0, .int .u8 0, .int .u8 0, .int .u8 0, .int .u8 0, .int .u8 0, .int .u8 0, .int .u8 0, .int .u8 0, .int .u8 0] 30)) w.heap.size 30 zeroD ∧ Below w.heap.size w (w.alloc (.cells #[.int .u8 0, .int .u8 0, .int .u8 0, .int .u8 0, .int .u8 0, .int .u8 0, .int .u8 0, .int .u8 0, .int .u8 0, .int .u8 0, .int .u8 0, .int .u8 0, .int .u8 0, .int .u8 0, .int .u8 0, .int .u8 0, .int .u8 0, .int .u8 0, .int .u8 0, .int .u8 0, .int .u8 0, .int .u8 0, .int .u8 0, .int .u8 0, .int .u8 0, .int .u8 0, .int .u8 0, .int .u8 0, .int .u8 0, .int .u8 0, .int .u8 0, .int .u8 0] 30)) := ⟨zero_new w, belD w _⟩

/-- What the reference's Sum keeps between two blocks. -/
structure RQ (w : World) (p : List UInt8) (v : Value) (ss : List UInt32) (W : World) : Prop where
  st : WB W (w.heap.size + 1) 42 ss
  db : DB W w.heap.size 30 zeroD
  own : OB W (w.heap.size + 2) v p
  be : Below w.heap.size w W
theorem WB.size_lt {w : World} {g : Nat} {T : TypeId} {ws : List UInt32} (h : WB w g T ws) : g < w.heap.size := (Array.getElem?_eq_some_iff.1 h).1
theorem RQ.step {w W W' : World} {p : List UInt8} {v : Value} {ss : List UInt32} (h : RQ w p v ss W) (hb : Below W.heap.size W W') : RQ w p v ss W' :=
  ⟨by unfold WB; rw [hb.block _ h.st.size_lt]; exact h.st, h.db.below hb h.db.lt, h.own.below hb, h.be.trans (hb.mono h.be.size)⟩
theorem RQ.store {w W : World} {p : List UInt8} {v : Value} {ss : List UInt32} (h : RQ w p v ss W) (ss' : List UInt32) : RQ w p v ss' (W.setRow (w.heap.size + 1) (WV ss').toArray) := by
  have hg : W.grownBy (W.setRow (w.heap.size + 1) (WV ss').toArray) (some (w.heap.size + 1)) := grownBy_setRow _ _ _
  refine ⟨setRow_heap W (w.heap.size + 1) _ (WV ss').toArray _ _ h.st, h.db.far _ (by omega), World.ownsRow.kept (row := some (w.heap.size + 1)) h.own hg ?_, below_row h.be _ (Nat.le_succ _) h.be.size⟩
  cases hv : v.ownBlock with
  | none => exact .inl rfl
  | some b =>
    right
    intro e
    have := (World.ownsRow.lt h.own b hv).1
    injection e with e
    omega

theorem WV_S0 : (WV S0).toArray = #[.int .u32 1779033703, .int .u32 3144134277, .int .u32 1013904242, .int .u32 2773480762, .int .u32 1359893119, .int .u32 2600822924, .int .u32 528734635, .int .u32 1541459225] := by rfl

theorem OB.capLe {w : World} {B n c : Nat} {a : Option Addr} {l : List UInt8} (h : OB w B (.slice a n c) l) : c ≤ 9223372036854775807 := by
  rcases h.2 with ⟨e, -⟩ | ⟨g, cap, cur, e, -, -, -, hcm, -⟩
  · injection e with _ _ e3; omega
  · injection e with _ _ e3
    unfold maxLen at hcm
    omega
/-- The states after each block, and the hash, under names that do not unfold. -/
theorem rsum_states (bs : List UInt8) (m : Nat) (hm : (padR bs).length = 64 * m) (hm0 : 0 < m) : ∃ st : Nat → List UInt32, st 0 = S0 ∧ (∀ k, st (k + 1) = blockSt (chunk (padR bs) k) (st k)) ∧ (∀ k, (st k).length = 8) ∧ sha bs = obs (st m) 32 :=
  ⟨fun k => absAll (padR bs) k S0, rfl, fun k => rfl, fun k => (absAll_length _ _ _).trans rfl, by rw [sha_ref, hm, Nat.mul_div_cancel_left _ (by omega)]⟩
attribute [local irreducible] Calls
set_option maxRecDepth 100000 in
set_option maxHeartbeats 2000000 in
theorem rSum_any (bs : List UInt8) (hl : bs.length ≤ 1000000) (w : World) (A : Option Addr) (c : Nat) (hr : RBs w w.heap.size A bs) (hA : A = none → bs = []) :
    Calls Tryd.prog 26 #[.slice A bs.length c] w fun e w' => e = .returned (.agg (BV (sha bs)).toArray) ∧ Below w.heap.size w w' := by
  obtain ⟨m, hm⟩ : ∃ m, (padR bs).length = 64 * m := ⟨_, padR_length bs⟩
  have hm2 : m ≤ 20000 := by
    have := padR_length bs
    rw [hm] at this
    unfold padSize at this
    split at this <;> omega
  have hm0 : 0 < m := by
    have := padR_length bs
    rw [hm] at this
    unfold padSize at this
    split at this <;> omega
  obtain ⟨st, hst0, hstS, hst8, hsha⟩ := rsum_states bs m hm hm0
  have hi8 : (Tryd.prog.info? 42).map (·.size) = some 8 := by kernel_rfl
  have hu8 : Tryd.prog.underlying 42 = some (.array 8 41) := by kernel_rfl
  have hz0 : DB (w.alloc (.cells #[.int .u8 0, .int .u8 0, .int .u8 0, .int .u8 0, .int .u8 0, .int .u8 0, .int .u8 0, .int .u8 0, .int .u8 0, .int .u8 0, .int .u8 0, .int .u8 0, .int .u8 0, .int .u8 0, .int .u8 0, .int .u8 0, .int .u8 0, .int .u8 0, .int .u8 0, .int .u8 0, .int .u8 0, .int .u8 0, .int .u8 0, .int .u8 0, .int .u8 0, .int .u8 0, .int .u8 0, .int .u8 0, .int .u8 0, .int .u8 0, .int .u8 0, .int .u8 0] 30)) w.heap.size 30 zeroD := (zero4 w).1
  have hw1 : WB ((w.alloc (.cells #[.int .u8 0, .int .u8 0, .int .u8 0, .int .u8 0, .int .u8 0, .int .u8 0, .int .u8 0, .int .u8 0, .int .u8 0, .int .u8 0, .int .u8 0, .int .u8 0, .int .u8 0, .int .u8 0, .int .u8 0, .int .u8 0, .int .u8 0, .int .u8 0, .int .u8 0, .int .u8 0, .int .u8 0, .int .u8 0, .int .u8 0, .int .u8 0, .int .u8 0, .int .u8 0, .int .u8 0, .int .u8 0, .int .u8 0, .int .u8 0, .int .u8 0, .int .u8 0] 30)).alloc (.cells (WV S0).toArray 42)) (w.heap.size + 1) 42 S0 := by
    have := heap_alloc_new (w.alloc (.cells #[.int .u8 0, .int .u8 0, .int .u8 0, .int .u8 0, .int .u8 0, .int .u8 0, .int .u8 0, .int .u8 0, .int .u8 0, .int .u8 0, .int .u8 0, .int .u8 0, .int .u8 0, .int .u8 0, .int .u8 0, .int .u8 0, .int .u8 0, .int .u8 0, .int .u8 0, .int .u8 0, .int .u8 0, .int .u8 0, .int .u8 0, .int .u8 0, .int .u8 0, .int .u8 0, .int .u8 0, .int .u8 0, .int .u8 0, .int .u8 0, .int .u8 0, .int .u8 0] 30)) (.cells (WV S0).toArray 42)
    rw [World.size_alloc] at this
    exact this
  have hb2 : Below w.heap.size w ((w.alloc (.cells #[.int .u8 0, .int .u8 0, .int .u8 0, .int .u8 0, .int .u8 0, .int .u8 0, .int .u8 0, .int .u8 0, .int .u8 0, .int .u8 0, .int .u8 0, .int .u8 0, .int .u8 0, .int .u8 0, .int .u8 0, .int .u8 0, .int .u8 0, .int .u8 0, .int .u8 0, .int .u8 0, .int .u8 0, .int .u8 0, .int .u8 0, .int .u8 0, .int .u8 0, .int .u8 0, .int .u8 0, .int .u8 0, .int .u8 0, .int .u8 0, .int .u8 0, .int .u8 0] 30)).alloc (.cells (WV S0).toArray 42)) := ((Below.refl _ _).alloc (Nat.le_refl _) _).alloc (by simp) _
  have hd2 : DB ((w.alloc (.cells #[.int .u8 0, .int .u8 0, .int .u8 0, .int .u8 0, .int .u8 0, .int .u8 0, .int .u8 0, .int .u8 0, .int .u8 0, .int .u8 0, .int .u8 0, .int .u8 0, .int .u8 0, .int .u8 0, .int .u8 0, .int .u8 0, .int .u8 0, .int .u8 0, .int .u8 0, .int .u8 0, .int .u8 0, .int .u8 0, .int .u8 0, .int .u8 0, .int .u8 0, .int .u8 0, .int .u8 0, .int .u8 0, .int .u8 0, .int .u8 0, .int .u8 0, .int .u8 0] 30)).alloc (.cells (WV S0).toArray 42)) w.heap.size 30 zeroD := hz0.below ((Below.refl _ _).alloc (Nat.le_refl _) _) hz0.lt
  have hP := rpadded_any bs hl ((w.alloc (.cells #[.int .u8 0, .int .u8 0, .int .u8 0, .int .u8 0, .int .u8 0, .int .u8 0, .int .u8 0, .int .u8 0, .int .u8 0, .int .u8 0, .int .u8 0, .int .u8 0, .int .u8 0, .int .u8 0, .int .u8 0, .int .u8 0, .int .u8 0, .int .u8 0, .int .u8 0, .int .u8 0, .int .u8 0, .int .u8 0, .int .u8 0, .int .u8 0, .int .u8 0, .int .u8 0, .int .u8 0, .int .u8 0, .int .u8 0, .int .u8 0, .int .u8 0, .int .u8 0] 30)).alloc (.cells (WV S0).toArray 42)) A c (RBs.below hr hb2) hA
  have hshaH := Lib.hid hsha
  have hstSH := Lib.hid hstS
  have hst8H := Lib.hid hst8
  generalize padR bs = p at *
  clear hsha hstS hst8
  have hP := Lib.hid hP
  have hw1 := Lib.hid hw1
  have hb2 := Lib.hid hb2
  have hd2 := Lib.hid hd2
  have hi8H := Lib.hid hi8
  have hu8H := Lib.hid hu8
  clear hr hA hz0 hu8
  go_enter Tryd.func26, Tryd.ntmps26
  go_wp2_with fail
  rw [← WV_S0]
  refine hP.out.mono ?_
  rintro e w3 ⟨v, rfl, hob, hb3⟩
  obtain ⟨g, cp, rfl, hg, -, hcp⟩ := hob.pb (by omega)
  have hq3 : RQ w (p) (.slice (some ⟨g, 0, none⟩) (p).length cp) (st 0) w3 := by
    rw [hst0]
    refine ⟨?_, hd2.out.below hb3 hd2.out.lt, ?_, hb2.out.trans (hb3.mono hb2.out.size)⟩
    · unfold WB
      rw [hb3.block _ hw1.out.size_lt]
      exact hw1.out
    · have := hob
      simpa using this
  rw [hm] at hq3 hcp ⊢
  have hq3 := Lib.hid hq3
  have hsl : Hid (∀ k, k < m → ∀ W, (Instr.slice 22 (.slice (some ⟨g, 0, none⟩) (64 * m) cp) (some (.int .i64 (64 * (k : Int)))) (some (.int .i64 (64 * (k : Int) + 64))) none).run Tryd.prog W = .ok (.slice (some ⟨g, 64 * k, none⟩) 64 (cp - 64 * k)) W) := fun k hk W => by
    have := slice_lh g 0 (64 * m) cp k (by omega) W
    rwa [Nat.zero_add] at this
  clear hob hb3 hP hw1 hb2 hd2
  go_wp2_with fail
  go_loopw [5] (fun i wr => ∃ k : Nat, i = .int .i64 (64 * (k : Int)) ∧ k ≤ m ∧ Hid (RQ w (p) (.slice (some ⟨g, 0, none⟩) (64 * m) cp) (st k) wr)) (fun i _ => 64 * m - (intOf i).toNat)
  case atStart => exact ⟨0, by simp, by omega, hq3.out⟩
  case round =>
    obtain ⟨k, rfl, hkm, hq⟩ := hrel
    by_cases hlt : k < m
    · have hlt' : 64 * (k : Int) < 64 * (m : Int) := by omega
      have hadd : IntKind.i64.wrap (64 * (k : Int) + 64) = 64 * (k : Int) + 64 := IntWalk.i64_in _ (by omega)
      go_wp2_with fail
      have hss := Lib.hid (hst8H.out k)
      have hss1 := Lib.hid (hst8H.out (k + 1))
      have hck : Hid ((chunk (p) k).length = 64) := chunk_length _ _ (by omega)
      have hB : Hid (∀ W, Below wr.heap.size wr W → Calls Tryd.prog 36 #[.agg (WV (st k)).toArray, .slice (some ⟨g, 64 * k, none⟩) 64 (cp - 64 * k)] W fun e W' => e = .returned (.agg (WV (st (k + 1))).toArray) ∧ Below W.heap.size W W') := fun W hW => by
        have q := hq.out.step hW
        have hre := q.own.reads
        obtain ⟨b, off, e1, hrc⟩ := hre.1.chunk k (by omega)
        injection e1 with e1
        injection e1 with e1 e2 _
        subst e1; subst e2
        rw [Nat.zero_add] at hrc
        rw [hstSH.out k]
        exact block_any _ hck.out _ hss.out W _ _ (by omega) (by have := hre.2.2; have := q.own.capLe; omega) hrc
      refine wp_region_pre 7 1 (fun W => Below wr.heap.size wr W) (fun W W' => W.heap.size ≤ W'.heap.size)
        (fun i v W => match i with
          | 0 => v = .agg (WV (st k)).toArray
          | 1 => v = .slice (some ⟨g, 0, none⟩) (64 * m) cp
          | 2 => v = .int .i64 (64 * (k : Int))
          | 3 => v = .int .i64 (64 * (k : Int))
          | 4 => v = .int .i64 (64 * (k : Int) + 64)
          | 5 => v = .slice (some ⟨g, 64 * k, none⟩) 64 (cp - 64 * k)
          | 6 => v = .agg (WV (st (k + 1))).toArray
          | _ => True) (fun _ => false)
        (by kernel_rfl) (by kernel_rfl) (by kernel_rfl) (by kernel_rfl) (by kernel_rfl) (by kernel_rfl) (by kernel_rfl) ?_ (fun _ _ h => h) (dN (Below.refl _ _) 1) ?_ ?_
      · intro i v W W' hb hF
        match i, hF with
        | 0, h => exact h
        | 1, h => exact h
        | 2, h => exact h
        | 3, h => exact h
        | 4, h => exact h
        | 5, h => exact h
        | 6, h => exact h
        | _ + 7, _ => trivial
      · refine ⟨?_, ?_, ?_, ?_, ?_, ?_, ?_, trivial⟩
        · refine stepJ_any rfl fun b W hA hG hD K hK => ?_
          have h3 := hA.getD (t := 3) (by kernel_rfl)
          rw [if_pos (by rfl)]
          refine wp_load_row 42 _ rfl (w.heap.size + 1) ?_ 42 (WV (st k)).toArray (0, 0) _ (hq.out.step hG).st hu8H.out rfl ?_ (hK _ _ hG (Nat.le_refl _) rfl (fun h => by cases h))
          · simpa [Act.eval] using h3
          · rw [hi8H.out]; simp [WV, hss.out]
        · refine stepJ_val rfl (fun _ => Nat.le_refl _) rfl rfl fun b W hA hG hD => ⟨_, ?_, rfl⟩
          have h4 := hA.getD (t := 4) (by kernel_rfl)
          simp [execOp, Act.eval, h4, go_sem]
        · refine stepJ_val rfl (fun _ => Nat.le_refl _) rfl rfl fun b W hA hG hD => ⟨_, ?_, rfl⟩
          have h5 := hA.getD (t := 5) (by kernel_rfl)
          simp [execOp, Act.eval, h5, go_sem]
        · refine stepJ_val rfl (fun _ => Nat.le_refl _) rfl rfl fun b W hA hG hD => ⟨_, ?_, rfl⟩
          have h5 := hA.getD (t := 5) (by kernel_rfl)
          simp [execOp, Act.eval, h5, go_sem]
        · refine stepJ_val rfl (fun _ => Nat.le_refl _) rfl rfl fun b W hA hG hD => ⟨_, ?_, rfl⟩
          have h20 := hD.get 3 20 _ rfl rfl (by kernel_rfl)
          simp only [Array.getD_eq_getD_getElem?] at h20
          simp [execOp, Act.eval, h20, go_sem, hadd]
        · refine stepJ_val rfl (fun _ => Nat.le_refl _) rfl rfl fun b W hA hG hD => ⟨_, ?_, rfl⟩
          have h18 := hD.get 1 18 _ rfl rfl (by kernel_rfl)
          have h19 := hD.get 2 19 _ rfl rfl (by kernel_rfl)
          have h21 := hD.get 4 21 _ rfl rfl (by kernel_rfl)
          simp only [Array.getD_eq_getD_getElem?] at h18 h19 h21
          have := hsl.out k hlt W
          simp [execOp, Act.eval, h18, h19, h21, Instr.sliceAt, this, Result.andThen]
        · refine stepJ_call rfl rfl rfl fun b W hA hG hD => ⟨36, #[.agg (WV (st k)).toArray, .slice (some ⟨g, 64 * k, none⟩) 64 (cp - 64 * k)], ?_, (hB.out W hG).mono fun e W' he => ⟨_, he.1, hG.trans (he.2.mono hG.size), he.2.size, rfl⟩⟩
          have h17 := hD.get 0 17 _ rfl rfl (by kernel_rfl)
          have h22 := hD.get 5 22 _ rfl rfl (by kernel_rfl)
          simp only [Array.getD_eq_getD_getElem?] at h17 h22
          simp [execOp, Act.eval, h17, h22, go_sem]
      · intro f T W hG hF hne hltb
        have e17 : T 17 = .agg (WV (st k)).toArray := hF 0 _ rfl (by omega)
        have e18 : T 18 = .slice (some ⟨g, 0, none⟩) (64 * m) cp := hF 1 _ rfl (by omega)
        have e19 : T 19 = .int .i64 (64 * (k : Int)) := hF 2 _ rfl (by omega)
        have e20 : T 20 = .int .i64 (64 * (k : Int)) := hF 3 _ rfl (by omega)
        have e21 : T 21 = .int .i64 (64 * (k : Int) + 64) := hF 4 _ rfl (by omega)
        have e22 : T 22 = .slice (some ⟨g, 64 * k, none⟩) 64 (cp - 64 * k) := hF 5 _ rfl (by omega)
        have e23 : T 23 = .agg (WV (st (k + 1))).toArray := hF 6 _ rfl (by omega)
        clear hF hne hltb
        have hq7 := hq.out.step hG
        simp only [List.take, fillT, List.setIfInBounds_toArray, List.set_cons_zero, List.set_cons_succ, e17, e18, e19, e20, e21, e22, e23]
        refine wpAny_ready (rs := [7]) (by kernel_rfl) (by simp) (AllReady.cons (o := ⟨none, .store 42 (.tmp 3) (.tmp 23), _, _, _, none⟩) rfl (fun K1 hK1 => ?_) AllReady.nil)
        rw [if_pos (by rfl)]
        refine wp_store_row 42 _ _ rfl (w.heap.size + 1) (WV (st (k + 1))).toArray rfl rfl 42 (WV (st k)).toArray hq7.st (by rw [hi8H.out]; simp [WV, hss1.out]) (by simp [WV, hss.out, hss1.out]) (WV_one _) ?_
        refine hK1 _ _ ?_
        clear hK1 K1
        refine wpAny_done (by kernel_rfl) ?_ _
        simp only [Act.put]
        have hq8 := Lib.hid (hq7.store (st (k + 1)))
        clear hq7 hG e17 e18 e19 e20 e21 e22 e23
        generalize W.setRow (w.heap.size + 1) (WV (st (k + 1))).toArray = W8 at *
        go_wp2_with fail
        go_roundw
        case rel => exact ⟨k + 1, by go_num, by omega, hq8.out⟩
        case measure => simp [intOf]; omega
    · obtain rfl : k = m := by omega
      have hlt' : ¬ 64 * (k : Int) < 64 * (k : Int) := by omega
      have hq4 := Lib.hid (hq.out.step ((Below.refl _ _).alloc (Nat.le_refl _) (.cells #[.int .u8 0, .int .u8 0, .int .u8 0, .int .u8 0, .int .u8 0, .int .u8 0, .int .u8 0, .int .u8 0, .int .u8 0, .int .u8 0, .int .u8 0, .int .u8 0, .int .u8 0, .int .u8 0, .int .u8 0, .int .u8 0, .int .u8 0, .int .u8 0, .int .u8 0, .int .u8 0, .int .u8 0, .int .u8 0, .int .u8 0, .int .u8 0, .int .u8 0, .int .u8 0, .int .u8 0, .int .u8 0, .int .u8 0, .int .u8 0, .int .u8 0, .int .u8 0] 30)))
      have hz4 := Lib.hid ((zero4 wr).1)
      have hss := Lib.hid (hst8H.out k)
      have hss1 := Lib.hid (hst8H.out (k + 1))
      have hlw : w.heap.size + 1 < wr.heap.size := hq.out.st.size_lt
      have hi : (Tryd.prog.info? 30).map (·.size) = some 32 := by kernel_rfl
      go_wp2_with (refine wpList_store_row rfl 30 _ _ rfl wr.heap.size _ rfl rfl 30 _ (heap_alloc_last wr _) ?cj ?cl ?ck ?_
                   case cj => rw [hi]; rfl
                   case cl => rfl
                   case ck => kernel_rfl
                   rw [World.setRow_alloc_new])
      have hb4 : Hid (Below wr.heap.size (wr.alloc (.cells #[.int .u8 0, .int .u8 0, .int .u8 0, .int .u8 0, .int .u8 0, .int .u8 0, .int .u8 0, .int .u8 0, .int .u8 0, .int .u8 0, .int .u8 0, .int .u8 0, .int .u8 0, .int .u8 0, .int .u8 0, .int .u8 0, .int .u8 0, .int .u8 0, .int .u8 0, .int .u8 0, .int .u8 0, .int .u8 0, .int .u8 0, .int .u8 0, .int .u8 0, .int .u8 0, .int .u8 0, .int .u8 0, .int .u8 0, .int .u8 0, .int .u8 0, .int .u8 0] 30)) (wr.alloc (.cells #[.int .u8 0, .int .u8 0, .int .u8 0, .int .u8 0, .int .u8 0, .int .u8 0, .int .u8 0, .int .u8 0, .int .u8 0, .int .u8 0, .int .u8 0, .int .u8 0, .int .u8 0, .int .u8 0, .int .u8 0, .int .u8 0, .int .u8 0, .int .u8 0, .int .u8 0, .int .u8 0, .int .u8 0, .int .u8 0, .int .u8 0, .int .u8 0, .int .u8 0, .int .u8 0, .int .u8 0, .int .u8 0, .int .u8 0, .int .u8 0, .int .u8 0, .int .u8 0] 30))) := Below.refl _ _
      have hz5 : (wr.alloc (.cells #[.int .u8 0, .int .u8 0, .int .u8 0, .int .u8 0, .int .u8 0, .int .u8 0, .int .u8 0, .int .u8 0, .int .u8 0, .int .u8 0, .int .u8 0, .int .u8 0, .int .u8 0, .int .u8 0, .int .u8 0, .int .u8 0, .int .u8 0, .int .u8 0, .int .u8 0, .int .u8 0, .int .u8 0, .int .u8 0, .int .u8 0, .int .u8 0, .int .u8 0, .int .u8 0, .int .u8 0, .int .u8 0, .int .u8 0, .int .u8 0, .int .u8 0, .int .u8 0] 30)).heap.size = wr.heap.size + 1 := by simp
      generalize wr.alloc (.cells #[.int .u8 0, .int .u8 0, .int .u8 0, .int .u8 0, .int .u8 0, .int .u8 0, .int .u8 0, .int .u8 0, .int .u8 0, .int .u8 0, .int .u8 0, .int .u8 0, .int .u8 0, .int .u8 0, .int .u8 0, .int .u8 0, .int .u8 0, .int .u8 0, .int .u8 0, .int .u8 0, .int .u8 0, .int .u8 0, .int .u8 0, .int .u8 0, .int .u8 0, .int .u8 0, .int .u8 0, .int .u8 0, .int .u8 0, .int .u8 0, .int .u8 0, .int .u8 0] 30) = W5 at *
      obtain ⟨wo, rfl⟩ : ∃ wo : World, wo = wr := ⟨_, rfl⟩
      go_loopw [7] (fun i wr => ∃ t : Nat, i = .int .i64 t ∧ t ≤ 32 ∧ Hid (DB wr wo.heap.size 30 (obs (st k) t)) ∧ Hid (Below wo.heap.size W5 wr)) (fun i _ => 32 - (intOf i).toNat)
      case atStart => exact ⟨0, rfl, by omega, hz4.out, hb4.out⟩
      case round =>
        obtain ⟨t, rfl, ht, hw, hb⟩ := hrel
        by_cases hlt2 : t < 32
        · have hstx : WB wr (w.heap.size + 1) 42 (st k) := by
            unfold WB
            rw [hb.out.block _ hlw]
            exact hq4.out.st
          have cs := hstx.cell (i := t / 4) (by rw [hss.out]; omega)
          have ct := hw.out.cell (i := t) (by rw [obs_length _ _ ht]; omega)
          have cf := hw.out.frozen t
          have i0 : (0 : Int) ≤ t := by omega
          have i1 : (t : Int) < 32 := by omega
          have hst' : Hid (DB (wr.setCell ⟨wo.heap.size, t, none⟩ (.int .u8 (U ((st k).getD (t / 4) 0) / 2 ^ (24 - 8 * (t % 4)) % 256))) wo.heap.size 30 (obs (st k) (t + 1))) := by
            show DB _ _ _ _
            rw [ob_val (st k) t _ rfl (24 - 8 * (t % 4)) (by omega), ← obs_succ (st k) t hlt2]
            exact hw.out.set _
          have hb' : Hid (Below wo.heap.size W5 (wr.setCell ⟨wo.heap.size, t, none⟩ (.int .u8 (U ((st k).getD (t / 4) 0) / 2 ^ (24 - 8 * (t % 4)) % 256)))) := hb.out.setCell (p := ⟨wo.heap.size, t, none⟩) (Nat.le_refl _) _
          clear hstx hw hb
          go_wp2_with fail
          refine ⟨⟨t + 1, by go_num, by omega, ?_, ?_⟩, by simp [intOf]; omega⟩
          · have := hst'.out
            rw [List.getD_eq_getElem?_getD] at this
            exact this
          · have := hb'.out
            rw [List.getD_eq_getElem?_getD] at this
            exact this
        · obtain rfl : t = 32 := by omega
          have hsz : (BV (obs (st k) 32)).toArray.size = 32 := by rw [List.size_toArray, BV_length, obs_length _ _ (Nat.le_refl _)]
          have hsz' := Lib.hid hsz
          have hu : Tryd.prog.underlying 30 = some (.array 32 5) := by kernel_rfl
          have hdb : DB wr w.heap.size 30 zeroD := hq4.out.db.below hb.out (by omega)
          have hbe : Below w.heap.size w wr := hq4.out.be.trans (hb.out.mono (by omega))
          have hw32 := hw.out
          have hlt3 : ¬ ((32 : Nat) : Int) < 32 := by omega
          clear hsz
          go_wp2_with (first
            | (refine wpList_load_row rfl 30 _ rfl wo.heap.size rfl 30 _ (0, 0) _ hw32 hu rfl ?ci ?_; case ci => rw [hi, hsz'.out])
            | (refine wpList_store_row rfl 30 _ _ rfl w.heap.size _ rfl rfl 30 _ hdb ?cj ?cl ?ck ?_
               case cj => rw [hi, hsz'.out]
               case cl => rw [hsz'.out]; rfl
               case ck => exact BV_all _))
          have hrow := setRow_heap wr w.heap.size _ (BV (obs (st k) 32)).toArray _ _ hdb
          exact bodyPost_ret (results_cell_row rfl _ _ w.heap.size 30 _ (0, 0) _ rfl hrow hu rfl (by rw [hi, hsz'.out])) rfl
            ⟨by rw [hshaH.out], hbe.grown (grownBy_setRow _ _ _) hbe.size (fun k e => by injection e with e; omega)⟩
end Go.Proofs.YtalphobaohffnaaDoor
