/- DigestChains: the law. -/
import Derived.Test.YtjfoihlelkfaoaaDoorKp
import Derived.Test.YtjfoihlelkfaoaaDoorRtg
import Derived.Test.YtjfoihlelkfaoaaDoorRj
namespace Go.Proofs.YtjfoihlelkfaoaaDoor
open Go.RowKit

/-- What the law of chains keeps: the memory that was there, its own list, the two ends. -/
structure CQ (w : World) (N : Nat) (v : Value) (l : List (List UInt8)) (p q : Nat) (e : List UInt8) (W : World) : Prop where
  be : Below w.heap.size w W
  own : OD W N v l
  one : DB W p 24 e
  two : DB W q 24 e
theorem CQ.step {w : World} {N p q : Nat} {v : Value} {l : List (List UInt8)} {e : List UInt8} {W W' : World} (h : CQ w N v l p q e W) (hb : Below W.heap.size W W') : CQ w N v l p q e W' :=
  ⟨h.be.trans (hb.mono h.be.size), h.own.below hb, h.one.below hb h.one.lt, h.two.below hb h.two.lt⟩
theorem OD.far {W : World} {N g : Nat} {v : Value} {l : List (List UInt8)} (h : OD W N v l) (cs : Array Value) (hg : g < N) : OD (W.setRow g cs) N v l := by
  refine World.ownsRow.kept (row := some g) h (grownBy_setRow _ _ _) ?_
  cases hv : v.ownBlock with
  | none => exact .inl rfl
  | some b =>
    right
    intro e
    have := (World.ownsRow.lt h b hv).1
    injection e with e
    omega
theorem CQ.store {w : World} {N p q : Nat} {v : Value} {l : List (List UInt8)} {e : List UInt8} {W : World} (h : CQ w N v l p q e W) (e' : List UInt8) (hp : w.heap.size ≤ p) (hq : w.heap.size ≤ q) (hpN : p < N) (hqN : q < N) (hpq : p ≠ q) :
    CQ w N v l p q e' ((W.setRow p (BV e').toArray).setRow q (BV e').toArray) := by
  have h1 := below_row h.be (BV e').toArray hp h.be.size
  refine ⟨below_row h1 _ hq (by simpa using h.be.size), (h.own.far _ hpN).far _ hqN, ?_, ?_⟩
  · exact (h.one.store (e := e')).far _ hpq
  · exact (h.two.far (BV e').toArray (by omega)).store (e := e')

attribute [local irreducible] Calls
set_option maxRecDepth 100000 in
set_option maxHeartbeats 2000000 in
theorem chains_any (f : List UInt8) (hf : f.length = 32) (s : List UInt8) (w : World) (A : Option Addr) (c : Nat) (hr : RBs w w.heap.size A s) (hs : s.length ≤ 9223372036854775807) (hK : KT w) (h0 : 0 < w.heap.size) : Calls Tryd.prog 5 #[.agg (BV f).toArray, .slice A s.length c] w fun e w' => e = .returned (.bool true) ∧ Below w.heap.size w w' := by
  have hKH := Lib.hid hK
  have hlen : (dsOf s).length ≤ 24 := by rw [dsOf_length]; omega
  have h32 := dsTo_32 s (min s.length 24)
  rw [← dsOf_eq] at h32
  have hb0 : Below w.heap.size w (w.alloc (.cells (BV f).toArray 24)) := (Below.refl _ _).alloc (Nat.le_refl _) _
  have hd0 : DB (w.alloc (.cells (BV f).toArray 24)) w.heap.size 24 f := heap_alloc_new w _
  have hrH := Lib.hid hr
  have hK0 := hKH.out.below hb0 h0
  have hS := sane_any _ hK0 (Nat.lt_of_lt_of_le h0 hb0.size)
  have hS := Lib.hid hS
  have hd0 := Lib.hid hd0
  have hb0 := Lib.hid hb0
  have hu : Tryd.prog.underlying 24 = some (.array 32 5) := by kernel_rfl
  have hi : (Tryd.prog.info? 24).map (·.size) = some 32 := by kernel_rfl
  have huH := Lib.hid hu
  have hiH := Lib.hid hi
  clear hK hr hK0 hu hi
  go_enter Tryd.func5, Tryd.ntmps5
  go_wp2_with fail
  refine hS.out.mono ?_
  rintro e w1 ⟨rfl, hb1⟩
  have hd1 := Lib.hid (hd0.out.below hb1 hd0.out.lt)
  have hb1 := Lib.hid (hb0.out.trans (hb1.mono hb0.out.size))
  clear hS hd0 hb0
  go_wp2_with fail
  refine wp_region_preA 5 1 (fun W => Below w1.heap.size w1 W) (fun W W' => W.heap.size ≤ W'.heap.size ∧ ∀ b, b < W.heap.size → W'.heap[b]? = W.heap[b]? ∨ DB W' b 24 f)
    (fun i a v W => match i with
      | 0 => v = .agg (BV f).toArray
      | 1 => v = .agg (BV f).toArray
      | 2 => ∃ g, v = .pointer (some ⟨g, 0, none⟩) ∧ w1.heap.size ≤ g ∧ (DB W g 24 zeroD ∨ DB W g 24 f)
      | 3 => ∃ g, v = .pointer (some ⟨g, 0, none⟩) ∧ w1.heap.size ≤ g ∧ (DB W g 24 zeroD ∨ DB W g 24 f)
      | 4 => ∃ g, a.tmps.getD 5 undef = .pointer (some ⟨g, 0, none⟩) ∧ DB W g 24 f
      | _ => True) (fun i => i == 2 || i == 3)
    (by kernel_rfl) (by kernel_rfl) (by kernel_rfl) (by kernel_rfl) (by kernel_rfl) (by kernel_rfl) (by kernel_rfl) ?_ (fun _ _ h => h.1) (dN (Below.refl _ _) 1) ?_ ?_
  · have keep : ∀ {W W' : World} {g : Nat}, (W.heap.size ≤ W'.heap.size ∧ ∀ b, b < W.heap.size → W'.heap[b]? = W.heap[b]? ∨ DB W' b 24 f) → DB W g 24 f → DB W' g 24 f := fun hb h => by
      rcases hb.2 _ h.lt with h1 | h1
      · unfold DB; rw [h1]; exact h
      · exact h1
    have keep2 : ∀ {W W' : World} {g : Nat}, (W.heap.size ≤ W'.heap.size ∧ ∀ b, b < W.heap.size → W'.heap[b]? = W.heap[b]? ∨ DB W' b 24 f) → (DB W g 24 zeroD ∨ DB W g 24 f) → (DB W' g 24 zeroD ∨ DB W' g 24 f) := fun hb h => by
      rcases h with h | h
      · rcases hb.2 _ h.lt with h1 | h1
        · left; unfold DB; rw [h1]; exact h
        · exact .inr h1
      · exact .inr (keep hb h)
    intro i v a a' W W' hs hb hF
    match i, hs, hF with
    | 0, _, h => exact h
    | 1, _, h => exact h
    | 2, _, ⟨g, h1, h2, h3⟩ => exact ⟨g, h1, h2, keep2 hb h3⟩
    | 3, _, ⟨g, h1, h2, h3⟩ => exact ⟨g, h1, h2, keep2 hb h3⟩
    | 4, hs, ⟨g, h1, h2⟩ => exact ⟨g, (hs 5 (List.contains_iff_mem.1 (by kernel_rfl))).trans h1, keep hb h2⟩
    | _ + 5, _, _ => trivial
  · refine ⟨?_, ?_, ?_, ?_, ?_, trivial⟩
    · refine stepA_any rfl fun ac W hA hG hD K hK => ?_
      have h2 := hA.getD (t := 2) (by kernel_rfl)
      rw [if_pos (by rfl)]
      exact wp_load_mid 24 _ rfl w.heap.size 0 h2 (BV f) _ (range_of (hd1.out.below hG hd1.out.lt)) huH.out rfl (by rw [hiH.out, BV_length, hf]) (hK _ _ hG ⟨Nat.le_refl _, fun _ _ => .inl rfl⟩ rfl (fun h => by cases h))
    · refine stepA_any rfl fun ac W hA hG hD K hK => ?_
      have h2 := hA.getD (t := 2) (by kernel_rfl)
      rw [if_pos (by rfl)]
      exact wp_load_mid 24 _ rfl w.heap.size 0 h2 (BV f) _ (range_of (hd1.out.below hG hd1.out.lt)) huH.out rfl (by rw [hiH.out, BV_length, hf]) (hK _ _ hG ⟨Nat.le_refl _, fun _ _ => .inl rfl⟩ rfl (fun h => by cases h))
    · refine stepA_any rfl fun ac W hA hG hD K hK => ?_
      rw [if_pos (by rfl)]
      exact wp_val (v := .pointer (some ⟨W.heap.size, 0, none⟩)) (w' := W.alloc (.cells #[.int .u8 0, .int .u8 0, .int .u8 0, .int .u8 0, .int .u8 0, .int .u8 0, .int .u8 0, .int .u8 0, .int .u8 0, .int .u8 0, .int .u8 0, .int .u8 0, .int .u8 0, .int .u8 0, .int .u8 0, .int .u8 0, .int .u8 0, .int .u8 0, .int .u8 0, .int .u8 0, .int .u8 0, .int .u8 0, .int .u8 0, .int .u8 0, .int .u8 0, .int .u8 0, .int .u8 0, .int .u8 0, .int .u8 0, .int .u8 0, .int .u8 0, .int .u8 0] 24)) (by simp [execOp, go_sem]) (hK _ _ (hG.alloc hG.size _) ⟨by simp, fun b hb => .inl (Below.heap_alloc W _ b hb)⟩ ⟨_, rfl, hG.size, .inl (zero_new W).1⟩ (fun _ => ⟨Nat.le_refl _, by simp [pb]⟩))
    · refine stepA_any rfl fun ac W hA hG hD K hK => ?_
      rw [if_pos (by rfl)]
      exact wp_val (v := .pointer (some ⟨W.heap.size, 0, none⟩)) (w' := W.alloc (.cells #[.int .u8 0, .int .u8 0, .int .u8 0, .int .u8 0, .int .u8 0, .int .u8 0, .int .u8 0, .int .u8 0, .int .u8 0, .int .u8 0, .int .u8 0, .int .u8 0, .int .u8 0, .int .u8 0, .int .u8 0, .int .u8 0, .int .u8 0, .int .u8 0, .int .u8 0, .int .u8 0, .int .u8 0, .int .u8 0, .int .u8 0, .int .u8 0, .int .u8 0, .int .u8 0, .int .u8 0, .int .u8 0, .int .u8 0, .int .u8 0, .int .u8 0, .int .u8 0] 24)) (by simp [execOp, go_sem]) (hK _ _ (hG.alloc hG.size _) ⟨by simp, fun b hb => .inl (Below.heap_alloc W _ b hb)⟩ ⟨_, rfl, hG.size, .inl (zero_new W).1⟩ (fun _ => ⟨Nat.le_refl _, by simp [pb]⟩))
    · refine stepA_store rfl rfl fun ac W hA hG hD K hK => ?_
      obtain ⟨g, h5, hg, hdb⟩ := hD.get 2 5 _ rfl rfl (by kernel_rfl)
      have h12 := hD.get 0 12 _ rfl rfl (by kernel_rfl)
      have hfin : DB (W.setRow g (BV f).toArray) g 24 f := by
        rcases hdb with h | h
        · exact h.store (e := f)
        · exact h.store (e := f)
      have hR : (W.setRow g (BV f).toArray).heap.size = W.heap.size ∧ ∀ b, b < W.heap.size → (W.setRow g (BV f).toArray).heap[b]? = W.heap[b]? ∨ DB (W.setRow g (BV f).toArray) b 24 f := ⟨by simp, fun b hb => by
        by_cases hbg : b = g
        · subst hbg; exact .inr hfin
        · exact .inl (setRow_other W g b _ hbg)⟩
      have hk := hK (W.setRow g (BV f).toArray) (below_row hG _ hg hG.size) ⟨Nat.le_of_eq hR.1.symm, hR.2⟩ ⟨g, h5, hfin⟩
      rw [if_pos (by rfl)]
      rcases hdb with h | h
      · exact wp_store_row 24 (.tmp 5) (.tmp 12) rfl g (BV f).toArray h5 h12 24 _ h (by rw [hiH.out, List.size_toArray, BV_length, hf]) (by rw [List.size_toArray, List.size_toArray, BV_length, BV_length, hf]; rfl) (BV_all _) hk
      · exact wp_store_row 24 (.tmp 5) (.tmp 12) rfl g (BV f).toArray h5 h12 24 _ h (by rw [hiH.out, List.size_toArray, BV_length, hf]) rfl (BV_all _) hk
  · intro n T W hG hF hne hltb
    have e12 : T 12 = .agg (BV f).toArray := hF 0 _ rfl (by omega)
    have e13 : T 13 = .agg (BV f).toArray := hF 1 _ rfl (by omega)
    obtain ⟨gA, e5, hgA, -⟩ : ∃ g, T 5 = .pointer (some ⟨g, 0, none⟩) ∧ w1.heap.size ≤ g ∧ (DB W g 24 zeroD ∨ DB W g 24 f) := hF 2 _ rfl (by omega)
    obtain ⟨gB, e6, hgB, hB6⟩ : ∃ g, T 6 = .pointer (some ⟨g, 0, none⟩) ∧ w1.heap.size ≤ g ∧ (DB W g 24 zeroD ∨ DB W g 24 f) := hF 3 _ rfl (by omega)
    obtain ⟨g', e5', hA5⟩ := hF 4 _ rfl (by omega)
    have hAB : pb (T 5) ≠ pb (T 6) := hne 2 3 _ _ 5 6 (by omega) (by omega) rfl rfl (by omega) rfl rfl rfl rfl
    rw [e5, e6] at hAB
    have hAB : gA ≠ gB := hAB
    have hltB : pb (T 6) < W.heap.size := hltb 3 _ 6 (by omega) rfl rfl rfl
    simp only [List.take, fillT, List.setIfInBounds_toArray, List.set_cons_zero, List.set_cons_succ, e12, e13, e5, e6] at e5' ⊢
    obtain rfl : gA = g' := by
      have : Value.pointer (some ⟨gA, 0, none⟩) = Value.pointer (some ⟨g', 0, none⟩) := e5'
      injection this with this
      injection this with this
      injection this
    clear hF hne hltb e5'
    have hstB : ∃ old : Array Value, W.heap[gB]? = some (.cells old 24 (0, 0)) ∧ old.size = 32 := by
      rcases hB6 with h | h
      · exact ⟨_, h, rfl⟩
      · exact ⟨_, h, by rw [List.size_toArray, BV_length, hf]⟩
    obtain ⟨old, hold, hosz⟩ := hstB
    refine wpAny_ready (rs := [5]) (by kernel_rfl) (by simp) (AllReady.cons (o := ⟨none, .store 24 (.tmp 6) (.tmp 13), _, _, _, none⟩) rfl (fun K1 hK1 => ?_) AllReady.nil)
    rw [if_pos (by rfl)]
    refine wp_store_row 24 _ _ rfl gB (BV f).toArray rfl rfl 24 old hold (by rw [hiH.out, List.size_toArray, BV_length, hf]) (by rw [hosz, List.size_toArray, BV_length, hf]) (BV_all _) ?_
    refine hK1 _ _ ?_
    clear hK1 K1
    refine wpAny_done (by kernel_rfl) ?_ _
    simp only [Act.put]
    have hA7 := Lib.hid (hA5.far (BV f).toArray hAB)
    have hB7 : Hid (DB (W.setRow gB (BV f).toArray) gB 24 f) := setRow_heap W gB old (BV f).toArray _ _ hold
    have hb7 := Lib.hid (hb1.out.trans ((below_row hG (BV f).toArray hgB hG.size).mono hb1.out.size))
    have hABH := Lib.hid hAB
    have hgA' : w.heap.size ≤ gA := Nat.le_trans hb1.out.size hgA
    have hgB' : w.heap.size ≤ gB := Nat.le_trans hb1.out.size hgB
    have hrW := Lib.hid (RBs.below (RBs.below hrH.out hb1.out) (below_row hG (BV f).toArray hgB hG.size))
    clear e12 e13 e5 e6 hA5 hB6 hold hosz hG hltB hgA hgB hAB
    generalize W.setRow gB (BV f).toArray = W3 at *
    have hK3 := hKH.out.below hb7.out h0
    have hD := digestsOf_any s W3 A c hrW.out hs
    have hD := Lib.hid hD
    clear hrW hrH hd1 hb1
    go_wp2_with fail
    refine hD.out.mono ?_
    rintro e w4 ⟨v, rfl, hod, hb4⟩
    generalize dsOf s = l at *
    obtain ⟨a, cap, rfl, -⟩ := hod.reads h32
    have hgAl : gA < W3.heap.size := hA7.out.lt
    have hgBl : gB < W3.heap.size := hB7.out.lt
    have hcq : Hid (CQ w W3.heap.size (.slice a l.length cap) l gA gB f w4) := (⟨hb7.out.trans (hb4.mono hb7.out.size), hod, hA7.out.below hb4 hgAl, hB7.out.below hb4 hgBl⟩ : CQ w W3.heap.size (.slice a l.length cap) l gA gB f w4)
    have hNw : w.heap.size ≤ W3.heap.size := hb7.out.size
    clear hod hb4 hD hA7 hB7 hb7 hK3
    generalize W3.heap.size = N at *
    go_wp2_with fail
    go_loopw [17] (fun i wr => ∃ (k : Nat) (e : List UInt8), i = .int .i64 k ∧ k ≤ l.length ∧ Hid (e.length = 32) ∧ Hid (CQ w N (.slice a l.length cap) l gA gB e wr)) (fun i _ => l.length - (intOf i).toNat)
    case atStart => exact ⟨0, f, rfl, by omega, hf, hcq.out⟩
    case round =>
      obtain ⟨k, e, rfl, hk, he, hq⟩ := hrel
      by_cases hkl : k < l.length
      · obtain ⟨a', cap', ea, hRr⟩ := hq.out.own.reads h32
        injection ea with ea1 ea2 ea3
        subst ea1; subst ea3
        obtain ⟨b, off, rfl, hbl, hel⟩ := hRr.at_ hkl
        have hx32 : l[k].length = 32 := h32 _ (List.getElem_mem hkl)
        generalize l[k] = d at *
        have hu := huH.out
        have hi := hiH.out
        have hsd := Lib.hid (DV_size hx32)
        have hse := Lib.hid (DV_size he.out)
        have hld := Lib.hid (show (BV d).length = 32 from BV_length32 hx32)
        have hz := heap_alloc_last wr (.cells #[.int .u8 0, .int .u8 0, .int .u8 0, .int .u8 0, .int .u8 0, .int .u8 0, .int .u8 0, .int .u8 0, .int .u8 0, .int .u8 0, .int .u8 0, .int .u8 0, .int .u8 0, .int .u8 0, .int .u8 0, .int .u8 0, .int .u8 0, .int .u8 0, .int .u8 0, .int .u8 0, .int .u8 0, .int .u8 0, .int .u8 0, .int .u8 0, .int .u8 0, .int .u8 0, .int .u8 0, .int .u8 0, .int .u8 0, .int .u8 0, .int .u8 0, .int .u8 0] 24)
        have hd8 : DB (wr.alloc (.cells (BV d).toArray 24)) wr.heap.size 24 d := heap_alloc_new _ _
        have hb8 : Below wr.heap.size wr (wr.alloc (.cells (BV d).toArray 24)) := (Below.refl _ _).alloc (Nat.le_refl _) _
        have hq8 := hq.out.step hb8
        have ho8 := hq8.one
        have hz9 := heap_alloc_last (wr.alloc (.cells (BV d).toArray 24)) (.cells #[.int .u8 0, .int .u8 0, .int .u8 0, .int .u8 0, .int .u8 0, .int .u8 0, .int .u8 0, .int .u8 0, .int .u8 0, .int .u8 0, .int .u8 0, .int .u8 0, .int .u8 0, .int .u8 0, .int .u8 0, .int .u8 0, .int .u8 0, .int .u8 0, .int .u8 0, .int .u8 0, .int .u8 0, .int .u8 0, .int .u8 0, .int .u8 0, .int .u8 0, .int .u8 0, .int .u8 0, .int .u8 0, .int .u8 0, .int .u8 0, .int .u8 0, .int .u8 0] 24)
        have hd9 : DB ((wr.alloc (.cells (BV d).toArray 24)).alloc (.cells (BV e).toArray 24)) (wr.heap.size + 1) 24 e := by
          have := heap_alloc_new (wr.alloc (.cells (BV d).toArray 24)) (.cells (BV e).toArray 24)
          rw [World.size_alloc] at this
          exact this
        have hb9 : Below (wr.heap.size + 1) (wr.alloc (.cells (BV d).toArray 24)) ((wr.alloc (.cells (BV d).toArray 24)).alloc (.cells (BV e).toArray 24)) := (Below.refl _ _).alloc (by simp) _
        have hq9 := Lib.hid (hq8.step (by simpa using hb9))
        have hd8' := Lib.hid (hd8.below hb9 (by omega))
        have hd9 := Lib.hid hd9
        rw [World.size_alloc] at hz9
        have hset : ((wr.alloc (.cells (BV d).toArray 24)).alloc (.cells #[.int .u8 0, .int .u8 0, .int .u8 0, .int .u8 0, .int .u8 0, .int .u8 0, .int .u8 0, .int .u8 0, .int .u8 0, .int .u8 0, .int .u8 0, .int .u8 0, .int .u8 0, .int .u8 0, .int .u8 0, .int .u8 0, .int .u8 0, .int .u8 0, .int .u8 0, .int .u8 0, .int .u8 0, .int .u8 0, .int .u8 0, .int .u8 0, .int .u8 0, .int .u8 0, .int .u8 0, .int .u8 0, .int .u8 0, .int .u8 0, .int .u8 0, .int .u8 0] 24)).setRow (wr.heap.size + 1) (BV e).toArray = (wr.alloc (.cells (BV d).toArray 24)).alloc (.cells (BV e).toArray 24) := by
          have := World.setRow_alloc_new (wr.alloc (.cells (BV d).toArray 24)) #[.int .u8 0, .int .u8 0, .int .u8 0, .int .u8 0, .int .u8 0, .int .u8 0, .int .u8 0, .int .u8 0, .int .u8 0, .int .u8 0, .int .u8 0, .int .u8 0, .int .u8 0, .int .u8 0, .int .u8 0, .int .u8 0, .int .u8 0, .int .u8 0, .int .u8 0, .int .u8 0, .int .u8 0, .int .u8 0, .int .u8 0, .int .u8 0, .int .u8 0, .int .u8 0, .int .u8 0, .int .u8 0, .int .u8 0, .int .u8 0, .int .u8 0, .int .u8 0] (BV e).toArray 24
          rw [World.size_alloc] at this
          exact this
        clear hRr hb8 hb9 hq8 hd8
        go_wp2_with (first
          | (refine wpList_load_mid rfl 24 _ rfl b (off + k * 32) rfl _ _ hel hu rfl ?cp ?_; case cp => rw [hi, hld.out])
          | (refine wpList_store_row rfl 24 _ _ rfl wr.heap.size _ rfl rfl 24 _ hz ?cs ?ct ?cu ?_
             case cs => rw [hi, hsd.out]
             case ct => rw [hsd.out]; rfl
             case cu => exact BV_all _
             rw [World.setRow_alloc_new])
          | (refine wpList_load_row rfl 24 _ rfl gA rfl 24 _ (0, 0) _ ho8 hu rfl ?ca ?_; case ca => rw [hi, hse.out])
          | (refine wpList_store_row rfl 24 _ _ rfl (wr.heap.size + 1) _ rfl rfl 24 _ hz9 ?cs2 ?ct2 ?cu2 ?_
             case cs2 => rw [hi, hse.out]
             case ct2 => rw [hse.out]; rfl
             case cu2 => exact BV_all _
             rw [hset]))
        have hsz9 : ((wr.alloc (.cells (BV d).toArray 24)).alloc (.cells (BV e).toArray 24)).heap.size = wr.heap.size + 2 := by simp
        have hNr : N ≤ wr.heap.size := by
          have h1 := hq.out.own
          have := (World.ownsRow.lt h1 b rfl)
          omega
        clear hset hz9 hz ho8 hel
        generalize (wr.alloc (.cells (BV d).toArray 24)).alloc (.cells (BV e).toArray 24) = W9 at *
        generalize hP8 : wr.heap.size = P8 at *
        have hC8 : Hid (∀ W, Below W9.heap.size W9 W → Calls Tryd.prog 16 #[.agg (BV e).toArray, .agg (BV d).toArray] W fun x W' => x = .returned (.agg (BV (chainH e d)).toArray) ∧ Below W.heap.size W W') := fun W hW => by
          have q := hq9.out.step hW
          exact chain_any e d he.out hx32 W (hKH.out.below q.be h0) (Nat.lt_of_lt_of_le h0 q.be.size)
        have heq : Hid (∀ W, (Op.equalIn 10000 24 (.agg (BV (chainH e d)).toArray) (.agg (BV (chainH e d)).toArray)).run Tryd.prog W = .ok true W) := fun W => by
          rw [eq_digest (chainH e d) (chainH e d) (tagH_length _ _) (tagH_length _ _) W, beq_self_eq_true]
        refine wp_region_pre 6 2 (fun W => Below W9.heap.size W9 W) (fun W W' => W.heap.size ≤ W'.heap.size)
          (fun i v W => match i with
            | 0 => v = .agg (BV e).toArray
            | 1 => v = .agg (BV d).toArray
            | 2 => v = .agg (BV (chainH e d)).toArray
            | 3 => v = .agg (BV e).toArray
            | 4 => v = .agg (BV d).toArray
            | 5 => v = .agg (BV (chainH e d)).toArray
            | _ => True) (fun _ => false)
          (by kernel_rfl) (by kernel_rfl) (by kernel_rfl) (by kernel_rfl) (by kernel_rfl) (by kernel_rfl) (by kernel_rfl) ?_ (fun _ _ h => h) (dN (Below.refl _ _) 1) ?_ ?_
        · intro i v W W' hb hF
          match i, hF with
          | 0, h => exact h
          | 1, h => exact h
          | 2, h => exact h
          | 3, h => exact h
          | 4, h => exact h
          | 5, h => exact h
          | _ + 6, _ => trivial
        · refine ⟨?_, ?_, ?_, ?_, ?_, ?_, trivial⟩
          · refine stepJ_any rfl fun ac W hA hG hD K hK => ?_
            have h5 := hA.getD (t := 5) (by kernel_rfl)
            rw [if_pos (by rfl)]
            exact wp_load_mid 24 _ rfl gA 0 h5 (BV e) _ (range_of (hq9.out.step hG).one) huH.out rfl (by rw [hiH.out, BV_length, he.out]) (hK _ _ hG (Nat.le_refl _) rfl (fun h => by cases h))
          · refine stepJ_any rfl fun ac W hA hG hD K hK => ?_
            have h8 := hA.getD (t := 8) (by kernel_rfl)
            rw [if_pos (by rfl)]
            exact wp_load_mid 24 _ rfl P8 0 h8 (BV d) _ (range_of (hd8'.out.below hG hd8'.out.lt)) huH.out rfl (by rw [hiH.out, BV_length, hx32]) (hK _ _ hG (Nat.le_refl _) rfl (fun h => by cases h))
          · refine stepJ_any rfl fun ac W hA hG hD K hK => ?_
            have h22 := hD.get 0 22 _ rfl rfl (by kernel_rfl)
            have h23 := hD.get 1 23 _ rfl rfl (by kernel_rfl)
            simp only [Array.getD_eq_getD_getElem?] at h22 h23
            rw [if_pos (by rfl)]
            refine wp_call (f := 16) (args := #[.agg (BV e).toArray, .agg (BV d).toArray]) (by simp [execOp, Act.eval, h22, h23, go_sem]) ((hC8.out W hG).mono fun e W' he => ?_)
            obtain ⟨rfl, hbw⟩ := he
            exact hK _ _ (hG.trans (hbw.mono hG.size)) hbw.size rfl (fun h => by cases h)
          · refine stepJ_any rfl fun ac W hA hG hD K hK => ?_
            have h6 := hA.getD (t := 6) (by kernel_rfl)
            rw [if_pos (by rfl)]
            exact wp_load_mid 24 _ rfl gB 0 h6 (BV e) _ (range_of (hq9.out.step hG).two) huH.out rfl (by rw [hiH.out, BV_length, he.out]) (hK _ _ hG (Nat.le_refl _) rfl (fun h => by cases h))
          · refine stepJ_any rfl fun ac W hA hG hD K hK => ?_
            have h8 := hA.getD (t := 8) (by kernel_rfl)
            rw [if_pos (by rfl)]
            exact wp_load_mid 24 _ rfl P8 0 h8 (BV d) _ (range_of (hd8'.out.below hG hd8'.out.lt)) huH.out rfl (by rw [hiH.out, BV_length, hx32]) (hK _ _ hG (Nat.le_refl _) rfl (fun h => by cases h))
          · refine stepJ_any rfl fun ac W hA hG hD K hK => ?_
            have h25 := hD.get 3 25 _ rfl rfl (by kernel_rfl)
            have h26 := hD.get 4 26 _ rfl rfl (by kernel_rfl)
            simp only [Array.getD_eq_getD_getElem?] at h25 h26
            rw [if_pos (by rfl)]
            refine wp_call (f := 17) (args := #[.agg (BV e).toArray, .agg (BV d).toArray]) (by simp [execOp, Act.eval, h25, h26, go_sem]) ((rChain_any e d he.out hx32 W).mono fun e W' he => ?_)
            obtain ⟨rfl, hbw⟩ := he
            exact hK _ _ (hG.trans (hbw.mono hG.size)) hbw.size rfl (fun h => by cases h)
        · intro n T W hG hF hne hltb
          have e22 : T 22 = .agg (BV e).toArray := hF 0 _ rfl (by omega)
          have e23 : T 23 = .agg (BV d).toArray := hF 1 _ rfl (by omega)
          have e24 : T 24 = .agg (BV (chainH e d)).toArray := hF 2 _ rfl (by omega)
          have e25 : T 25 = .agg (BV e).toArray := hF 3 _ rfl (by omega)
          have e26 : T 26 = .agg (BV d).toArray := hF 4 _ rfl (by omega)
          have e27 : T 27 = .agg (BV (chainH e d)).toArray := hF 5 _ rfl (by omega)
          clear hF hne hltb
          simp only [List.take, fillT, List.setIfInBounds_toArray, List.set_cons_zero, List.set_cons_succ, e22, e23, e24, e25, e26, e27]
          have hqW := hq9.out.step hG
          have hlc : (chainH e d).length = 32 := tagH_length _ _
          have hgAB := hABH.out
          refine wpAny_ready (rs := [6]) (by kernel_rfl) (by simp) (AllReady.cons (o := ⟨none, .store 24 (.tmp 5) (.tmp 24), _, _, _, none⟩) rfl (fun K1 hK1 => ?_) AllReady.nil)
          rw [if_pos (by rfl)]
          refine wp_store_row 24 _ _ rfl gA (BV (chainH e d)).toArray rfl rfl 24 _ hqW.one (by rw [hiH.out, List.size_toArray, BV_length, hlc]) (by rw [List.size_toArray, List.size_toArray, BV_length, BV_length, hlc, he.out]) (BV_all _) ?_
          refine hK1 _ _ ?_
          clear hK1 K1
          refine wpAny_ready (rs := [7]) (by kernel_rfl) (by simp) (AllReady.cons (o := ⟨none, .store 24 (.tmp 6) (.tmp 27), _, _, _, none⟩) rfl (fun K1 hK1 => ?_) AllReady.nil)
          rw [if_pos (by rfl)]
          refine wp_store_row 24 _ _ rfl gB (BV (chainH e d)).toArray rfl rfl 24 _ (hqW.two.far _ (by omega)) (by rw [hiH.out, List.size_toArray, BV_length, hlc]) (by rw [List.size_toArray, List.size_toArray, BV_length, BV_length, hlc, he.out]) (BV_all _) ?_
          refine hK1 _ _ ?_
          clear hK1 K1
          refine wpAny_done (by kernel_rfl) ?_ _
          simp only [Act.put]
          have hq10 := Lib.hid (hqW.store (chainH e d) hgA' hgB' hgAl hgBl hgAB)
          have hd8'' := Lib.hid (((hd8'.out.below hG hd8'.out.lt).far (BV (chainH e d)).toArray (k := gA) (by omega)).far (BV (chainH e d)).toArray (k := gB) (by omega))
          have hd9' := Lib.hid (((hd9.out.below hG hd9.out.lt).far (BV (chainH e d)).toArray (k := gA) (by omega)).far (BV (chainH e d)).toArray (k := gB) (by omega))
          clear e22 e23 e24 e25 e26 e27 hqW hG hgAB hlc hd8' hd9 hq9 hC8 hsz9
          generalize (W.setRow gA (BV (chainH e d)).toArray).setRow gB (BV (chainH e d)).toArray = W10 at *
          have hcl : (chainH e d).length = 32 := tagH_length _ _
          have hT9 : Hid (∀ W g c', Below W10.heap.size W10 W → OB W W10.heap.size (.slice (some ⟨g, 0, none⟩) 64 c') (e ++ d) → Calls Tryd.prog 15 #[.string ⟨#[99, 104, 97, 105, 110]⟩, .slice (some ⟨g, 0, none⟩) 64 c'] W fun x W' => x = .returned (.agg (BV (chainH e d)).toArray) ∧ Below W.heap.size W W') := fun W g c' hW hob => by
            have q := hq10.out.step hW
            have hl := he.out
            have h := Tagged_any chainB (by decide) (e ++ d) (by simp; omega) W _ c' hob.reads.1 (fun h => by cases h) (hKH.out.below q.be h0) (Nat.lt_of_lt_of_le h0 q.be.size)
            rwa [show (e ++ d).length = 64 by simp; omega] at h
          go_wp2_with fail
          refine wp_region_pre 13 0 (fun W => Below W10.heap.size W10 W) (fun W W' => Spared W10.heap.size e d W W')
            (fun i v W => match i with
              | 0 => v = .agg (BV (chainH e d)).toArray
              | 1 => v = .agg (BV (chainH e d)).toArray
              | 2 => v = .bool false
              | 3 => v = .bool false
              | 4 => v = .agg (BV (chainH e d)).toArray
              | 5 => ∃ g, v = .slice (some ⟨g, 0, none⟩) 0 0
              | 6 => v = .slice (some ⟨P8 + 1, 0, none⟩) 32 32
              | 7 => ∃ g c, v = .slice (some ⟨g, 0, none⟩) 32 c ∧ OB W W10.heap.size (.slice (some ⟨g, 0, none⟩) 32 c) e
              | 8 => v = .slice (some ⟨P8, 0, none⟩) 32 32
              | 9 => ∃ g c, v = .slice (some ⟨g, 0, none⟩) 64 c ∧ OB W W10.heap.size (.slice (some ⟨g, 0, none⟩) 64 c) (e ++ d)
              | 10 => v = .agg (BV (chainH e d)).toArray
              | 11 => v = .bool false
              | 12 => v = .bool false
              | _ => True) (fun _ => false)
            (by kernel_rfl) (by kernel_rfl) (by kernel_rfl) (by kernel_rfl) (by kernel_rfl) (by kernel_rfl) (by kernel_rfl) ?_ (fun _ _ h => h.size) (dN (Below.refl _ _) 1) ?_ ?_
          · intro i v W W' hb hF
            match i, hF with
            | 0, h => exact h
            | 1, h => exact h
            | 2, h => exact h
            | 3, h => exact h
            | 4, h => exact h
            | 5, h => exact h
            | 6, h => exact h
            | 7, ⟨g, c, h1, h2⟩ => exact ⟨g, c, h1, hb.one _ h2⟩
            | 8, h => exact h
            | 9, ⟨g, c, h1, h2⟩ => exact ⟨g, c, h1, hb.two _ h2⟩
            | 10, h => exact h
            | 11, h => exact h
            | 12, h => exact h
            | _ + 13, _ => trivial
          · refine ⟨?_, ?_, ?_, ?_, ?_, ?_, ?_, ?_, ?_, ?_, ?_, ?_, ?_, trivial⟩
            · refine stepJ_any rfl fun ac W hA hG hD K hK => ?_
              have h5 := hA.getD (t := 5) (by kernel_rfl)
              rw [if_pos (by rfl)]
              exact wp_load_mid 24 _ rfl gA 0 h5 (BV (chainH e d)) _ (range_of (hq10.out.step hG).one) huH.out rfl (by rw [hiH.out, BV_length, hcl]) (hK _ _ hG (Spared.of (Below.refl _ _) hG.size) rfl (fun h => by cases h))
            · refine stepJ_any rfl fun ac W hA hG hD K hK => ?_
              have h6 := hA.getD (t := 6) (by kernel_rfl)
              rw [if_pos (by rfl)]
              exact wp_load_mid 24 _ rfl gB 0 h6 (BV (chainH e d)) _ (range_of (hq10.out.step hG).two) huH.out rfl (by rw [hiH.out, BV_length, hcl]) (hK _ _ hG (Spared.of (Below.refl _ _) hG.size) rfl (fun h => by cases h))
            · refine stepJ_val' (fun _ h => Spared.of (Below.refl _ _) h.size) rfl rfl rfl fun ac W hA hG hD => ⟨_, ?_, rfl⟩
              have h28 := hD.get 0 28 _ rfl rfl (by kernel_rfl)
              have h29 := hD.get 1 29 _ rfl rfl (by kernel_rfl)
              simp only [Array.getD_eq_getD_getElem?] at h28 h29
              have := heq.out W
              simp [execOp, Act.eval, h28, h29, go_sem, this]
            · refine stepJ_val' (fun _ h => Spared.of (Below.refl _ _) h.size) rfl rfl rfl fun ac W hA hG hD => ⟨_, ?_, rfl⟩
              have h30 := hD.get 2 30 _ rfl rfl (by kernel_rfl)
              simp only [Array.getD_eq_getD_getElem?] at h30
              simp [execOp, Act.eval, h30, go_sem]
            · refine stepJ_any rfl fun ac W hA hG hD K hK => ?_
              have hgd := hD.get 3 31 _ rfl rfl (by kernel_rfl)
              have hgd := slot_bool hgd
              have h5 := hA.getD (t := 5) (by kernel_rfl)
              rw [if_pos (by simp [Region.wanted, yielded, hgd])]
              exact wp_load_mid 24 _ rfl gA 0 h5 (BV (chainH e d)) _ (range_of (hq10.out.step hG).one) huH.out rfl (by rw [hiH.out, BV_length, hcl]) (hK _ _ hG (Spared.of (Below.refl _ _) hG.size) rfl (fun h => by cases h))
            · refine stepJ_any rfl fun ac W hA hG hD K hK => ?_
              have hgd := hD.get 3 31 _ rfl rfl (by kernel_rfl)
              have hgd := slot_bool hgd
              rw [if_pos (by simp [Region.wanted, yielded, hgd])]
              refine wp_val (v := .slice (some ⟨W.heap.size, 0, none⟩) 0 0) (w' := W.alloc (.cells #[] 5)) (by simp [execOp, Act.eval, go_sem]) (hK _ _ (hG.alloc hG.size _) (Spared.of ((Below.refl _ _).alloc (Nat.le_refl _) _) hG.size) ⟨_, rfl⟩ (fun h => by cases h))
            · refine stepJ_valG' (fun _ h => Spared.of (Below.refl _ _) h.size) rfl rfl fun ac W hA hG hD => ?_
              have hgd := hD.get 3 31 _ rfl rfl (by kernel_rfl)
              have hgd := slot_bool hgd
              refine ⟨by simp [Region.wanted, yielded, hgd], _, ?_, rfl⟩
              have h9 := hA.getD (t := 9) (by kernel_rfl)
              simp only [Array.getD_eq_getD_getElem?] at h9
              have := slice_digest (P8 + 1) 0 W
              simp [execOp, Act.eval, h9, this, Result.andThen]
            · refine stepJ_any rfl fun ac W hA hG hD K hK => ?_
              have hgd := hD.get 3 31 _ rfl rfl (by kernel_rfl)
              have hgd := slot_bool hgd
              obtain ⟨g0, h33⟩ := hD.get 5 33 _ rfl rfl (by kernel_rfl)
              have h34 := hD.get 6 34 _ rfl rfl (by kernel_rfl)
              rw [if_pos (by simp [Region.wanted, yielded, hgd])]
              obtain ⟨c', w', hr, ho, hbw⟩ := append_first W W10.heap.size g0 (P8 + 1) e 24 22 he.out (hd9'.out.below hG hd9'.out.lt) hG.size
              exact Lib.wp_append_run W (.tmp 33) (.tmp 34) 22 22 rfl _ _ h33 h34 _ w' hr (hK _ _ (hG.trans (hbw.mono hG.size)) (Spared.of hbw hG.size) ⟨_, c', rfl, ho⟩ (fun h => by cases h))
            · refine stepJ_valG' (fun _ h => Spared.of (Below.refl _ _) h.size) rfl rfl fun ac W hA hG hD => ?_
              have hgd := hD.get 3 31 _ rfl rfl (by kernel_rfl)
              have hgd := slot_bool hgd
              refine ⟨by simp [Region.wanted, yielded, hgd], _, ?_, rfl⟩
              have h8 := hA.getD (t := 8) (by kernel_rfl)
              simp only [Array.getD_eq_getD_getElem?] at h8
              have := slice_digest P8 0 W
              simp [execOp, Act.eval, h8, this, Result.andThen]
            · refine stepJ_any rfl fun ac W hA hG hD K hK => ?_
              have hgd := hD.get 3 31 _ rfl rfl (by kernel_rfl)
              have hgd := slot_bool hgd
              obtain ⟨g0, c', h35, ho35⟩ := hD.get 7 35 _ rfl rfl (by kernel_rfl)
              have h36 := hD.get 8 36 _ rfl rfl (by kernel_rfl)
              rw [if_pos (by simp [Region.wanted, yielded, hgd])]
              obtain ⟨g', c2, w', hr, ho, hsp⟩ := append_second W W10.heap.size g0 c' P8 e d 24 22 he.out hx32 ho35 (hd8''.out.below hG hd8''.out.lt) hG.size
              exact Lib.wp_append_run W (.tmp 35) (.tmp 36) 22 22 rfl _ _ h35 h36 _ w' hr (hK _ _ (hG.trans hsp.below) hsp ⟨_, c2, rfl, ho⟩ (fun h => by cases h))
            · refine stepJ_any rfl fun ac W hA hG hD K hK => ?_
              have hgd := hD.get 3 31 _ rfl rfl (by kernel_rfl)
              have hgd := slot_bool hgd
              obtain ⟨g0, c', h37, ho37⟩ := hD.get 9 37 _ rfl rfl (by kernel_rfl)
              simp only [Array.getD_eq_getD_getElem?] at h37
              rw [if_pos (by simp [Region.wanted, yielded, hgd])]
              refine wp_call (f := 15) (args := #[.string ⟨#[99, 104, 97, 105, 110]⟩, .slice (some ⟨g0, 0, none⟩) 64 c']) (by simp [execOp, Act.eval, go_sem, h37]) ((hT9.out W g0 c' hG ho37).mono fun e W' he => ?_)
              obtain ⟨rfl, hbw⟩ := he
              exact hK _ _ (hG.trans (hbw.mono hG.size)) (Spared.of hbw hG.size) rfl (fun h => by cases h)
            · refine stepJ_valG' (fun _ h => Spared.of (Below.refl _ _) h.size) rfl rfl fun ac W hA hG hD => ?_
              have hgd := hD.get 3 31 _ rfl rfl (by kernel_rfl)
              have hgd := slot_bool hgd
              refine ⟨by simp [Region.wanted, yielded, hgd], _, ?_, rfl⟩
              have h32 := hD.get 4 32 _ rfl rfl (by kernel_rfl)
              have h38 := hD.get 10 38 _ rfl rfl (by kernel_rfl)
              simp only [Array.getD_eq_getD_getElem?] at h32 h38
              have := heq.out W
              simp [execOp, Act.eval, h32, h38, go_sem, this]
            · refine stepJ_val' (fun _ h => Spared.of (Below.refl _ _) h.size) rfl rfl rfl fun ac W hA hG hD => ⟨_, ?_, rfl⟩
              have h31 := hD.get 3 31 _ rfl rfl (by kernel_rfl)
              have h39 := hD.get 11 39 _ rfl rfl (by kernel_rfl)
              simp only [Array.getD_eq_getD_getElem?] at h31 h39
              simp [execOp, Act.eval, h31, h39, go_sem]
          · intro n T W hG hF hne hltb
            have e28 : T 28 = .agg (BV (chainH e d)).toArray := hF 0 _ rfl (by omega)
            have e29 : T 29 = .agg (BV (chainH e d)).toArray := hF 1 _ rfl (by omega)
            have e30 : T 30 = .bool false := hF 2 _ rfl (by omega)
            have e31 : T 31 = .bool false := hF 3 _ rfl (by omega)
            have e32 : T 32 = .agg (BV (chainH e d)).toArray := hF 4 _ rfl (by omega)
            obtain ⟨g33, e33⟩ : ∃ g, T 33 = .slice (some ⟨g, 0, none⟩) 0 0 := hF 5 _ rfl (by omega)
            have e34 : T 34 = .slice (some ⟨P8 + 1, 0, none⟩) 32 32 := hF 6 _ rfl (by omega)
            obtain ⟨g35, c35, e35, -⟩ : ∃ g c, T 35 = .slice (some ⟨g, 0, none⟩) 32 c ∧ OB W W10.heap.size (.slice (some ⟨g, 0, none⟩) 32 c) e := hF 7 _ rfl (by omega)
            have e36 : T 36 = .slice (some ⟨P8, 0, none⟩) 32 32 := hF 8 _ rfl (by omega)
            obtain ⟨g37, c37, e37, -⟩ : ∃ g c, T 37 = .slice (some ⟨g, 0, none⟩) 64 c ∧ OB W W10.heap.size (.slice (some ⟨g, 0, none⟩) 64 c) (e ++ d) := hF 9 _ rfl (by omega)
            have e38 : T 38 = .agg (BV (chainH e d)).toArray := hF 10 _ rfl (by omega)
            have e39 : T 39 = .bool false := hF 11 _ rfl (by omega)
            have e40 : T 40 = .bool false := hF 12 _ rfl (by omega)
            clear hF hne hltb
            simp only [List.take, fillT, List.setIfInBounds_toArray, List.set_cons_zero, List.set_cons_succ, e28, e29, e30, e31, e32, e33, e34, e35, e36, e37, e38, e39, e40]
            refine wpAny_done (by kernel_rfl) ?_ _
            have hq11 := Lib.hid (hq10.out.step hG)
            have hlc : Hid ((chainH e d).length = 32) := tagH_length _ _
            clear e28 e29 e30 e31 e32 e33 e34 e35 e36 e37 e38 e39 e40 hG hT9 heq hq10 hd8'' hd9'
            go_wp2_with fail
            go_roundw
            case rel => exact ⟨k + 1, chainH e d, by go_num, by omega, hlc, hq11⟩
            case measure => simp [intOf]; omega
      · have hkl' : ¬ (k : Int) < l.length := by omega
        go_wp2_with fail
        go_ret
        exact ⟨rfl, hq.out.be⟩
end Go.Proofs.YtjfoihlelkfaoaaDoor
