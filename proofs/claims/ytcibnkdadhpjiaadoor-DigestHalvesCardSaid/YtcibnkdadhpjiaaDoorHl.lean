/- DigestHalves: the law. -/
import Derived.Test.YtcibnkdadhpjiaaDoorSn
import Derived.Test.YtcibnkdadhpjiaaDoorOf
import Derived.Deep.DeepCutAuto
import Derived.Deep.CutBlock
namespace Go.Proofs.YtcibnkdadhpjiaaDoor
open Go.RowKit

/-- What stands through a law: the memory that was there, and a list of digests of the law's own. -/
structure Keeps (w : World) (v : Value) (l : List (List UInt8)) (Q : World → Prop) : Prop where
  below : ∀ W, Q W → Below w.heap.size w W
  drew : ∀ W, Q W → Q W.drew
  alloc : ∀ W o, Q W → Q (W.alloc o)
  step : ∀ W W', Q W → Below W.heap.size W W' → Q W'
  own : ∀ W, Q W → OD W w.heap.size v l
  kt : ∀ W, Q W → KT W
  pos : ∀ W, Q W → 0 < W.heap.size
theorem keeps_of {w : World} {v : Value} {l : List (List UInt8)} (hK : KT w) (h0 : 0 < w.heap.size) : Keeps w v l (fun W => Below w.heap.size w W ∧ OD W w.heap.size v l) where
  below _ h := h.1
  drew _ h := ⟨dN h.1 1, h.2⟩
  alloc _ o h := ⟨h.1.alloc h.1.size o, h.2.below ((Below.refl _ _).alloc (Nat.le_refl _) o)⟩
  step _ _ h hb := ⟨h.1.trans (hb.mono h.1.size), h.2.below hb⟩
  own _ h := h.2
  kt _ h := hK.below h.1 h0
  pos _ h := Nat.lt_of_lt_of_le h0 h.1.size

theorem half_unique (n j : Nat) (h1 : 2 ^ j < n) (h2 : n ≤ 2 * 2 ^ j) (hm : n ≤ 2 ^ 63) : half n = 2 ^ j := by
  obtain ⟨a, b, -⟩ := half_bounds n (by have := Nat.two_pow_pos j; omega) hm
  obtain ⟨m, hm⟩ : ∃ m, half n = 2 ^ m := ⟨_, rfl⟩
  rw [hm] at a b ⊢
  rcases Nat.lt_trichotomy j m with h | h | h
  · have := Nat.pow_le_pow_right (n := 2) (by omega) (show j + 1 ≤ m by omega)
    rw [Nat.pow_succ] at this
    omega
  · rw [h]
  · have := Nat.pow_le_pow_right (n := 2) (by omega) (show m + 1 ≤ j by omega)
    rw [Nat.pow_succ] at this
    omega

theorem BV_length32 {d : List UInt8} (h : d.length = 32) : (BV d).length = 32 := by rw [BV_length, h]
/-- Two blocks of digests that are stored into, in whatever order. -/
structure Ready (w Y : World) (N p q : Nat) (a b : List UInt8) : Prop where
  fin1 : DB ((Y.setCells p 0 (BV a)).setCells q 0 (BV b)) p 24 a ∧ DB ((Y.setCells p 0 (BV a)).setCells q 0 (BV b)) q 24 b ∧ Below N w ((Y.setCells p 0 (BV a)).setCells q 0 (BV b))
  fin2 : DB ((Y.setCells q 0 (BV a)).setCells p 0 (BV b)) q 24 a ∧ DB ((Y.setCells q 0 (BV a)).setCells p 0 (BV b)) p 24 b ∧ Below N w ((Y.setCells q 0 (BV a)).setCells p 0 (BV b))
theorem two_there {w Y : World} {N p q : Nat} {a b : List UInt8} (ha : a.length = 32) (hb : b.length = 32) (hp : DB Y p 24 zeroD) (hq : DB Y q 24 zeroD) (hY : Below N w Y) (hpq : p ≠ q) (hNp : N ≤ p) (hNq : N ≤ q) :
    Y.there p 0 (BV a).length ∧ Y.there q 0 (BV a).length ∧ (Y.setCells p 0 (BV a)).there q 0 (BV b).length ∧ (Y.setCells q 0 (BV a)).there p 0 (BV b).length ∧ Ready w Y N p q a b := by
  have la : (BV a).length = zeroD.length := by rw [BV_length32 ha]; rfl
  have lb : (BV b).length = zeroD.length := by rw [BV_length32 hb]; rfl
  have e1 := setCells_row hp (l := a) (by decide) ha
  have e2 := setCells_row hq (l := a) (by decide) ha
  have f1 := hq.far (BV a).toArray (k := p) (by omega)
  have f2 := hp.far (BV a).toArray (k := q) (by omega)
  have e3 := setCells_row f1 (l := b) (by decide) hb
  have e4 := setCells_row f2 (l := b) (by decide) hb
  have lp := hp.lt
  have lq := hq.lt
  refine ⟨there_of hp (Nat.le_of_eq la), there_of hq (Nat.le_of_eq la), by rw [e1]; exact there_of f1 (Nat.le_of_eq lb), by rw [e2]; exact there_of f2 (Nat.le_of_eq lb), ?_, ?_⟩
  · rw [e1, e3]
    exact ⟨(hp.store (e := a)).far _ (by omega), f1.store, below_row (below_row hY _ hNp (by omega)) _ hNq (by simp; omega)⟩
  · rw [e2, e4]
    exact ⟨(hq.store (e := a)).far _ (by omega), f2.store, below_row (below_row hY _ hNq (by omega)) _ hNp (by simp; omega)⟩
theorem slice_digest (D off : Nat) (W : World) : (Instr.sliceAt 24 (.pointer (some ⟨D, off, none⟩)) none none none).run Tryd.prog W = .ok (.slice (some ⟨D, off, none⟩) 32 32) W := by kernel_rfl
theorem range_reads {W : World} {B b off : Nat} {d : List UInt8} (hb : b < B) (hr : W.rangeAt b off (BV d)) : RBs W B (some ⟨b, off, none⟩) d := fun _ => ⟨b, off, rfl, hb, fun j hj => hr j _ (by simp [BV, hj])⟩

/-- A digest is appended, at a step of a region that draws its order. -/
theorem step_digest {ops : Array Oper} {o : Oper} {a : Act} {K : Act → World → Prop} {Q : Exit → Act → World → Prop} {E : Prop} {w : World} (hgd : o.guard = none) (s x : Operand)
    (ho : o.op = .call { callee := .builtin .append, args := #[s, x], argTypes := #[22, 22] })
    (B : Nat) (v : Value) (l : List UInt8) (hs : a.eval s = v) (hown : OB w B v l) (g : Nat) (d : List UInt8) (hx : a.eval x = .slice (some ⟨g, 0, none⟩) 32 32) (hd : DB w g 24 d) (h32 : d.length = 32) (hlen : l.length ≤ 1000) (hB : B ≤ w.heap.size)
    (h : ∀ g' c w', OB w' B (.slice (some ⟨g', 0, none⟩) (l.length + 32) c) (l ++ d) → Below B w w' → K (a.put o.dst (.slice (some ⟨g', 0, none⟩) (l.length + 32) c)) w') : if Region.wanted o (yielded ops a.tmps) = true then Oper.wp Tryd.prog o a w K Q else E := by
  obtain ⟨i0, hi0, hz0, hz1, hz2⟩ := info_parts Tryd.info8
  have hc : ∀ j u, (BV d)[j]? = some u → w.cell? ((⟨g, 0, none⟩ : Addr).add j) = some u := fun j u hu => by rw [add_none, cell_of_row w g _ _ _ _ hd]; simpa using hu
  refine step_append_lies w hgd s x 22 ho B 5 i0 (.int .u8 0) 1 1 Tryd.underlying22 hi0 hz0 hz1 hz2 rfl (by decide) v l.length (BV l) hs hown ⟨g, 0, none⟩ 32 32 (BV d) hx (by rw [BV_length, h32]) hc (BV_one d) (by omega) (by unfold maxLen; omega) (by omega) hB _ rfl ?_
  intro g' cap w1 h1 h2 h3 _
  refine h g' cap w1 ?_ ((Below.refl B w).grown h2 hB (fun k e => ?_))
  · unfold OB
    rw [List.length_append, BV_append, h32]
    exact h1
  · exact (hown.lt k e).1
attribute [local irreducible] World.there World.setCells Calls
set_option maxRecDepth 100000 in
set_option maxHeartbeats 1000000 in
theorem halves_any (s : List UInt8) (w : World) (A : Option Addr) (c : Nat) (hr : RBs w w.heap.size A s) (hs : s.length ≤ 9223372036854775807) (hK : KT w) (h0 : 0 < w.heap.size) : Calls Tryd.prog 5 #[.slice A s.length c] w fun e w' => e = .returned (.bool true) ∧ Below w.heap.size w w' := by
  have hKH := Lib.hid hK
  have hrH := Lib.hid hr
  have hlen : (dsOf s).length ≤ 24 := by rw [dsOf_length]; omega
  have h32 := dsTo_32 s (min s.length 24)
  rw [← dsOf_eq] at h32
  clear hK hr
  go_enter Tryd.func5, Tryd.ntmps5
  go_wp2_with fail
  refine (sane_any w hKH.out h0).mono ?_
  rintro e w1 ⟨rfl, hb1⟩
  have hD := digestsOf_any s w1 A c (RBs.below hrH.out hb1) hs
  have hD' := Lib.hid hD
  clear hD
  go_wp2_with fail
  refine hD'.out.mono ?_
  rintro e w2 ⟨v, rfl, hod, hb2⟩
  generalize dsOf s = l at *
  have hod2 : OD w2 w.heap.size v l := ownsRow_mono hod hb1.size
  obtain ⟨a, cap, rfl, -⟩ := hod.reads h32
  obtain ⟨Q, F, q2⟩ : ∃ Q, Keeps w (.slice a l.length cap) l Q ∧ Q w2 := ⟨_, keeps_of hKH.out h0, hb1.trans (hb2.mono hb1.size), hod2⟩
  have rd : ∀ W, Q W → RD W W.heap.size l a cap := fun W q => by
    obtain ⟨a', cap', e, h⟩ := (F.own W q).reads h32
    injection e with e1 e2 e3
    subst e1; subst e3
    exact h
  have cT : ∀ W, Q W → ∀ (l' : List (List UInt8)) (a' : Option Addr) (cap' : Nat), l'.length ≤ 100 → RD W W.heap.size l' a' cap' → Calls Tryd.prog 8 #[.slice a' l'.length cap'] W fun e W' => e = .returned (.agg (BV (treeH l')).toArray) ∧ Q W' := fun W q l' a' cap' hl hR =>
    (Tree_any l' (by omega) W a' cap' hR (F.kt W q) (F.pos W q)).mono fun _ _ ⟨h1, h2⟩ => ⟨h1, F.step _ _ q h2⟩
  have rd' := Lib.hid rd
  have cT' := Lib.hid cT
  clear rd cT hod hod2 hb1 hb2 hD'
  by_cases hl0 : l.length = 0
  · have hl : l = [] := List.eq_nil_of_length_eq_zero hl0
    subst hl
    have hT := cT'.out w2 q2 [] a cap (by simp) (rd'.out w2 q2)
    have hT' := Lib.hid hT
    clear hT
    go_wp2_with fail
    refine hT'.out.mono ?_
    rintro e w3 ⟨rfl, q3⟩
    have hE : Calls Tryd.prog 15 #[.string ⟨#[101, 109, 112, 116, 121]⟩, .slice none 0 0] w3 _ := Tagged_any emptyB (by decide) [] (by simp) w3 none 0 (fun h => by simp at h) (fun _ => rfl) (F.kt _ q3) (F.pos _ q3)
    have e2 := fun W => eq_digest (treeH []) (tagH emptyB.data.toList []) (treeH_length _) (tagH_length _ _) W
    rw [show (treeH [] == tagH emptyB.data.toList []) = true from by rw [treeH_nil]; exact beq_self_eq_true _] at e2
    have hE' := Lib.hid hE
    clear hE
    go_wp2_with fail
    refine hE'.out.mono ?_
    rintro e w4 ⟨rfl, hb4⟩
    unfold DV
    go_wp2_with fail
    go_ret
    exact ⟨rfl, F.below _ (F.step _ _ q3 hb4)⟩
  · by_cases hl1 : l.length = 1
    · obtain ⟨d, hd⟩ : ∃ d, l = [d] := List.length_eq_one_iff.1 hl1
      subst hd
      have hd32 : d.length = 32 := h32 d (by simp)
      have hT := cT'.out w2 q2 [d] a cap (by simp) (rd'.out w2 q2)
      obtain ⟨b, off, rfl, -, -⟩ := (rd'.out w2 q2).at_ (i := 0) (by simp)
      have hL : ∀ W, Q W → Calls Tryd.prog 15 #[.string ⟨#[108, 101, 97, 102]⟩, .slice (some ⟨b, off, none⟩) 32 32] W fun e W' => e = .returned (.agg (BV (leafH d)).toArray) ∧ Q W' := fun W q => by
        obtain ⟨b', off', e, hb, hr⟩ := (rd'.out W q).at_ (i := 0) (by simp)
        injection e with e
        injection e with e1 e2
        subst e1; subst e2
        have h := Tagged_any leafB (by decide) d (by omega) W (some ⟨b, off, none⟩) 32 (range_reads hb (by simpa using hr)) (fun h => by cases h) (F.kt W q) (F.pos W q)
        rw [hd32] at h
        exact h.mono fun _ _ ⟨h1, h2⟩ => ⟨h1, F.step _ _ q h2⟩
      have hs0 := slice_digest b off
      have e2 := fun W => eq_digest (treeH [d]) (leafH d) (treeH_length _) (tagH_length _ _) W
      rw [show (treeH [d] == leafH d) = true from by rw [treeH_one]; exact beq_self_eq_true _] at e2
      have hL' := Lib.hid hL
      have hT' := Lib.hid hT
      have e2' := Lib.hid e2
      clear hL hT e2 hlen h32
      go_wp2_with fail
      go_region_held3 (fun _ => True) (trivial)
        (first
          | (go_at_call 15; have hq := q3; refine (hL'.out _ q3).mono ?_; rintro e w4 ⟨rfl, q4⟩; have e2 := e2'.out)
          | (go_at_call 8; refine (cT'.out _ (F.drew _ q2) [d] _ cap (by simp) (rd'.out _ (F.drew _ q2))).mono ?_; rintro e w3 ⟨rfl, q3⟩))
      all_goals
        go_wp2_with fail
        go_ret
        exact ⟨rfl, F.below _ q4⟩
    · have hp : ((l.length : Int) == 0) = false := beq_eq_false_iff_ne.2 (by omega)
      have hp1 : ((l.length : Int) == 1) = false := beq_eq_false_iff_ne.2 (by omega)
      go_wp2_with fail
      go_loopw [4] (fun k wr => ∃ j : Nat, k = .int .i64 ((2 ^ j : Nat) : Int) ∧ 2 ^ j < l.length ∧ wr = w2) (fun k _ => 24 - (intOf k).toNat)
      case atStart => exact ⟨0, rfl, by omega, rfl⟩
      case round =>
        obtain ⟨j, rfl, hj, rfl⟩ := hrel
        have hjp := Nat.two_pow_pos j
        generalize hk : 2 ^ j = k at *
        by_cases h2 : 2 * k < l.length
        · have hw2 : IntKind.i64.wrap (2 * (k : Int)) = 2 * k := IntWalk.i64_in _ (by omega)
          have hw3 : IntKind.i64.wrap ((k : Int) * 2) = k * 2 := IntWalk.i64_in _ (by omega)
          go_wp2_with fail
          go_roundw
          case rel => exact ⟨j + 1, by rw [Nat.pow_succ, hk]; go_num, by rw [Nat.pow_succ, hk]; omega, by first | rfl | trivial⟩
          case measure =>
            simp [intOf]; omega
        · have hw2 : IntKind.i64.wrap (2 * (k : Int)) = 2 * k := IntWalk.i64_in _ (by omega)
          have hhk : half l.length = k := by rw [← hk]; exact half_unique _ j (by rw [hk]; exact hj) (by rw [hk]; omega) (by omega)
          obtain ⟨a1, hs1, hR1⟩ := (rd'.out wr q2).to (k := k) (by omega)
          obtain ⟨a2, hs2, hR2⟩ := (rd'.out wr q2).from_ (k := k) (by omega)
          have hcap : l.length ≤ cap := (rd'.out wr q2).1
          have k0 : (0 : Int) ≤ k := by omega
          have k1 : (k : Int) ≤ l.length := by omega
          have k2 : (k : Int) ≤ cap := by omega
          have hT1 : ∀ W, Below wr.heap.size wr W → Calls Tryd.prog 8 #[.slice a1 k cap] W fun e W' => e = .returned (.agg (BV (treeH (l.take k))).toArray) ∧ Below W.heap.size W W' := fun W hW => by
            have q := F.step _ _ q2 hW
            have h := Tree_any (l.take k) (by rw [List.length_take]; omega) W a1 cap ((rd'.out W q).to_at (by omega) hs1) (F.kt _ q) (F.pos _ q)
            rwa [show (l.take k).length = k by rw [List.length_take]; omega] at h
          have hT2 : ∀ W, Below wr.heap.size wr W → Calls Tryd.prog 8 #[.slice a2 (l.length - k) (cap - k)] W fun e W' => e = .returned (.agg (BV (treeH (l.drop k))).toArray) ∧ Below W.heap.size W W' := fun W hW => by
            have q := F.step _ _ q2 hW
            have h := Tree_any (l.drop k) (by rw [List.length_drop]; omega) W a2 (cap - k) ((rd'.out W q).from_at (by omega) hs2) (F.kt _ q) (F.pos _ q)
            rwa [List.length_drop] at h
          have hdA := treeH_length (l.take k)
          have hdB := treeH_length (l.drop k)
          have hfin : treeH l = nodeH (treeH (l.take k)) (treeH (l.drop k)) := by
            have := treeH_two l (by omega) (by omega)
            rwa [hhk] at this
          generalize treeH (l.take k) = dA at hT1 hdA hfin
          generalize treeH (l.drop k) = dB at hT2 hdB hfin
          have hT1' := Lib.hid hT1
          have hT2' := Lib.hid hT2
          have hfin' := Lib.hid hfin
          clear hT1 hT2 hfin hR1 hR2
          have hu : Tryd.prog.underlying 24 = some (.array 32 5) := by kernel_rfl
          have hi : (Tryd.prog.info? 24).map (·.size) = some 32 := by kernel_rfl
          have hiA : (Tryd.prog.info? 24).map (·.size) = some (BV dA).length := by rw [BV_length, hdA, hi]
          have hiB : (Tryd.prog.info? 24).map (·.size) = some (BV dB).length := by rw [BV_length, hdB, hi]
          go_upto_region 12 with fail
          go_cut [5, 6] from 35 to 42 (fun x y wx => ∃ gA gB : Nat, x = .pointer (some ⟨gA, 0, none⟩) ∧ y = .pointer (some ⟨gB, 0, none⟩) ∧ DB wx gA 24 dA ∧ DB wx gB 24 dB ∧ Q wx)
          case first =>
            have h0d : Below wr.heap.size wr wr.drew := dN (Below.refl _ _) 1
            have h1d : Below wr.heap.size wr (wr.drew.alloc (.cells #[.int .u8 0, .int .u8 0, .int .u8 0, .int .u8 0, .int .u8 0, .int .u8 0, .int .u8 0, .int .u8 0, .int .u8 0, .int .u8 0, .int .u8 0, .int .u8 0, .int .u8 0, .int .u8 0, .int .u8 0, .int .u8 0, .int .u8 0, .int .u8 0, .int .u8 0, .int .u8 0, .int .u8 0, .int .u8 0, .int .u8 0, .int .u8 0, .int .u8 0, .int .u8 0, .int .u8 0, .int .u8 0, .int .u8 0, .int .u8 0, .int .u8 0, .int .u8 0] 24)) := h0d.alloc (Nat.le_refl _) _
            have h2d : Below wr.heap.size wr ((wr.drew.alloc (.cells #[.int .u8 0, .int .u8 0, .int .u8 0, .int .u8 0, .int .u8 0, .int .u8 0, .int .u8 0, .int .u8 0, .int .u8 0, .int .u8 0, .int .u8 0, .int .u8 0, .int .u8 0, .int .u8 0, .int .u8 0, .int .u8 0, .int .u8 0, .int .u8 0, .int .u8 0, .int .u8 0, .int .u8 0, .int .u8 0, .int .u8 0, .int .u8 0, .int .u8 0, .int .u8 0, .int .u8 0, .int .u8 0, .int .u8 0, .int .u8 0, .int .u8 0, .int .u8 0] 24)).alloc (.cells #[.int .u8 0, .int .u8 0, .int .u8 0, .int .u8 0, .int .u8 0, .int .u8 0, .int .u8 0, .int .u8 0, .int .u8 0, .int .u8 0, .int .u8 0, .int .u8 0, .int .u8 0, .int .u8 0, .int .u8 0, .int .u8 0, .int .u8 0, .int .u8 0, .int .u8 0, .int .u8 0, .int .u8 0, .int .u8 0, .int .u8 0, .int .u8 0, .int .u8 0, .int .u8 0, .int .u8 0, .int .u8 0, .int .u8 0, .int .u8 0, .int .u8 0, .int .u8 0] 24)) := h1d.alloc (by simp) _
            have hoA := BV_one dA
            have hoB := BV_one dB
            go_region_held3 (fun _ => True) (trivial)
              (first
                | (go_at_call 8; have hq := y2; refine (hT2'.out w3 hb3).mono ?_; rintro e w4 ⟨rfl, hb4⟩; have hb5 := Below.trans hb3 (Below.mono hb4 (Below.size hb3)); have hz5 := hb5.size; have x1 := y1.below hb4 y1.lt; have x2 := y2.below hb4 y2.lt; obtain ⟨t1, t2, t3, t4, ry⟩ := two_there (w := wr) (Y := w4) (N := wr.heap.size) (p := wr.heap.size) (q := (wr.heap.size + 1)) hdA hdB x1 x2 hb5 (by omega) (by omega) (by omega); have ry' := Lib.hid ry; clear ry)
                | (go_at_call 8; have hq := y1; refine (hT2'.out w3 hb3).mono ?_; rintro e w4 ⟨rfl, hb4⟩; have hb5 := Below.trans hb3 (Below.mono hb4 (Below.size hb3)); have hz5 := hb5.size; have x1 := y1.below hb4 y1.lt; have x1 := (DB.below x1 ((Below.refl _ _).alloc (Nat.le_refl _) (.cells #[.int .u8 0, .int .u8 0, .int .u8 0, .int .u8 0, .int .u8 0, .int .u8 0, .int .u8 0, .int .u8 0, .int .u8 0, .int .u8 0, .int .u8 0, .int .u8 0, .int .u8 0, .int .u8 0, .int .u8 0, .int .u8 0, .int .u8 0, .int .u8 0, .int .u8 0, .int .u8 0, .int .u8 0, .int .u8 0, .int .u8 0, .int .u8 0, .int .u8 0, .int .u8 0, .int .u8 0, .int .u8 0, .int .u8 0, .int .u8 0, .int .u8 0, .int .u8 0] 24)) x1.lt); have x2 := zero_new w4; obtain ⟨t1, t2, t3, t4, ry⟩ := two_there (w := wr) (Y := (w4.alloc (.cells #[.int .u8 0, .int .u8 0, .int .u8 0, .int .u8 0, .int .u8 0, .int .u8 0, .int .u8 0, .int .u8 0, .int .u8 0, .int .u8 0, .int .u8 0, .int .u8 0, .int .u8 0, .int .u8 0, .int .u8 0, .int .u8 0, .int .u8 0, .int .u8 0, .int .u8 0, .int .u8 0, .int .u8 0, .int .u8 0, .int .u8 0, .int .u8 0, .int .u8 0, .int .u8 0, .int .u8 0, .int .u8 0, .int .u8 0, .int .u8 0, .int .u8 0, .int .u8 0] 24))) (N := wr.heap.size) (p := wr.heap.size) (q := w4.heap.size) hdA hdB x1 x2.1 (Below.alloc hb5 hb5.size (.cells #[.int .u8 0, .int .u8 0, .int .u8 0, .int .u8 0, .int .u8 0, .int .u8 0, .int .u8 0, .int .u8 0, .int .u8 0, .int .u8 0, .int .u8 0, .int .u8 0, .int .u8 0, .int .u8 0, .int .u8 0, .int .u8 0, .int .u8 0, .int .u8 0, .int .u8 0, .int .u8 0, .int .u8 0, .int .u8 0, .int .u8 0, .int .u8 0, .int .u8 0, .int .u8 0, .int .u8 0, .int .u8 0, .int .u8 0, .int .u8 0, .int .u8 0, .int .u8 0] 24)) (by have := y1.lt; have := hb4.size; omega) (by omega) (by omega); have ry' := Lib.hid ry; clear ry)
                | (go_at_call 8; have hq := y1; refine (hT2'.out (w3.alloc (.cells #[.int .u8 0, .int .u8 0, .int .u8 0, .int .u8 0, .int .u8 0, .int .u8 0, .int .u8 0, .int .u8 0, .int .u8 0, .int .u8 0, .int .u8 0, .int .u8 0, .int .u8 0, .int .u8 0, .int .u8 0, .int .u8 0, .int .u8 0, .int .u8 0, .int .u8 0, .int .u8 0, .int .u8 0, .int .u8 0, .int .u8 0, .int .u8 0, .int .u8 0, .int .u8 0, .int .u8 0, .int .u8 0, .int .u8 0, .int .u8 0, .int .u8 0, .int .u8 0] 24)) (Below.alloc hb3 hb3.size (.cells #[.int .u8 0, .int .u8 0, .int .u8 0, .int .u8 0, .int .u8 0, .int .u8 0, .int .u8 0, .int .u8 0, .int .u8 0, .int .u8 0, .int .u8 0, .int .u8 0, .int .u8 0, .int .u8 0, .int .u8 0, .int .u8 0, .int .u8 0, .int .u8 0, .int .u8 0, .int .u8 0, .int .u8 0, .int .u8 0, .int .u8 0, .int .u8 0, .int .u8 0, .int .u8 0, .int .u8 0, .int .u8 0, .int .u8 0, .int .u8 0, .int .u8 0, .int .u8 0] 24))).mono ?_; rintro e w4 ⟨rfl, hb4⟩; have hb5 := Below.trans (Below.alloc hb3 hb3.size (.cells #[.int .u8 0, .int .u8 0, .int .u8 0, .int .u8 0, .int .u8 0, .int .u8 0, .int .u8 0, .int .u8 0, .int .u8 0, .int .u8 0, .int .u8 0, .int .u8 0, .int .u8 0, .int .u8 0, .int .u8 0, .int .u8 0, .int .u8 0, .int .u8 0, .int .u8 0, .int .u8 0, .int .u8 0, .int .u8 0, .int .u8 0, .int .u8 0, .int .u8 0, .int .u8 0, .int .u8 0, .int .u8 0, .int .u8 0, .int .u8 0, .int .u8 0, .int .u8 0] 24)) (Below.mono hb4 (Below.size (Below.alloc hb3 hb3.size (.cells #[.int .u8 0, .int .u8 0, .int .u8 0, .int .u8 0, .int .u8 0, .int .u8 0, .int .u8 0, .int .u8 0, .int .u8 0, .int .u8 0, .int .u8 0, .int .u8 0, .int .u8 0, .int .u8 0, .int .u8 0, .int .u8 0, .int .u8 0, .int .u8 0, .int .u8 0, .int .u8 0, .int .u8 0, .int .u8 0, .int .u8 0, .int .u8 0, .int .u8 0, .int .u8 0, .int .u8 0, .int .u8 0, .int .u8 0, .int .u8 0, .int .u8 0, .int .u8 0] 24)))); have hz5 := hb5.size; have hz3 := hb3.size; have x1 := (DB.below y1 ((Below.refl _ _).alloc (Nat.le_refl _) (.cells #[.int .u8 0, .int .u8 0, .int .u8 0, .int .u8 0, .int .u8 0, .int .u8 0, .int .u8 0, .int .u8 0, .int .u8 0, .int .u8 0, .int .u8 0, .int .u8 0, .int .u8 0, .int .u8 0, .int .u8 0, .int .u8 0, .int .u8 0, .int .u8 0, .int .u8 0, .int .u8 0, .int .u8 0, .int .u8 0, .int .u8 0, .int .u8 0, .int .u8 0, .int .u8 0, .int .u8 0, .int .u8 0, .int .u8 0, .int .u8 0, .int .u8 0, .int .u8 0] 24)) y1.lt); have x1 := x1.below hb4 x1.lt; have x2 := zero_new w3; have x2 := x2.1.below hb4 x2.1.lt; obtain ⟨t1, t2, t3, t4, ry⟩ := two_there (w := wr) (Y := w4) (N := wr.heap.size) (p := wr.heap.size) (q := w3.heap.size) hdA hdB x1 x2 hb5 (by have := y1.lt; omega) (by omega) (by omega); have ry' := Lib.hid ry; clear ry)
                | (go_at_call 8; refine (hT2'.out w3 hb3).mono ?_; rintro e w4 ⟨rfl, hb4⟩; have hb5 := Below.trans hb3 (Below.mono hb4 (Below.size hb3)); have hz5 := hb5.size; have x := box_new w4; obtain ⟨t1, t2, t3, t4, ry⟩ := two_there (w := wr) (Y := ((w4.alloc (.cells #[.int .u8 0, .int .u8 0, .int .u8 0, .int .u8 0, .int .u8 0, .int .u8 0, .int .u8 0, .int .u8 0, .int .u8 0, .int .u8 0, .int .u8 0, .int .u8 0, .int .u8 0, .int .u8 0, .int .u8 0, .int .u8 0, .int .u8 0, .int .u8 0, .int .u8 0, .int .u8 0, .int .u8 0, .int .u8 0, .int .u8 0, .int .u8 0, .int .u8 0, .int .u8 0, .int .u8 0, .int .u8 0, .int .u8 0, .int .u8 0, .int .u8 0, .int .u8 0] 24)).alloc (.cells #[.int .u8 0, .int .u8 0, .int .u8 0, .int .u8 0, .int .u8 0, .int .u8 0, .int .u8 0, .int .u8 0, .int .u8 0, .int .u8 0, .int .u8 0, .int .u8 0, .int .u8 0, .int .u8 0, .int .u8 0, .int .u8 0, .int .u8 0, .int .u8 0, .int .u8 0, .int .u8 0, .int .u8 0, .int .u8 0, .int .u8 0, .int .u8 0, .int .u8 0, .int .u8 0, .int .u8 0, .int .u8 0, .int .u8 0, .int .u8 0, .int .u8 0, .int .u8 0] 24))) (N := wr.heap.size) (p := w4.heap.size) (q := (w4.heap.size + 1)) hdA hdB x.1 x.2.1 (Below.trans hb5 (Below.mono x.2.2 hb5.size)) (by omega) (by omega) (by omega); have ry' := Lib.hid ry; clear ry)
                | (go_at_call 8; refine (hT2'.out (w3.alloc (.cells #[.int .u8 0, .int .u8 0, .int .u8 0, .int .u8 0, .int .u8 0, .int .u8 0, .int .u8 0, .int .u8 0, .int .u8 0, .int .u8 0, .int .u8 0, .int .u8 0, .int .u8 0, .int .u8 0, .int .u8 0, .int .u8 0, .int .u8 0, .int .u8 0, .int .u8 0, .int .u8 0, .int .u8 0, .int .u8 0, .int .u8 0, .int .u8 0, .int .u8 0, .int .u8 0, .int .u8 0, .int .u8 0, .int .u8 0, .int .u8 0, .int .u8 0, .int .u8 0] 24)) (Below.alloc hb3 hb3.size (.cells #[.int .u8 0, .int .u8 0, .int .u8 0, .int .u8 0, .int .u8 0, .int .u8 0, .int .u8 0, .int .u8 0, .int .u8 0, .int .u8 0, .int .u8 0, .int .u8 0, .int .u8 0, .int .u8 0, .int .u8 0, .int .u8 0, .int .u8 0, .int .u8 0, .int .u8 0, .int .u8 0, .int .u8 0, .int .u8 0, .int .u8 0, .int .u8 0, .int .u8 0, .int .u8 0, .int .u8 0, .int .u8 0, .int .u8 0, .int .u8 0, .int .u8 0, .int .u8 0] 24))).mono ?_; rintro e w4 ⟨rfl, hb4⟩; have hb5 := Below.trans (Below.alloc hb3 hb3.size (.cells #[.int .u8 0, .int .u8 0, .int .u8 0, .int .u8 0, .int .u8 0, .int .u8 0, .int .u8 0, .int .u8 0, .int .u8 0, .int .u8 0, .int .u8 0, .int .u8 0, .int .u8 0, .int .u8 0, .int .u8 0, .int .u8 0, .int .u8 0, .int .u8 0, .int .u8 0, .int .u8 0, .int .u8 0, .int .u8 0, .int .u8 0, .int .u8 0, .int .u8 0, .int .u8 0, .int .u8 0, .int .u8 0, .int .u8 0, .int .u8 0, .int .u8 0, .int .u8 0] 24)) (Below.mono hb4 (Below.size (Below.alloc hb3 hb3.size (.cells #[.int .u8 0, .int .u8 0, .int .u8 0, .int .u8 0, .int .u8 0, .int .u8 0, .int .u8 0, .int .u8 0, .int .u8 0, .int .u8 0, .int .u8 0, .int .u8 0, .int .u8 0, .int .u8 0, .int .u8 0, .int .u8 0, .int .u8 0, .int .u8 0, .int .u8 0, .int .u8 0, .int .u8 0, .int .u8 0, .int .u8 0, .int .u8 0, .int .u8 0, .int .u8 0, .int .u8 0, .int .u8 0, .int .u8 0, .int .u8 0, .int .u8 0, .int .u8 0] 24)))); have hz5 := hb5.size; have hz3 := hb3.size; have x2 := zero_new w3; have x1 := x2.1.below hb4 x2.1.lt; have l1 := x1.lt; have x1 := (DB.below x1 ((Below.refl _ _).alloc (Nat.le_refl _) (.cells #[.int .u8 0, .int .u8 0, .int .u8 0, .int .u8 0, .int .u8 0, .int .u8 0, .int .u8 0, .int .u8 0, .int .u8 0, .int .u8 0, .int .u8 0, .int .u8 0, .int .u8 0, .int .u8 0, .int .u8 0, .int .u8 0, .int .u8 0, .int .u8 0, .int .u8 0, .int .u8 0, .int .u8 0, .int .u8 0, .int .u8 0, .int .u8 0, .int .u8 0, .int .u8 0, .int .u8 0, .int .u8 0, .int .u8 0, .int .u8 0, .int .u8 0, .int .u8 0] 24)) x1.lt); have x3 := zero_new w4; obtain ⟨t1, t2, t3, t4, ry⟩ := two_there (w := wr) (Y := (w4.alloc (.cells #[.int .u8 0, .int .u8 0, .int .u8 0, .int .u8 0, .int .u8 0, .int .u8 0, .int .u8 0, .int .u8 0, .int .u8 0, .int .u8 0, .int .u8 0, .int .u8 0, .int .u8 0, .int .u8 0, .int .u8 0, .int .u8 0, .int .u8 0, .int .u8 0, .int .u8 0, .int .u8 0, .int .u8 0, .int .u8 0, .int .u8 0, .int .u8 0, .int .u8 0, .int .u8 0, .int .u8 0, .int .u8 0, .int .u8 0, .int .u8 0, .int .u8 0, .int .u8 0] 24))) (N := wr.heap.size) (p := w3.heap.size) (q := w4.heap.size) hdA hdB x1 x3.1 (Below.alloc hb5 hb5.size (.cells #[.int .u8 0, .int .u8 0, .int .u8 0, .int .u8 0, .int .u8 0, .int .u8 0, .int .u8 0, .int .u8 0, .int .u8 0, .int .u8 0, .int .u8 0, .int .u8 0, .int .u8 0, .int .u8 0, .int .u8 0, .int .u8 0, .int .u8 0, .int .u8 0, .int .u8 0, .int .u8 0, .int .u8 0, .int .u8 0, .int .u8 0, .int .u8 0, .int .u8 0, .int .u8 0, .int .u8 0, .int .u8 0, .int .u8 0, .int .u8 0, .int .u8 0, .int .u8 0] 24)) (by omega) (by omega) (by omega); have ry' := Lib.hid ry; clear ry)
                | (go_at_call 8; refine (hT2'.out ((w3.alloc (.cells #[.int .u8 0, .int .u8 0, .int .u8 0, .int .u8 0, .int .u8 0, .int .u8 0, .int .u8 0, .int .u8 0, .int .u8 0, .int .u8 0, .int .u8 0, .int .u8 0, .int .u8 0, .int .u8 0, .int .u8 0, .int .u8 0, .int .u8 0, .int .u8 0, .int .u8 0, .int .u8 0, .int .u8 0, .int .u8 0, .int .u8 0, .int .u8 0, .int .u8 0, .int .u8 0, .int .u8 0, .int .u8 0, .int .u8 0, .int .u8 0, .int .u8 0, .int .u8 0] 24)).alloc (.cells #[.int .u8 0, .int .u8 0, .int .u8 0, .int .u8 0, .int .u8 0, .int .u8 0, .int .u8 0, .int .u8 0, .int .u8 0, .int .u8 0, .int .u8 0, .int .u8 0, .int .u8 0, .int .u8 0, .int .u8 0, .int .u8 0, .int .u8 0, .int .u8 0, .int .u8 0, .int .u8 0, .int .u8 0, .int .u8 0, .int .u8 0, .int .u8 0, .int .u8 0, .int .u8 0, .int .u8 0, .int .u8 0, .int .u8 0, .int .u8 0, .int .u8 0, .int .u8 0] 24)) (Below.alloc (Below.alloc hb3 hb3.size (.cells #[.int .u8 0, .int .u8 0, .int .u8 0, .int .u8 0, .int .u8 0, .int .u8 0, .int .u8 0, .int .u8 0, .int .u8 0, .int .u8 0, .int .u8 0, .int .u8 0, .int .u8 0, .int .u8 0, .int .u8 0, .int .u8 0, .int .u8 0, .int .u8 0, .int .u8 0, .int .u8 0, .int .u8 0, .int .u8 0, .int .u8 0, .int .u8 0, .int .u8 0, .int .u8 0, .int .u8 0, .int .u8 0, .int .u8 0, .int .u8 0, .int .u8 0, .int .u8 0] 24)) (Below.size (Below.alloc hb3 hb3.size (.cells #[.int .u8 0, .int .u8 0, .int .u8 0, .int .u8 0, .int .u8 0, .int .u8 0, .int .u8 0, .int .u8 0, .int .u8 0, .int .u8 0, .int .u8 0, .int .u8 0, .int .u8 0, .int .u8 0, .int .u8 0, .int .u8 0, .int .u8 0, .int .u8 0, .int .u8 0, .int .u8 0, .int .u8 0, .int .u8 0, .int .u8 0, .int .u8 0, .int .u8 0, .int .u8 0, .int .u8 0, .int .u8 0, .int .u8 0, .int .u8 0, .int .u8 0, .int .u8 0] 24))) (.cells #[.int .u8 0, .int .u8 0, .int .u8 0, .int .u8 0, .int .u8 0, .int .u8 0, .int .u8 0, .int .u8 0, .int .u8 0, .int .u8 0, .int .u8 0, .int .u8 0, .int .u8 0, .int .u8 0, .int .u8 0, .int .u8 0, .int .u8 0, .int .u8 0, .int .u8 0, .int .u8 0, .int .u8 0, .int .u8 0, .int .u8 0, .int .u8 0, .int .u8 0, .int .u8 0, .int .u8 0, .int .u8 0, .int .u8 0, .int .u8 0, .int .u8 0, .int .u8 0] 24))).mono ?_; rintro e w4 ⟨rfl, hb4⟩; have hb5 := Below.trans (Below.alloc (Below.alloc hb3 hb3.size (.cells #[.int .u8 0, .int .u8 0, .int .u8 0, .int .u8 0, .int .u8 0, .int .u8 0, .int .u8 0, .int .u8 0, .int .u8 0, .int .u8 0, .int .u8 0, .int .u8 0, .int .u8 0, .int .u8 0, .int .u8 0, .int .u8 0, .int .u8 0, .int .u8 0, .int .u8 0, .int .u8 0, .int .u8 0, .int .u8 0, .int .u8 0, .int .u8 0, .int .u8 0, .int .u8 0, .int .u8 0, .int .u8 0, .int .u8 0, .int .u8 0, .int .u8 0, .int .u8 0] 24)) (Below.size (Below.alloc hb3 hb3.size (.cells #[.int .u8 0, .int .u8 0, .int .u8 0, .int .u8 0, .int .u8 0, .int .u8 0, .int .u8 0, .int .u8 0, .int .u8 0, .int .u8 0, .int .u8 0, .int .u8 0, .int .u8 0, .int .u8 0, .int .u8 0, .int .u8 0, .int .u8 0, .int .u8 0, .int .u8 0, .int .u8 0, .int .u8 0, .int .u8 0, .int .u8 0, .int .u8 0, .int .u8 0, .int .u8 0, .int .u8 0, .int .u8 0, .int .u8 0, .int .u8 0, .int .u8 0, .int .u8 0] 24))) (.cells #[.int .u8 0, .int .u8 0, .int .u8 0, .int .u8 0, .int .u8 0, .int .u8 0, .int .u8 0, .int .u8 0, .int .u8 0, .int .u8 0, .int .u8 0, .int .u8 0, .int .u8 0, .int .u8 0, .int .u8 0, .int .u8 0, .int .u8 0, .int .u8 0, .int .u8 0, .int .u8 0, .int .u8 0, .int .u8 0, .int .u8 0, .int .u8 0, .int .u8 0, .int .u8 0, .int .u8 0, .int .u8 0, .int .u8 0, .int .u8 0, .int .u8 0, .int .u8 0] 24)) (Below.mono hb4 (Below.size (Below.alloc (Below.alloc hb3 hb3.size (.cells #[.int .u8 0, .int .u8 0, .int .u8 0, .int .u8 0, .int .u8 0, .int .u8 0, .int .u8 0, .int .u8 0, .int .u8 0, .int .u8 0, .int .u8 0, .int .u8 0, .int .u8 0, .int .u8 0, .int .u8 0, .int .u8 0, .int .u8 0, .int .u8 0, .int .u8 0, .int .u8 0, .int .u8 0, .int .u8 0, .int .u8 0, .int .u8 0, .int .u8 0, .int .u8 0, .int .u8 0, .int .u8 0, .int .u8 0, .int .u8 0, .int .u8 0, .int .u8 0] 24)) (Below.size (Below.alloc hb3 hb3.size (.cells #[.int .u8 0, .int .u8 0, .int .u8 0, .int .u8 0, .int .u8 0, .int .u8 0, .int .u8 0, .int .u8 0, .int .u8 0, .int .u8 0, .int .u8 0, .int .u8 0, .int .u8 0, .int .u8 0, .int .u8 0, .int .u8 0, .int .u8 0, .int .u8 0, .int .u8 0, .int .u8 0, .int .u8 0, .int .u8 0, .int .u8 0, .int .u8 0, .int .u8 0, .int .u8 0, .int .u8 0, .int .u8 0, .int .u8 0, .int .u8 0, .int .u8 0, .int .u8 0] 24))) (.cells #[.int .u8 0, .int .u8 0, .int .u8 0, .int .u8 0, .int .u8 0, .int .u8 0, .int .u8 0, .int .u8 0, .int .u8 0, .int .u8 0, .int .u8 0, .int .u8 0, .int .u8 0, .int .u8 0, .int .u8 0, .int .u8 0, .int .u8 0, .int .u8 0, .int .u8 0, .int .u8 0, .int .u8 0, .int .u8 0, .int .u8 0, .int .u8 0, .int .u8 0, .int .u8 0, .int .u8 0, .int .u8 0, .int .u8 0, .int .u8 0, .int .u8 0, .int .u8 0] 24)))); have hz5 := hb5.size; have hz3 := hb3.size; have x := box_new w3; have x1 := x.1.below hb4 x.1.lt; have x2 := x.2.1.below hb4 x.2.1.lt; obtain ⟨t1, t2, t3, t4, ry⟩ := two_there (w := wr) (Y := w4) (N := wr.heap.size) (p := w3.heap.size) (q := (w3.heap.size + 1)) hdA hdB x1 x2 hb5 (by omega) (by omega) (by omega); have ry' := Lib.hid ry; clear ry)
                | (go_at_call 8; refine (hT1'.out wr.drew h0d).mono ?_; rintro e w3 ⟨rfl, hb3'⟩; have hb3 := Below.trans h0d (Below.mono hb3' (Below.size h0d)); clear hb3')
                | (go_at_call 8; refine (hT1'.out (wr.drew.alloc (.cells #[.int .u8 0, .int .u8 0, .int .u8 0, .int .u8 0, .int .u8 0, .int .u8 0, .int .u8 0, .int .u8 0, .int .u8 0, .int .u8 0, .int .u8 0, .int .u8 0, .int .u8 0, .int .u8 0, .int .u8 0, .int .u8 0, .int .u8 0, .int .u8 0, .int .u8 0, .int .u8 0, .int .u8 0, .int .u8 0, .int .u8 0, .int .u8 0, .int .u8 0, .int .u8 0, .int .u8 0, .int .u8 0, .int .u8 0, .int .u8 0, .int .u8 0, .int .u8 0] 24)) h1d).mono ?_; rintro e w3 ⟨rfl, hb3'⟩; have hb3 := Below.trans h1d (Below.mono hb3' (Below.size h1d)); have y1 : DB w3 wr.heap.size 24 zeroD := (zero_new wr.drew).1.below hb3' (zero_new wr.drew).1.lt; clear hb3')
                | (go_at_call 8; refine (hT1'.out ((wr.drew.alloc (.cells #[.int .u8 0, .int .u8 0, .int .u8 0, .int .u8 0, .int .u8 0, .int .u8 0, .int .u8 0, .int .u8 0, .int .u8 0, .int .u8 0, .int .u8 0, .int .u8 0, .int .u8 0, .int .u8 0, .int .u8 0, .int .u8 0, .int .u8 0, .int .u8 0, .int .u8 0, .int .u8 0, .int .u8 0, .int .u8 0, .int .u8 0, .int .u8 0, .int .u8 0, .int .u8 0, .int .u8 0, .int .u8 0, .int .u8 0, .int .u8 0, .int .u8 0, .int .u8 0] 24)).alloc (.cells #[.int .u8 0, .int .u8 0, .int .u8 0, .int .u8 0, .int .u8 0, .int .u8 0, .int .u8 0, .int .u8 0, .int .u8 0, .int .u8 0, .int .u8 0, .int .u8 0, .int .u8 0, .int .u8 0, .int .u8 0, .int .u8 0, .int .u8 0, .int .u8 0, .int .u8 0, .int .u8 0, .int .u8 0, .int .u8 0, .int .u8 0, .int .u8 0, .int .u8 0, .int .u8 0, .int .u8 0, .int .u8 0, .int .u8 0, .int .u8 0, .int .u8 0, .int .u8 0] 24)) h2d).mono ?_; rintro e w3 ⟨rfl, hb3'⟩; have hb3 := Below.trans h2d (Below.mono hb3' (Below.size h2d)); have y1 : DB w3 wr.heap.size 24 zeroD := (box_new wr.drew).1.below hb3' (box_new wr.drew).1.lt; have y2 : DB w3 (wr.heap.size + 1) 24 zeroD := (box_new wr.drew).2.1.below hb3' (box_new wr.drew).2.1.lt; clear hb3'))
            all_goals
              go_wp2_with fail
              go_meet
              first
                | exact ⟨_, _, rfl, rfl, ry'.out.fin1.1, ry'.out.fin1.2.1, F.step _ _ q2 ry'.out.fin1.2.2⟩
                | exact ⟨_, _, rfl, rfl, ry'.out.fin2.1, ry'.out.fin2.2.1, F.step _ _ q2 ry'.out.fin2.2.2⟩
          case rest =>
            obtain ⟨gA, gB, rfl, rfl, hA, hB, qc⟩ := hcut
            have hTl : ∀ W, Below wc.heap.size wc W → Calls Tryd.prog 8 #[.slice a l.length cap] W fun e W' => e = .returned (.agg (BV (treeH l)).toArray) ∧ Below W.heap.size W W' := fun W hW => by
              have q := F.step _ _ qc hW
              exact Tree_any l (by omega) W a cap (rd'.out W q) (F.kt _ q) (F.pos _ q)
            have hNd : ∀ W g c, Below wc.heap.size wc W → OB W wc.heap.size (.slice (some ⟨g, 0, none⟩) 64 c) (dA ++ dB) → Calls Tryd.prog 15 #[.string ⟨#[110, 111, 100, 101]⟩, .slice (some ⟨g, 0, none⟩) 64 c] W fun e W' => e = .returned (.agg (BV (nodeH dA dB)).toArray) ∧ Below W.heap.size W W' := fun W g c hW hob => by
              have q := F.step _ _ qc hW
              have h := Tagged_any nodeB (by decide) (dA ++ dB) (by simp; omega) W _ c hob.reads.1 (fun h => by cases h) (F.kt _ q) (F.pos _ q)
              rwa [show (dA ++ dB).length = 64 by simp; omega] at h
            have hsA := slice_digest gA 0
            have hsB := slice_digest gB 0
            have e2 := fun W => eq_digest (treeH l) (nodeH dA dB) (treeH_length _) (tagH_length _ _) W
            rw [hfin'.out, beq_self_eq_true] at e2
            rw [hfin'.out] at hTl
            have hTl' := Lib.hid hTl
            have hNd' := Lib.hid hNd
            have e2' := Lib.hid e2
            clear hT1' hT2' hiA hiB hu hi hTl hNd e2
            go_wp2_with fail
            have h0d : Below wc.heap.size wc wc.drew := dN (Below.refl _ _) 1
            have h1d : Below wc.heap.size wc (wc.drew.alloc (.cells #[] 5)) := h0d.alloc (Nat.le_refl _) _
            have lA := hA.lt
            have lB := hB.lt
            go_region_held3 (fun _ => True) (trivial)
              (first
                | (go_at_call 15; have hq := ob7; refine (hNd'.out w7 g7 c7 hb7 ob7).mono ?_; rintro e w8 ⟨rfl, hb8'⟩; have hb8 := Below.trans hb7 (Below.mono hb8' hb7.size); have e2 := e2'.out)
                | (have hq := ob6; refine step_digest rfl _ _ rfl wc.heap.size (.slice (some ⟨g6, 0, none⟩) 32 c6) dA rfl ob6 gB dB rfl dB6 hdB (by omega) hb6.size ?_; intro g7 c7 w7 ob7 hb7'; rw [hdA] at ob7; have hb7 := Below.trans hb6 hb7'; clear ob6)
                | (have hq := ob5; refine step_digest rfl _ _ rfl wc.heap.size (.slice (some ⟨wc.heap.size, 0, none⟩) 0 0) [] rfl ob5 gA dA rfl dA5 hdA (by simp) hb5.size ?_; intro g6 c6 w6 ob6 hb6'; have hb6 := Below.trans hb5 hb6'; have dB6 := DB.below dB5 hb6' lB; clear ob5)
                | (have hq := dA5; refine step_digest (w := w5.alloc (.cells #[] 5)) rfl _ _ rfl wc.heap.size (.slice (some ⟨w5.heap.size, 0, none⟩) 0 0) [] rfl (OB.lit w5 wc.heap.size [] hb5.size (by simp)) gA dA rfl (DB.below dA5 ((Below.refl _ _).alloc (Nat.le_refl _) (.cells #[] 5)) dA5.lt) hdA (by simp) (Below.alloc hb5 hb5.size (.cells #[] 5)).size ?_; intro g6 c6 w6 ob6 hb6'; have hb6 := Below.trans (Below.alloc hb5 hb5.size (.cells #[] 5)) hb6'; have dB6 := DB.below (DB.below dB5 ((Below.refl _ _).alloc (Nat.le_refl _) (.cells #[] 5)) dB5.lt) hb6' lB)
                | (go_at_call 8; refine (hTl'.out wc.drew h0d).mono ?_; rintro e w5 ⟨rfl, hb5'⟩; have hb5 := Below.trans h0d hb5'; have dA5 := hA.below hb5 lA; have dB5 := hB.below hb5 lB; clear hb5')
                | (go_at_call 8; refine (hTl'.out (wc.drew.alloc (.cells #[] 5)) h1d).mono ?_; rintro e w5 ⟨rfl, hb5'⟩; have hb5 := Below.trans h1d (Below.mono hb5' h1d.size); have dA5 := hA.below hb5 lA; have dB5 := hB.below hb5 lB; have ob5 := (OB.lit wc.drew wc.heap.size [] h0d.size (by simp)).below hb5'; clear hb5'))
            all_goals
              go_wp2_with fail
              go_ret
              exact ⟨rfl, F.below _ (F.step _ _ qc hb8)⟩
end Go.Proofs.YtcibnkdadhpjiaaDoor
