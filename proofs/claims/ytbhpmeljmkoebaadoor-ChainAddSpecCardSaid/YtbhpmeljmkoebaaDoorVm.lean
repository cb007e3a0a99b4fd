/- sane. -/
import Derived.Test.YtbhpmeljmkoebaaDoorVl
import Derived.Lib.SlBytesConst
namespace Go.Proofs.YtbhpmeljmkoebaaDoor
open Go.RowKit

/-- Bytes in a block of their own. -/
theorem bytes_at {W : World} {g : Nat} {l : List UInt8} {T : TypeId} (h : W.heap[g]? = some (.cells (BV l).toArray T (0, 0))) : RBs W W.heap.size (some ⟨g, 0, none⟩) l :=
  range_reads (Array.getElem?_eq_some_iff.1 h).1 (range_of h)
theorem byte_new (w : World) (c : UInt8) (n : Int) (hn : (c.toNat : Int) = n) : RBs (w.alloc (.cells #[.int .u8 n] 5 (1, 2))) (w.alloc (.cells #[.int .u8 n] 5 (1, 2))).heap.size (some ⟨w.heap.size, 0, none⟩) [c] := by
  subst hn
  have h := heap_alloc_new w (.cells #[.int .u8 (c.toNat : Int)] 5 (1, 2))
  refine fun _ => ⟨w.heap.size, 0, rfl, (Array.getElem?_eq_some_iff.1 h).1, fun j hj => ?_⟩
  obtain rfl : j = 0 := by simpa using hj
  rw [cell_of_row _ w.heap.size 0 _ _ _ h]
  rfl
theorem Part_list {la lb : List Lk} {pv : Array Value} (hp : partV la lb = pv) (hla : Short la) (hlb : Short lb) (hma : la.length ≤ 1024) (hmb : lb.length ≤ 1024) (n m : Nat) (hn : la.length = n) (hm : lb.length = m) (w : World) (a B : Option Addr) (ca cb : Nat) (hQa : QL w w.heap.size la a ca) (hQb : QL w w.heap.size lb B cb) (hKT : KT w) (h0 : 0 < w.heap.size) :
    Calls Tryd.prog 12 #[.slice a n ca, .slice B m cb] w fun e w' => e = .returned (.tuple pv) ∧ Below w.heap.size w w' := by
  subst hn hm hp
  exact Part_any la lb hla hlb hma hmb w a B ca cb hQa hQb hKT h0
theorem Check_list {l : List Lk} {c : Int} (hp : chkP l = c) (hl : Short l) (hm : l.length ≤ 1024) (n : Nat) (hn : l.length = n) (w : World) (a : Option Addr) (cap : Nat) (hQ : QL w w.heap.size l a cap) (hKT : KT w) (h0 : 0 < w.heap.size) :
    Calls Tryd.prog 16 #[.slice a n cap] w fun e w' => e = .returned (.int .i64 c) ∧ Below w.heap.size w w' := by
  subst hn hp
  exact Check_any l hl hm w a cap hQ hKT h0
theorem Head_list {l : List Lk} {d : List UInt8} (hp : headP l = d) (hl : Short l) (hm : l.length ≤ 1000000000) (n : Nat) (hn : l.length = n) (w : World) (a : Option Addr) (cap : Nat) (hQ : QL w w.heap.size l a cap) (hKT : KT w) (h0 : 0 < w.heap.size) :
    Calls Tryd.prog 15 #[.slice a n cap] w fun e w' => e = .returned (.agg (BV d).toArray) ∧ Below w.heap.size w w' := by
  subst hn hp
  exact Head_any l hl hm w a cap hQ hKT h0
/-- The list of the zero link with No 1, in a block of its own. -/
theorem zero_list {W : World} {g : Nat} (h : W.heap[g]? = some (.cells (LW lz none 0).toArray 37 (0, 0))) : QL W W.heap.size [lz] (some ⟨g, 0, none⟩) 1 := by
  refine ⟨Nat.le_refl _, by omega, fun x hx => ?_, (fun h => by cases h), g, 0, fun _ => ⟨rfl, (Array.getElem?_eq_some_iff.1 h).1⟩, fun i hi => ?_⟩
  · simp at hx; subst hx; exact ⟨by unfold I64 lz; decide, by unfold I64 lz; decide, by simp [lz, zeroD]⟩
  · obtain rfl : i = 0 := by simpa using hi
    exact ⟨none, 0, range_of h, fun h => absurd h (by simp [lz]), fun _ => rfl, Nat.zero_le _, by omega⟩

set_option maxRecDepth 100000 in
set_option maxHeartbeats 4000000 in
theorem sane_any (w : World) (hKT : KT w) (h0 : 0 < w.heap.size) : Calls Tryd.prog 8 #[] w fun e w' => e = .returned (.bool true) ∧ Below w.heap.size w w' := by
  have hK : Hid (∀ W, Below w.heap.size w W → KT W ∧ 0 < W.heap.size) := fun W hW => ⟨hKT.below hW h0, Nat.lt_of_lt_of_le h0 hW.size⟩
  have hcs := fun (W : World) (x : Value) => Lib.run_convert_bytes_const (P := Tryd.prog) W 23 5 #[x] 1 1 Tryd.underlying23 Tryd.underlying5
  clear hKT h0
  go_enter Tryd.func8, Tryd.ntmps8
  go_wp2_with fail
  have hB := Lib.hid (bel1 w (.cells #[.int .u8 120] 5 (1, 2)))
  refine (Add_good [] s_short0 (by decide) 3 (by unfold I64; omega) [120] s_chk0 s_add1 0 1 rfl rfl _ none (some ⟨w.heap.size, 0, none⟩) 0 1 (QL.nil _ _) (byte_new w 120 120 rfl) (hK.out _ hB.out).1 (hK.out _ hB.out).2).mono ?_
  rintro e w1 ⟨⟨a1, c1, rfl, hq1⟩, hb1⟩
  replace hq1 : Hid (QL w1 w1.heap.size [l1] a1 c1) := hq1
  replace hB := Lib.hid (hB.out.trans (hb1.mono hB.out.size))
  clear hb1
  go_wp2_with fail
  have hb := bel1 w1 (.cells #[.int .u8 121] 5 (1, 2))
  replace hB := Lib.hid (hB.out.trans (hb.mono hB.out.size))
  replace hq1 := Lib.hid (hq1.out.lift hb hb.size)
  clear hb
  refine (Add_good [l1] s_short1 (by decide) 3 (by unfold I64; omega) [121] s_chk1 s_add2 1 1 rfl rfl _ a1 (some ⟨w1.heap.size, 0, none⟩) c1 1 hq1.out (byte_new w1 121 121 rfl) (hK.out _ hB.out).1 (hK.out _ hB.out).2).mono ?_
  rintro e w2 ⟨⟨a2, c2, rfl, hq2⟩, hb2⟩
  replace hq2 : Hid (QL w2 w2.heap.size [l1, l2] a2 c2) := hq2
  replace hB := Lib.hid (hB.out.trans (hb2.mono hB.out.size))
  replace hq1 := Lib.hid (hq1.out.lift hb2 hb2.size)
  clear hb2
  go_wp2_with fail
  have hb := bel1 w2 (.cells #[.int .u8 122] 5 (1, 2))
  replace hB := Lib.hid (hB.out.trans (hb.mono hB.out.size))
  replace hq1 := Lib.hid (hq1.out.lift hb hb.size)
  replace hq2 := Lib.hid (hq2.out.lift hb hb.size)
  clear hb
  refine (Add_good [l1] s_short1 (by decide) 3 (by unfold I64; omega) [122] s_chk1 s_add2 1 1 rfl rfl _ a1 (some ⟨w2.heap.size, 0, none⟩) c1 1 hq1.out (byte_new w2 122 122 rfl) (hK.out _ hB.out).1 (hK.out _ hB.out).2).mono ?_
  rintro e w3 ⟨⟨a3, c3, rfl, hq3⟩, hb3⟩
  replace hq3 : Hid (QL w3 w3.heap.size [l1, l3] a3 c3) := hq3
  replace hB := Lib.hid (hB.out.trans (hb3.mono hB.out.size))
  replace hq1 := Lib.hid (hq1.out.lift hb3 hb3.size)
  replace hq2 := Lib.hid (hq2.out.lift hb3 hb3.size)
  clear hb3
  go_wp2_with fail
  refine (Add_bad [] s_short0 (by decide) 24 (by unfold I64; omega) [] s_chk0 s_add4 0 0 rfl rfl w3 none none 0 0 (QL.nil _ _) (fun h => absurd h (by simp)) (hK.out _ hB.out).1 (hK.out _ hB.out).2).mono ?_
  rintro e w4 ⟨⟨a7, c7, rfl⟩, hb4⟩
  replace hB := Lib.hid (hB.out.trans (hb4.mono hB.out.size))
  replace hq1 := Lib.hid (hq1.out.lift hb4 hb4.size)
  replace hq2 := Lib.hid (hq2.out.lift hb4 hb4.size)
  replace hq3 := Lib.hid (hq3.out.lift hb4 hb4.size)
  clear hb4
  go_wp2_with fail
  refine (Add_bad [l1] s_short1 (by decide) 4 (by unfold I64; omega) [] s_chk1 s_add5 1 0 rfl rfl w4 a1 none c1 0 hq1.out (fun h => absurd h (by simp)) (hK.out _ hB.out).1 (hK.out _ hB.out).2).mono ?_
  rintro e w5 ⟨⟨a9, c9, rfl⟩, hb5⟩
  replace hB := Lib.hid (hB.out.trans (hb5.mono hB.out.size))
  replace hq1 := Lib.hid (hq1.out.lift hb5 hb5.size)
  replace hq2 := Lib.hid (hq2.out.lift hb5 hb5.size)
  replace hq3 := Lib.hid (hq3.out.lift hb5 hb5.size)
  clear hb5
  go_wp2_with fail
  refine (Part_list s_part1 s_short2 s_short3 (by decide) (by decide) 2 2 rfl rfl w5 a2 a3 c2 c3 hq2.out hq3.out (hK.out _ hB.out).1 (hK.out _ hB.out).2).mono ?_
  rintro e w6 ⟨rfl, hb6⟩
  replace hB := Lib.hid (hB.out.trans (hb6.mono hB.out.size))
  replace hq1 := Lib.hid (hq1.out.lift hb6 hb6.size)
  replace hq2 := Lib.hid (hq2.out.lift hb6 hb6.size)
  clear hb6 hq3
  go_wp2_with fail
  refine (Part_list s_part2 s_short1 s_short2 (by decide) (by decide) 1 2 rfl rfl w6 a1 a2 c1 c2 hq1.out hq2.out (hK.out _ hB.out).1 (hK.out _ hB.out).2).mono ?_
  rintro e w7 ⟨rfl, hb7⟩
  replace hB := Lib.hid (hB.out.trans (hb7.mono hB.out.size))
  replace hq1 := Lib.hid (hq1.out.lift hb7 hb7.size)
  replace hq2 := Lib.hid (hq2.out.lift hb7 hb7.size)
  clear hb7
  go_wp2_with fail
  refine (Part_list s_part3 s_short0 s_short1 (by decide) (by decide) 0 1 rfl rfl w7 none a1 0 c1 (QL.nil _ _) hq1.out (hK.out _ hB.out).1 (hK.out _ hB.out).2).mono ?_
  rintro e w8 ⟨rfl, hb8⟩
  replace hB := Lib.hid (hB.out.trans (hb8.mono hB.out.size))
  replace hq1 := Lib.hid (hq1.out.lift hb8 hb8.size)
  replace hq2 := Lib.hid (hq2.out.lift hb8 hb8.size)
  clear hb8
  go_wp2_with fail
  refine (Check_list s_chk0 s_short0 (by decide) 0 rfl w8 none 0 (QL.nil _ _) (hK.out _ hB.out).1 (hK.out _ hB.out).2).mono ?_
  rintro e w9 ⟨rfl, hb9⟩
  replace hB := Lib.hid (hB.out.trans (hb9.mono hB.out.size))
  replace hq1 := Lib.hid (hq1.out.lift hb9 hb9.size)
  replace hq2 := Lib.hid (hq2.out.lift hb9 hb9.size)
  clear hb9
  go_wp2_with fail
  refine (Check_list s_chk2 s_short2 (by decide) 2 rfl w9 a2 c2 hq2.out (hK.out _ hB.out).1 (hK.out _ hB.out).2).mono ?_
  rintro e w10 ⟨rfl, hb10⟩
  replace hB := Lib.hid (hB.out.trans (hb10.mono hB.out.size))
  replace hq1 := Lib.hid (hq1.out.lift hb10 hb10.size)
  replace hq2 := Lib.hid (hq2.out.lift hb10 hb10.size)
  clear hb10
  go_wp2_with fail
  have hb := bel1 w10 (.cells (LW lz none 0).toArray 37)
  replace hB := Lib.hid (hB.out.trans (hb.mono hB.out.size))
  replace hq1 := Lib.hid (hq1.out.lift hb hb.size)
  replace hq2 := Lib.hid (hq2.out.lift hb hb.size)
  clear hb
  refine (Check_list s_bad1 s_shortz (by decide) 1 rfl (w10.alloc (.cells (LW lz none 0).toArray 37)) (some ⟨w10.heap.size, 0, none⟩) 1 (zero_list (heap_alloc_new w10 _)) (hK.out _ hB.out).1 (hK.out _ hB.out).2).mono ?_
  rintro e w11 ⟨rfl, hb11⟩
  replace hB := Lib.hid (hB.out.trans (hb11.mono hB.out.size))
  replace hq1 := Lib.hid (hq1.out.lift hb11 hb11.size)
  replace hq2 := Lib.hid (hq2.out.lift hb11 hb11.size)
  clear hb11
  obtain ⟨a22, hsl, hq22⟩ := hq2.out.from_ (k := 1) (by decide)
  replace hsl : ∀ W, (Instr.slice 22 (.slice a2 2 c2) (some (.int .i64 1)) none none).run Tryd.prog W = .ok (.slice a22 1 (c2 - 1)) W := hsl
  replace hq22 : Hid (QL w11 w11.heap.size [l2] a22 (c2 - 1)) := hq22
  go_wp2_with fail
  refine (Check_list s_bad2 s_shortb (by decide) 1 rfl w11 a22 (c2 - 1) hq22.out (hK.out _ hB.out).1 (hK.out _ hB.out).2).mono ?_
  rintro e w12 ⟨rfl, hb12⟩
  replace hB := Lib.hid (hB.out.trans (hb12.mono hB.out.size))
  replace hq1 := Lib.hid (hq1.out.lift hb12 hb12.size)
  replace hq2 := Lib.hid (hq2.out.lift hb12 hb12.size)
  clear hb12 hq22 hsl hcs
  go_wp2_with fail
  refine (Tagged_any noneB (by decide +kernel) [] (by simp) w12 none 0 (fun h => absurd h (by simp)) (fun _ => rfl) (hK.out _ hB.out).1 (hK.out _ hB.out).2).mono ?_
  rintro e w13 ⟨rfl, hb13⟩
  replace hB := Lib.hid (hB.out.trans (hb13.mono hB.out.size))
  replace hq1 := Lib.hid (hq1.out.lift hb13 hb13.size)
  replace hq2 := Lib.hid (hq2.out.lift hb13 hb13.size)
  clear hb13
  rw [show tagH noneB.data.toList [] = noneH from rfl]
  have hs := Lib.hid (DV_size noneH_len)
  go_upto_region 14 with (refine wpList_store_row rfl 35 _ _ rfl w13.heap.size _ rfl rfl 35 _ (heap_alloc_last w13 _) ?cj ?cl ?ck ?_
                          case cj => rw [Tryd.iD]; exact congrArg some hs.out.symm
                          case cl => rw [hs.out]; rfl
                          case ck => exact BV_all _
                          rw [World.setRow_alloc_new])
  have hb := bel1 w13 (.cells (BV noneH).toArray 35)
  replace hB := Lib.hid (hB.out.trans (hb.mono hB.out.size))
  replace hq1 := Lib.hid (hq1.out.lift hb hb.size)
  replace hq2 := Lib.hid (hq2.out.lift hb hb.size)
  have hbS := heap_alloc_new w13 (.cells (BV noneH).toArray 35)
  generalize w13.alloc (.cells (BV noneH).toArray 35) = V0 at hB hq1 hq2 hbS ⊢
  clear hb
  obtain ⟨S, hS0⟩ : ∃ S, S = w13.heap.size := ⟨_, rfl⟩
  rw [← hS0] at hbS ⊢
  clear hS0 hs
  -- the text of the first link
  have hbA := bel1 V0 (.cells #[.int .u8 3, .int .u8 4, .int .u8 1, .int .u8 6, .int .u8 1, .int .u8 0, .int .u8 2, .int .u8 32] 5)
  have hoA : OB (V0.alloc (.cells #[.int .u8 3, .int .u8 4, .int .u8 1, .int .u8 6, .int .u8 1, .int .u8 0, .int .u8 2, .int .u8 32] 5)) V0.heap.size (.slice (some ⟨V0.heap.size, 0, none⟩) 8 8) [3, 4, 1, 6, 1, 0, 2, 32] := K.OB.lit V0 V0.heap.size [3, 4, 1, 6, 1, 0, 2, 32] (Nat.le_refl _) (by simp)
  have hbSA := blk_at hbS hbA
  obtain ⟨vA, wA, hrA, hoA2, hbA2⟩ := append_bytesC _ _ 23 _ 8 (BV [3, 4, 1, 6, 1, 0, 2, 32]) hoA (some ⟨S, 0, none⟩) 32 32 (BV noneH) (by rw [BV_length, noneH_len]) (fun _ => ⟨_, rfl, fun j u hu => by rw [add_none, Nat.zero_add, cell_of_row _ S j _ _ _ hbSA]; simpa using hu⟩) (BV_one _) (by omega) hbA.size
  have hbAA := hbA.trans hbA2
  have hbC := bel1 wA (.cells #[.int .u8 2, .int .u8 1, .int .u8 120] 5)
  have hbnC := heap_alloc_new wA (.cells #[.int .u8 2, .int .u8 1, .int .u8 120] 5)
  obtain ⟨vC, wC, hrC, hoC, hbC2⟩ := append_bytesC (wA.alloc (.cells #[.int .u8 2, .int .u8 1, .int .u8 120] 5)) V0.heap.size 23 _ 40 _ (World.ownsRow.alloc hoA2 _) (some ⟨wA.heap.size, 0, none⟩) 3 3 (BV [2, 1, 120]) rfl (fun _ => ⟨_, rfl, fun j u hu => by rw [add_none, Nat.zero_add, cell_of_row _ wA.heap.size j _ _ _ hbnC]; exact (by simpa [BV] using hu)⟩) (BV_one _) (by omega) (Nat.le_trans hbAA.size hbC.size)
  have hbT := Lib.hid ((hbAA.trans (hbC.mono hbAA.size)).trans hbC2)
  have hlT : ([3, 4, 1, 6, 1, 0, 2, 32] ++ noneH ++ [2, 1, 120]).length = 43 := by simp [noneH_len]
  have hoT : Hid (OB wC V0.heap.size vC ([3, 4, 1, 6, 1, 0, 2, 32] ++ noneH ++ [2, 1, 120])) := by
    show OB _ _ _ _
    unfold OB
    rw [BV_append, BV_append, hlT]
    exact hoC
  have hrA' := Lib.hid hrA
  have hrC' := Lib.hid hrC
  have hslS := fun W => slice_digest S 0 W
  clear hoA hoA2 hbA hbA2 hbAA hbC hbC2 hbnC hoC hrA hrC hbSA
  go_upto_region 15 with (first
    | (at_builtin; refine Lib.wpList_append_run _ rfl _ _ _ _ rfl _ _ rfl rfl _ _ hrA'.out ?_)
    | (at_builtin; refine Lib.wpList_append_run _ rfl _ _ _ _ rfl _ _ rfl rfl _ _ hrC'.out ?_))
  have hbS2 := blk_at hbS hbT.out
  replace hB := Lib.hid (hB.out.trans (hbT.out.mono hB.out.size))
  replace hq1 := Lib.hid (hq1.out.lift hbT.out hbT.out.size)
  replace hq2 := Lib.hid (hq2.out.lift hbT.out hbT.out.size)
  obtain ⟨aT, cT, rfl, hcT⟩ := hoT.out.form
  obtain ⟨gT, rfl⟩ : ∃ g, aT = some ⟨g, 0, none⟩ := by
    rcases hoT.out.2 with ⟨e, h⟩ | ⟨g, cap, cur, e, -⟩
    · rw [hlT] at h; omega
    · injection e with e; exact ⟨g, e⟩
  have hTr := hoT.out.reads.1
  have hTn := none_of hoT.out
  rw [hlT] at hcT hoT ⊢
  clear hbT hbS hrA' hrC' hslS
  generalize wC = V at *
  obtain ⟨b1, o1, d1, e1, rfl, hb1B, hr1, hD1⟩ := hq1.out.at_ (i := 0) (by decide)
  obtain ⟨b2, o2, d2, e2, rfl, hb2B, hr2, hD2⟩ := hq2.out.at_ (i := 1) (by decide)
  rw [Nat.zero_mul, Nat.add_zero] at hr1
  replace hr1 : V.rangeAt b1 o1 (LW l1 d1 e1) := hr1
  replace hr2 : V.rangeAt b2 (o2 + 35) (LW l2 d2 e2) := by rw [Nat.one_mul] at hr2; exact hr2
  replace hD2 : Dt V V.heap.size l2 d2 e2 := hD2
  obtain ⟨-, -, p1, -⟩ := range_parts (x := l1) noneH_len hr1
  obtain ⟨-, n2, p2, q2⟩ := range_parts (x := l2) (headX_len l1) hr2
  have hN1 : Hid (∀ W, Below V.heap.size V W → W.rangeAt b1 (o1 + 2) (BV noneH)) := fun W hW j v hv => (hW.cell (p := ⟨b1, o1 + 2 + j, none⟩) hb1B).trans (p1 j v hv)
  have hN2 : Hid (∀ W, Below V.heap.size V W → W.rangeAt b2 (o2 + 35 + 2) (BV (headX l1))) := fun W hW j v hv => (hW.cell (p := ⟨b2, o2 + 35 + 2 + j, none⟩) hb2B).trans (p2 j v hv)
  have hNo : Hid (∀ W, Below V.heap.size V W → W.cell? ⟨b2, o2 + 35 + 1, none⟩ = some (.int .i64 1)) := fun W hW => (hW.cell (p := ⟨b2, o2 + 35 + 1, none⟩) hb2B).trans n2
  have hDa : Hid (∀ W, Below V.heap.size V W → W.cell? ⟨b2, o2 + 35 + 34, none⟩ = some (.slice d2 1 e2)) := fun W hW => (hW.cell (p := ⟨b2, o2 + 35 + 34, none⟩) hb2B).trans q2
  have hcv : Hid (∀ W, Below V.heap.size V W → (convert 23 9 (.slice d2 1 e2)).run Tryd.prog W = .ok (.string ⟨#[121]⟩) W) := fun W hW => conv_str (c := e2) (hD2.read.lift hW hW.size)
  have hS : Hid (∀ W, Below V.heap.size V W → W.rangeAt S 0 (BV noneH)) := fun W hW => range_of (blk_at hbS2 hW)
  have hH0 : Hid (∀ W, Below V.heap.size V W → Calls Tryd.prog 15 #[.slice none 0 0] W fun e w' => e = .returned (.agg (BV noneH).toArray) ∧ Below W.heap.size W w') := fun W hW => by
    have hb := hB.out.trans (hW.mono hB.out.size)
    exact Head_list (l := []) rfl s_short0 (by decide) 0 rfl W none 0 (QL.nil _ _) (hK.out _ hb).1 (hK.out _ hb).2
  have hH1 : Hid (∀ W, Below V.heap.size V W → Calls Tryd.prog 15 #[.slice (some ⟨b1, o1, none⟩) 1 c1] W fun e w' => e = .returned (.agg (BV (headX l1)).toArray) ∧ Below W.heap.size W w') := fun W hW => by
    have hb := hB.out.trans (hW.mono hB.out.size)
    exact Head_list (l := [l1]) rfl s_short1 (by decide) 1 rfl W _ c1 (hq1.out.lift hW hW.size) (hK.out _ hb).1 (hK.out _ hb).2
  have hTg : Hid (∀ W, Below V.heap.size V W → Calls Tryd.prog 19 #[.string ⟨#[108, 105, 110, 107]⟩, .slice (some ⟨gT, 0, none⟩) 43 cT] W fun e w' => e = .returned (.agg (BV (headX l1)).toArray) ∧ Below W.heap.size W w') := fun W hW => by
    have hb := hB.out.trans (hW.mono hB.out.size)
    have := Tagged_any linkB (by decide +kernel) ([3, 4, 1, 6, 1, 0, 2, 32] ++ noneH ++ [2, 1, 120]) (by rw [hlT]; omega) W _ cT (hTr.lift hW hW.size) hTn (hK.out _ hb).1 (hK.out _ hb).2
    rw [s_tag, hlT] at this
    exact this
  have hszN := Lib.hid (show (Tryd.prog.info? 35).map (·.size) = some (BV noneH).length by rw [Tryd.iD, BV_length, noneH_len])
  have hszH := Lib.hid (show (Tryd.prog.info? 35).map (·.size) = some (BV (headX l1)).length by rw [Tryd.iD, BV_length, headX_len])
  obtain ⟨a4, ha4⟩ : ∃ a4, a4 = d2 := ⟨_, rfl⟩
  obtain ⟨c4, hc4⟩ : ∃ c4, c4 = e2 := ⟨_, rfl⟩
  rw [← ha4, ← hc4] at hDa hcv
  have i10 : (0 : Int) < 1 := by omega
  clear hr1 hr2 hD1 hD2 p1 n2 p2 q2 hq1 hq2 hTr hTn hoT hbS2 ha4 hc4 hK hlT hcT
  refine wp_region_pre 43 0 (fun W => Below V.heap.size V W) (fun W W' => Below W.heap.size W W')
    (fun i v W => match i with
      | 0 => v = .slice (some ⟨b1, o1, none⟩) 1 c1
      | 1 => v = .pointer (some ⟨b1, o1, none⟩)
      | 2 => v = .pointer (some ⟨b1, o1 + 2, none⟩)
      | 3 => v = .agg (BV noneH).toArray
      | 4 => v = .agg (BV noneH).toArray
      | 5 => v = .bool true
      | 6 => v = .bool true
      | 7 => v = .agg (BV noneH).toArray
      | 8 => v = .agg (BV noneH).toArray
      | 9 => v = .bool true
      | 10 => v = .bool true
      | 11 => v = .bool true
      | 12 => v = .slice (some ⟨b1, o1, none⟩) 1 c1
      | 13 => v = .agg (BV (headX l1)).toArray
      | 14 => v = .slice (some ⟨gT, 0, none⟩) 43 cT
      | 15 => v = .agg (BV (headX l1)).toArray
      | 16 => v = .bool true
      | 17 => v = .bool true
      | 18 => v = .bool true
      | 19 => v = .slice (some ⟨b2, o2, none⟩) 2 c2
      | 20 => v = .pointer (some ⟨b2, o2 + 35, none⟩)
      | 21 => v = .pointer (some ⟨b2, o2 + 35 + 2, none⟩)
      | 22 => v = .agg (BV (headX l1)).toArray
      | 23 => v = .slice (some ⟨b1, o1, none⟩) 1 c1
      | 24 => v = .agg (BV (headX l1)).toArray
      | 25 => v = .bool true
      | 26 => v = .bool true
      | 27 => v = .bool true
      | 28 => v = .slice (some ⟨b2, o2, none⟩) 2 c2
      | 29 => v = .pointer (some ⟨b2, o2 + 35, none⟩)
      | 30 => v = .pointer (some ⟨b2, o2 + 35 + 1, none⟩)
      | 31 => v = .int .i64 1
      | 32 => v = .bool true
      | 33 => v = .bool true
      | 34 => v = .bool true
      | 35 => v = .slice (some ⟨b2, o2, none⟩) 2 c2
      | 36 => v = .pointer (some ⟨b2, o2 + 35, none⟩)
      | 37 => v = .pointer (some ⟨b2, o2 + 35 + 34, none⟩)
      | 38 => v = .slice a4 1 c4
      | 39 => v = .string ⟨#[121]⟩
      | 40 => v = .bool true
      | 41 => v = .bool true
      | 42 => v = .bool true
      | _ => True) (fun _ => false)
    (by kernel_rfl) (by kernel_rfl) (by kernel_rfl) (by kernel_rfl) (by kernel_rfl) (by kernel_rfl) (by kernel_rfl) ?_ (fun _ _ h => h.size) (dN (Below.refl _ _) 1) ?_ ?_
  · intro i v W W' hb hF
    match i, hF with
    | 0, h => exact h
    | 1, h => exact h
    | 2, h => exact h
    | 3, h => exact h
    | 4, h => exact h
    | 5, h => exact h
    | 6, h => exact h
    | 7, h => exact h
    | 8, h => exact h
    | 9, h => exact h
    | 10, h => exact h
    | 11, h => exact h
    | 12, h => exact h
    | 13, h => exact h
    | 14, h => exact h
    | 15, h => exact h
    | 16, h => exact h
    | 17, h => exact h
    | 18, h => exact h
    | 19, h => exact h
    | 20, h => exact h
    | 21, h => exact h
    | 22, h => exact h
    | 23, h => exact h
    | 24, h => exact h
    | 25, h => exact h
    | 26, h => exact h
    | 27, h => exact h
    | 28, h => exact h
    | 29, h => exact h
    | 30, h => exact h
    | 31, h => exact h
    | 32, h => exact h
    | 33, h => exact h
    | 34, h => exact h
    | 35, h => exact h
    | 36, h => exact h
    | 37, h => exact h
    | 38, h => exact h
    | 39, h => exact h
    | 40, h => exact h
    | 41, h => exact h
    | 42, h => exact h
    | _ + 43, _ => trivial
  · refine ⟨?_, ?_, ?_, ?_, ?_, ?_, ?_, ?_, ?_, ?_, ?_, ?_, ?_, ?_, ?_, ?_, ?_, ?_, ?_, ?_, ?_, ?_, ?_, ?_, ?_, ?_, ?_, ?_, ?_, ?_, ?_, ?_, ?_, ?_, ?_, ?_, ?_, ?_, ?_, ?_, ?_, ?_, ?_, trivial⟩
    · refine stepJ_any rfl fun ac W hAA hG hDD K hK => ?_
      have h1 := hAA.getD (t := 1) (by kernel_rfl)
      simp only [Array.getD_eq_getD_getElem?] at h1
      rw [if_pos (by rfl)]
      exact wp_val (v := .slice (some ⟨b1, o1, none⟩) 1 c1) (w' := W) (by simp [execOp, Act.eval, h1, go_sem]) (hK _ _ hG (Below.refl _ _) rfl (fun h => by cases h))
    · refine stepJ_any rfl fun ac W hAA hG hDD K hK => ?_
      have h155 := hDD.get 0 155 _ rfl rfl (by kernel_rfl)
      simp only [Array.getD_eq_getD_getElem?] at h155
      rw [if_pos (by rfl)]
      exact wp_val (v := .pointer (some ⟨b1, o1, none⟩)) (w' := W) (by simp [execOp, Act.eval, h155, go_sem]) (hK _ _ hG (Below.refl _ _) rfl (fun h => by cases h))
    · refine stepJ_any rfl fun ac W hAA hG hDD K hK => ?_
      have h156 := hDD.get 1 156 _ rfl rfl (by kernel_rfl)
      simp only [Array.getD_eq_getD_getElem?] at h156
      rw [if_pos (by rfl)]
      exact wp_val (v := .pointer (some ⟨b1, o1 + 2, none⟩)) (w' := W) (by simp [execOp, Act.eval, h156, go_sem]) (hK _ _ hG (Below.refl _ _) rfl (fun h => by cases h))
    · refine stepJ_any rfl fun ac W hAA hG hDD K hK => ?_
      have h157 := hDD.get 2 157 _ rfl rfl (by kernel_rfl)
      rw [if_pos (by rfl)]
      exact wp_load_mid 35 _ rfl b1 (o1 + 2) h157 (BV noneH) _ (hN1.out W hG) Tryd.uD rfl hszN.out (hK _ _ hG (Below.refl _ _) rfl (fun h => by cases h))
    · refine stepJ_any rfl fun ac W hAA hG hDD K hK => ?_
      have h20 := hAA.getD (t := 20) (by kernel_rfl)
      rw [if_pos (by rfl)]
      exact wp_load_mid 35 _ rfl S (0) h20 (BV noneH) _ (hS.out W hG) Tryd.uD rfl hszN.out (hK _ _ hG (Below.refl _ _) rfl (fun h => by cases h))
    · refine stepJ_any rfl fun ac W hAA hG hDD K hK => ?_
      have h158 := hDD.get 3 158 _ rfl rfl (by kernel_rfl)
      have h159 := hDD.get 4 159 _ rfl rfl (by kernel_rfl)
      simp only [Array.getD_eq_getD_getElem?] at h158 h159
      have hq := eq_digest noneH noneH noneH_len noneH_len W
      rw [beq_self_eq_true] at hq
      rw [if_pos (by rfl)]
      exact wp_val (v := .bool true) (w' := W) (by simp [execOp, Act.eval, h158, h159, go_sem, hq]) (hK _ _ hG (Below.refl _ _) rfl (fun h => by cases h))
    · refine stepJ_any rfl fun ac W hAA hG hDD K hK => ?_
      have h160 := hDD.get 5 160 _ rfl rfl (by kernel_rfl)
      simp only [Array.getD_eq_getD_getElem?] at h160
      rw [if_pos (by rfl)]
      exact wp_val (v := .bool true) (w' := W) (by simp [execOp, Act.eval, h160, go_sem]) (hK _ _ hG (Below.refl _ _) rfl (fun h => by cases h))
    · refine stepJ_any rfl fun ac W hAA hG hDD K hK => ?_
      have hgd := hDD.get 6 161 _ rfl rfl (by kernel_rfl)
      have hgd := slot_bool hgd
      rw [if_pos (by simp [Region.wanted, yielded, hgd])]
      refine wp_call (f := 15) (args := #[.slice none 0 0]) (by simp [execOp, Act.eval, go_sem]) ((hH0.out W hG).mono fun e W9 he => ?_)
      obtain ⟨rfl, hbw⟩ := he
      exact hK _ _ (hG.trans (hbw.mono hG.size)) hbw rfl (fun h => by cases h)
    · refine stepJ_any rfl fun ac W hAA hG hDD K hK => ?_
      have h20 := hAA.getD (t := 20) (by kernel_rfl)
      have hgd := hDD.get 6 161 _ rfl rfl (by kernel_rfl)
      have hgd := slot_bool hgd
      rw [if_pos (by simp [Region.wanted, yielded, hgd])]
      exact wp_load_mid 35 _ rfl S (0) h20 (BV noneH) _ (hS.out W hG) Tryd.uD rfl hszN.out (hK _ _ hG (Below.refl _ _) rfl (fun h => by cases h))
    · refine stepJ_any rfl fun ac W hAA hG hDD K hK => ?_
      have h162 := hDD.get 7 162 _ rfl rfl (by kernel_rfl)
      have h163 := hDD.get 8 163 _ rfl rfl (by kernel_rfl)
      have hgd := hDD.get 6 161 _ rfl rfl (by kernel_rfl)
      have hgd := slot_bool hgd
      simp only [Array.getD_eq_getD_getElem?] at h162 h163
      have hq := eq_digest noneH noneH noneH_len noneH_len W
      rw [beq_self_eq_true] at hq
      rw [if_pos (by simp [Region.wanted, yielded, hgd])]
      exact wp_val (v := .bool true) (w' := W) (by simp [execOp, Act.eval, h162, h163, go_sem, hq]) (hK _ _ hG (Below.refl _ _) rfl (fun h => by cases h))
    · refine stepJ_any rfl fun ac W hAA hG hDD K hK => ?_
      have h161 := hDD.get 6 161 _ rfl rfl (by kernel_rfl)
      have h164 := hDD.get 9 164 _ rfl rfl (by kernel_rfl)
      simp only [Array.getD_eq_getD_getElem?] at h161 h164
      rw [if_pos (by rfl)]
      exact wp_val (v := .bool true) (w' := W) (by simp [execOp, Act.eval, h161, h164, go_sem]) (hK _ _ hG (Below.refl _ _) rfl (fun h => by cases h))
    · refine stepJ_any rfl fun ac W hAA hG hDD K hK => ?_
      have h165 := hDD.get 10 165 _ rfl rfl (by kernel_rfl)
      simp only [Array.getD_eq_getD_getElem?] at h165
      rw [if_pos (by rfl)]
      exact wp_val (v := .bool true) (w' := W) (by simp [execOp, Act.eval, h165, go_sem]) (hK _ _ hG (Below.refl _ _) rfl (fun h => by cases h))
    · refine stepJ_any rfl fun ac W hAA hG hDD K hK => ?_
      have h1 := hAA.getD (t := 1) (by kernel_rfl)
      have hgd := hDD.get 11 166 _ rfl rfl (by kernel_rfl)
      have hgd := slot_bool hgd
      simp only [Array.getD_eq_getD_getElem?] at h1
      rw [if_pos (by simp [Region.wanted, yielded, hgd])]
      exact wp_val (v := .slice (some ⟨b1, o1, none⟩) 1 c1) (w' := W) (by simp [execOp, Act.eval, h1, go_sem]) (hK _ _ hG (Below.refl _ _) rfl (fun h => by cases h))
    · refine stepJ_any rfl fun ac W hAA hG hDD K hK => ?_
      have h167 := hDD.get 12 167 _ rfl rfl (by kernel_rfl)
      have hgd := hDD.get 11 166 _ rfl rfl (by kernel_rfl)
      have hgd := slot_bool hgd
      simp only [Array.getD_eq_getD_getElem?] at h167
      rw [if_pos (by simp [Region.wanted, yielded, hgd])]
      refine wp_call (f := 15) (args := #[.slice (some ⟨b1, o1, none⟩) 1 c1]) (by simp [execOp, Act.eval, h167, go_sem]) ((hH1.out W hG).mono fun e W9 he => ?_)
      obtain ⟨rfl, hbw⟩ := he
      exact hK _ _ (hG.trans (hbw.mono hG.size)) hbw rfl (fun h => by cases h)
    · refine stepJ_any rfl fun ac W hAA hG hDD K hK => ?_
      have h21 := hAA.getD (t := 21) (by kernel_rfl)
      have hgd := hDD.get 11 166 _ rfl rfl (by kernel_rfl)
      have hgd := slot_bool hgd
      simp only [Array.getD_eq_getD_getElem?] at h21
      rw [if_pos (by simp [Region.wanted, yielded, hgd])]
      exact wp_val (v := .slice (some ⟨gT, 0, none⟩) 43 cT) (w' := W) (by simp [execOp, Act.eval, h21, go_sem]) (hK _ _ hG (Below.refl _ _) rfl (fun h => by cases h))
    · refine stepJ_any rfl fun ac W hAA hG hDD K hK => ?_
      have h169 := hDD.get 14 169 _ rfl rfl (by kernel_rfl)
      have hgd := hDD.get 11 166 _ rfl rfl (by kernel_rfl)
      have hgd := slot_bool hgd
      simp only [Array.getD_eq_getD_getElem?] at h169
      rw [if_pos (by simp [Region.wanted, yielded, hgd])]
      refine wp_call (f := 19) (args := #[.string ⟨#[108, 105, 110, 107]⟩, .slice (some ⟨gT, 0, none⟩) 43 cT]) (by simp [execOp, Act.eval, h169, go_sem]) ((hTg.out W hG).mono fun e W9 he => ?_)
      obtain ⟨rfl, hbw⟩ := he
      exact hK _ _ (hG.trans (hbw.mono hG.size)) hbw rfl (fun h => by cases h)
    · refine stepJ_any rfl fun ac W hAA hG hDD K hK => ?_
      have h168 := hDD.get 13 168 _ rfl rfl (by kernel_rfl)
      have h170 := hDD.get 15 170 _ rfl rfl (by kernel_rfl)
      have hgd := hDD.get 11 166 _ rfl rfl (by kernel_rfl)
      have hgd := slot_bool hgd
      simp only [Array.getD_eq_getD_getElem?] at h168 h170
      have hq := eq_digest (headX l1) (headX l1) (headX_len _) (headX_len _) W
      rw [beq_self_eq_true] at hq
      rw [if_pos (by simp [Region.wanted, yielded, hgd])]
      exact wp_val (v := .bool true) (w' := W) (by simp [execOp, Act.eval, h168, h170, go_sem, hq]) (hK _ _ hG (Below.refl _ _) rfl (fun h => by cases h))
    · refine stepJ_any rfl fun ac W hAA hG hDD K hK => ?_
      have h166 := hDD.get 11 166 _ rfl rfl (by kernel_rfl)
      have h171 := hDD.get 16 171 _ rfl rfl (by kernel_rfl)
      simp only [Array.getD_eq_getD_getElem?] at h166 h171
      rw [if_pos (by rfl)]
      exact wp_val (v := .bool true) (w' := W) (by simp [execOp, Act.eval, h166, h171, go_sem]) (hK _ _ hG (Below.refl _ _) rfl (fun h => by cases h))
    · refine stepJ_any rfl fun ac W hAA hG hDD K hK => ?_
      have h172 := hDD.get 17 172 _ rfl rfl (by kernel_rfl)
      simp only [Array.getD_eq_getD_getElem?] at h172
      rw [if_pos (by rfl)]
      exact wp_val (v := .bool true) (w' := W) (by simp [execOp, Act.eval, h172, go_sem]) (hK _ _ hG (Below.refl _ _) rfl (fun h => by cases h))
    · refine stepJ_any rfl fun ac W hAA hG hDD K hK => ?_
      have h3 := hAA.getD (t := 3) (by kernel_rfl)
      have hgd := hDD.get 18 173 _ rfl rfl (by kernel_rfl)
      have hgd := slot_bool hgd
      simp only [Array.getD_eq_getD_getElem?] at h3
      rw [if_pos (by simp [Region.wanted, yielded, hgd])]
      exact wp_val (v := .slice (some ⟨b2, o2, none⟩) 2 c2) (w' := W) (by simp [execOp, Act.eval, h3, go_sem]) (hK _ _ hG (Below.refl _ _) rfl (fun h => by cases h))
    · refine stepJ_any rfl fun ac W hAA hG hDD K hK => ?_
      have h174 := hDD.get 19 174 _ rfl rfl (by kernel_rfl)
      have hgd := hDD.get 18 173 _ rfl rfl (by kernel_rfl)
      have hgd := slot_bool hgd
      simp only [Array.getD_eq_getD_getElem?] at h174
      rw [if_pos (by simp [Region.wanted, yielded, hgd])]
      exact wp_val (v := .pointer (some ⟨b2, o2 + 35, none⟩)) (w' := W) (by simp [execOp, Act.eval, h174, go_sem]) (hK _ _ hG (Below.refl _ _) rfl (fun h => by cases h))
    · refine stepJ_any rfl fun ac W hAA hG hDD K hK => ?_
      have h175 := hDD.get 20 175 _ rfl rfl (by kernel_rfl)
      have hgd := hDD.get 18 173 _ rfl rfl (by kernel_rfl)
      have hgd := slot_bool hgd
      simp only [Array.getD_eq_getD_getElem?] at h175
      rw [if_pos (by simp [Region.wanted, yielded, hgd])]
      exact wp_val (v := .pointer (some ⟨b2, o2 + 35 + 2, none⟩)) (w' := W) (by simp [execOp, Act.eval, h175, go_sem]) (hK _ _ hG (Below.refl _ _) rfl (fun h => by cases h))
    · refine stepJ_any rfl fun ac W hAA hG hDD K hK => ?_
      have h176 := hDD.get 21 176 _ rfl rfl (by kernel_rfl)
      have hgd := hDD.get 18 173 _ rfl rfl (by kernel_rfl)
      have hgd := slot_bool hgd
      rw [if_pos (by simp [Region.wanted, yielded, hgd])]
      exact wp_load_mid 35 _ rfl b2 (o2 + 35 + 2) h176 (BV (headX l1)) _ (hN2.out W hG) Tryd.uD rfl hszH.out (hK _ _ hG (Below.refl _ _) rfl (fun h => by cases h))
    · refine stepJ_any rfl fun ac W hAA hG hDD K hK => ?_
      have h1 := hAA.getD (t := 1) (by kernel_rfl)
      have hgd := hDD.get 18 173 _ rfl rfl (by kernel_rfl)
      have hgd := slot_bool hgd
      simp only [Array.getD_eq_getD_getElem?] at h1
      rw [if_pos (by simp [Region.wanted, yielded, hgd])]
      exact wp_val (v := .slice (some ⟨b1, o1, none⟩) 1 c1) (w' := W) (by simp [execOp, Act.eval, h1, go_sem]) (hK _ _ hG (Below.refl _ _) rfl (fun h => by cases h))
    · refine stepJ_any rfl fun ac W hAA hG hDD K hK => ?_
      have h178 := hDD.get 23 178 _ rfl rfl (by kernel_rfl)
      have hgd := hDD.get 18 173 _ rfl rfl (by kernel_rfl)
      have hgd := slot_bool hgd
      simp only [Array.getD_eq_getD_getElem?] at h178
      rw [if_pos (by simp [Region.wanted, yielded, hgd])]
      refine wp_call (f := 15) (args := #[.slice (some ⟨b1, o1, none⟩) 1 c1]) (by simp [execOp, Act.eval, h178, go_sem]) ((hH1.out W hG).mono fun e W9 he => ?_)
      obtain ⟨rfl, hbw⟩ := he
      exact hK _ _ (hG.trans (hbw.mono hG.size)) hbw rfl (fun h => by cases h)
    · refine stepJ_any rfl fun ac W hAA hG hDD K hK => ?_
      have h177 := hDD.get 22 177 _ rfl rfl (by kernel_rfl)
      have h179 := hDD.get 24 179 _ rfl rfl (by kernel_rfl)
      have hgd := hDD.get 18 173 _ rfl rfl (by kernel_rfl)
      have hgd := slot_bool hgd
      simp only [Array.getD_eq_getD_getElem?] at h177 h179
      have hq := eq_digest (headX l1) (headX l1) (headX_len _) (headX_len _) W
      rw [beq_self_eq_true] at hq
      rw [if_pos (by simp [Region.wanted, yielded, hgd])]
      exact wp_val (v := .bool true) (w' := W) (by simp [execOp, Act.eval, h177, h179, go_sem, hq]) (hK _ _ hG (Below.refl _ _) rfl (fun h => by cases h))
    · refine stepJ_any rfl fun ac W hAA hG hDD K hK => ?_
      have h173 := hDD.get 18 173 _ rfl rfl (by kernel_rfl)
      have h180 := hDD.get 25 180 _ rfl rfl (by kernel_rfl)
      simp only [Array.getD_eq_getD_getElem?] at h173 h180
      rw [if_pos (by rfl)]
      exact wp_val (v := .bool true) (w' := W) (by simp [execOp, Act.eval, h173, h180, go_sem]) (hK _ _ hG (Below.refl _ _) rfl (fun h => by cases h))
    · refine stepJ_any rfl fun ac W hAA hG hDD K hK => ?_
      have h181 := hDD.get 26 181 _ rfl rfl (by kernel_rfl)
      simp only [Array.getD_eq_getD_getElem?] at h181
      rw [if_pos (by rfl)]
      exact wp_val (v := .bool true) (w' := W) (by simp [execOp, Act.eval, h181, go_sem]) (hK _ _ hG (Below.refl _ _) rfl (fun h => by cases h))
    · refine stepJ_any rfl fun ac W hAA hG hDD K hK => ?_
      have h3 := hAA.getD (t := 3) (by kernel_rfl)
      have hgd := hDD.get 27 182 _ rfl rfl (by kernel_rfl)
      have hgd := slot_bool hgd
      simp only [Array.getD_eq_getD_getElem?] at h3
      rw [if_pos (by simp [Region.wanted, yielded, hgd])]
      exact wp_val (v := .slice (some ⟨b2, o2, none⟩) 2 c2) (w' := W) (by simp [execOp, Act.eval, h3, go_sem]) (hK _ _ hG (Below.refl _ _) rfl (fun h => by cases h))
    · refine stepJ_any rfl fun ac W hAA hG hDD K hK => ?_
      have h183 := hDD.get 28 183 _ rfl rfl (by kernel_rfl)
      have hgd := hDD.get 27 182 _ rfl rfl (by kernel_rfl)
      have hgd := slot_bool hgd
      simp only [Array.getD_eq_getD_getElem?] at h183
      rw [if_pos (by simp [Region.wanted, yielded, hgd])]
      exact wp_val (v := .pointer (some ⟨b2, o2 + 35, none⟩)) (w' := W) (by simp [execOp, Act.eval, h183, go_sem]) (hK _ _ hG (Below.refl _ _) rfl (fun h => by cases h))
    · refine stepJ_any rfl fun ac W hAA hG hDD K hK => ?_
      have h184 := hDD.get 29 184 _ rfl rfl (by kernel_rfl)
      have hgd := hDD.get 27 182 _ rfl rfl (by kernel_rfl)
      have hgd := slot_bool hgd
      simp only [Array.getD_eq_getD_getElem?] at h184
      rw [if_pos (by simp [Region.wanted, yielded, hgd])]
      exact wp_val (v := .pointer (some ⟨b2, o2 + 35 + 1, none⟩)) (w' := W) (by simp [execOp, Act.eval, h184, go_sem]) (hK _ _ hG (Below.refl _ _) rfl (fun h => by cases h))
    · refine stepJ_any rfl fun ac W hAA hG hDD K hK => ?_
      have h185 := hDD.get 30 185 _ rfl rfl (by kernel_rfl)
      have hgd := hDD.get 27 182 _ rfl rfl (by kernel_rfl)
      have hgd := slot_bool hgd
      simp only [Array.getD_eq_getD_getElem?] at h185
      have m1 := hNo.out W hG
      rw [if_pos (by simp [Region.wanted, yielded, hgd])]
      exact wp_val (v := .int .i64 1) (w' := W) (by simp [execOp, Act.eval, h185, go_sem, m1]) (hK _ _ hG (Below.refl _ _) rfl (fun h => by cases h))
    · refine stepJ_any rfl fun ac W hAA hG hDD K hK => ?_
      have h186 := hDD.get 31 186 _ rfl rfl (by kernel_rfl)
      have hgd := hDD.get 27 182 _ rfl rfl (by kernel_rfl)
      have hgd := slot_bool hgd
      simp only [Array.getD_eq_getD_getElem?] at h186
      rw [if_pos (by simp [Region.wanted, yielded, hgd])]
      exact wp_val (v := .bool true) (w' := W) (by simp [execOp, Act.eval, h186, go_sem]) (hK _ _ hG (Below.refl _ _) rfl (fun h => by cases h))
    · refine stepJ_any rfl fun ac W hAA hG hDD K hK => ?_
      have h182 := hDD.get 27 182 _ rfl rfl (by kernel_rfl)
      have h187 := hDD.get 32 187 _ rfl rfl (by kernel_rfl)
      simp only [Array.getD_eq_getD_getElem?] at h182 h187
      rw [if_pos (by rfl)]
      exact wp_val (v := .bool true) (w' := W) (by simp [execOp, Act.eval, h182, h187, go_sem]) (hK _ _ hG (Below.refl _ _) rfl (fun h => by cases h))
    · refine stepJ_any rfl fun ac W hAA hG hDD K hK => ?_
      have h188 := hDD.get 33 188 _ rfl rfl (by kernel_rfl)
      simp only [Array.getD_eq_getD_getElem?] at h188
      rw [if_pos (by rfl)]
      exact wp_val (v := .bool true) (w' := W) (by simp [execOp, Act.eval, h188, go_sem]) (hK _ _ hG (Below.refl _ _) rfl (fun h => by cases h))
    · refine stepJ_any rfl fun ac W hAA hG hDD K hK => ?_
      have h3 := hAA.getD (t := 3) (by kernel_rfl)
      have hgd := hDD.get 34 189 _ rfl rfl (by kernel_rfl)
      have hgd := slot_bool hgd
      simp only [Array.getD_eq_getD_getElem?] at h3
      rw [if_pos (by simp [Region.wanted, yielded, hgd])]
      exact wp_val (v := .slice (some ⟨b2, o2, none⟩) 2 c2) (w' := W) (by simp [execOp, Act.eval, h3, go_sem]) (hK _ _ hG (Below.refl _ _) rfl (fun h => by cases h))
    · refine stepJ_any rfl fun ac W hAA hG hDD K hK => ?_
      have h190 := hDD.get 35 190 _ rfl rfl (by kernel_rfl)
      have hgd := hDD.get 34 189 _ rfl rfl (by kernel_rfl)
      have hgd := slot_bool hgd
      simp only [Array.getD_eq_getD_getElem?] at h190
      rw [if_pos (by simp [Region.wanted, yielded, hgd])]
      exact wp_val (v := .pointer (some ⟨b2, o2 + 35, none⟩)) (w' := W) (by simp [execOp, Act.eval, h190, go_sem]) (hK _ _ hG (Below.refl _ _) rfl (fun h => by cases h))
    · refine stepJ_any rfl fun ac W hAA hG hDD K hK => ?_
      have h191 := hDD.get 36 191 _ rfl rfl (by kernel_rfl)
      have hgd := hDD.get 34 189 _ rfl rfl (by kernel_rfl)
      have hgd := slot_bool hgd
      simp only [Array.getD_eq_getD_getElem?] at h191
      rw [if_pos (by simp [Region.wanted, yielded, hgd])]
      exact wp_val (v := .pointer (some ⟨b2, o2 + 35 + 34, none⟩)) (w' := W) (by simp [execOp, Act.eval, h191, go_sem]) (hK _ _ hG (Below.refl _ _) rfl (fun h => by cases h))
    · refine stepJ_any rfl fun ac W hAA hG hDD K hK => ?_
      have h192 := hDD.get 37 192 _ rfl rfl (by kernel_rfl)
      have hgd := hDD.get 34 189 _ rfl rfl (by kernel_rfl)
      have hgd := slot_bool hgd
      simp only [Array.getD_eq_getD_getElem?] at h192
      have m1 := hDa.out W hG
      rw [if_pos (by simp [Region.wanted, yielded, hgd])]
      exact wp_val (v := .slice a4 1 c4) (w' := W) (by simp [execOp, Act.eval, h192, go_sem, m1]) (hK _ _ hG (Below.refl _ _) rfl (fun h => by cases h))
    · refine stepJ_any rfl fun ac W hAA hG hDD K hK => ?_
      have h193 := hDD.get 38 193 _ rfl rfl (by kernel_rfl)
      have hgd := hDD.get 34 189 _ rfl rfl (by kernel_rfl)
      have hgd := slot_bool hgd
      simp only [Array.getD_eq_getD_getElem?] at h193
      have m1 := hcv.out W hG
      rw [if_pos (by simp [Region.wanted, yielded, hgd])]
      exact wp_val (v := .string ⟨#[121]⟩) (w' := W) (by simp [execOp, Act.eval, h193, go_sem, m1]) (hK _ _ hG (Below.refl _ _) rfl (fun h => by cases h))
    · refine stepJ_any rfl fun ac W hAA hG hDD K hK => ?_
      have h194 := hDD.get 39 194 _ rfl rfl (by kernel_rfl)
      have hgd := hDD.get 34 189 _ rfl rfl (by kernel_rfl)
      have hgd := slot_bool hgd
      simp only [Array.getD_eq_getD_getElem?] at h194
      rw [if_pos (by simp [Region.wanted, yielded, hgd])]
      exact wp_val (v := .bool true) (w' := W) (by simp [execOp, Act.eval, h194, go_sem]) (hK _ _ hG (Below.refl _ _) rfl (fun h => by cases h))
    · refine stepJ_any rfl fun ac W hAA hG hDD K hK => ?_
      have h189 := hDD.get 34 189 _ rfl rfl (by kernel_rfl)
      have h195 := hDD.get 40 195 _ rfl rfl (by kernel_rfl)
      simp only [Array.getD_eq_getD_getElem?] at h189 h195
      rw [if_pos (by rfl)]
      exact wp_val (v := .bool true) (w' := W) (by simp [execOp, Act.eval, h189, h195, go_sem]) (hK _ _ hG (Below.refl _ _) rfl (fun h => by cases h))
    · refine stepJ_any rfl fun ac W hAA hG hDD K hK => ?_
      have h196 := hDD.get 41 196 _ rfl rfl (by kernel_rfl)
      simp only [Array.getD_eq_getD_getElem?] at h196
      rw [if_pos (by rfl)]
      exact wp_val (v := .bool true) (w' := W) (by simp [execOp, Act.eval, h196, go_sem]) (hK _ _ hG (Below.refl _ _) rfl (fun h => by cases h))
  intro fu T W9 hG hF hne hltb
  have e155 : T 155 = .slice (some ⟨b1, o1, none⟩) 1 c1 := hF 0 _ rfl (by omega)
  have e156 : T 156 = .pointer (some ⟨b1, o1, none⟩) := hF 1 _ rfl (by omega)
  have e157 : T 157 = .pointer (some ⟨b1, o1 + 2, none⟩) := hF 2 _ rfl (by omega)
  have e158 : T 158 = .agg (BV noneH).toArray := hF 3 _ rfl (by omega)
  have e159 : T 159 = .agg (BV noneH).toArray := hF 4 _ rfl (by omega)
  have e160 : T 160 = .bool true := hF 5 _ rfl (by omega)
  have e161 : T 161 = .bool true := hF 6 _ rfl (by omega)
  have e162 : T 162 = .agg (BV noneH).toArray := hF 7 _ rfl (by omega)
  have e163 : T 163 = .agg (BV noneH).toArray := hF 8 _ rfl (by omega)
  have e164 : T 164 = .bool true := hF 9 _ rfl (by omega)
  have e165 : T 165 = .bool true := hF 10 _ rfl (by omega)
  have e166 : T 166 = .bool true := hF 11 _ rfl (by omega)
  have e167 : T 167 = .slice (some ⟨b1, o1, none⟩) 1 c1 := hF 12 _ rfl (by omega)
  have e168 : T 168 = .agg (BV (headX l1)).toArray := hF 13 _ rfl (by omega)
  have e169 : T 169 = .slice (some ⟨gT, 0, none⟩) 43 cT := hF 14 _ rfl (by omega)
  have e170 : T 170 = .agg (BV (headX l1)).toArray := hF 15 _ rfl (by omega)
  have e171 : T 171 = .bool true := hF 16 _ rfl (by omega)
  have e172 : T 172 = .bool true := hF 17 _ rfl (by omega)
  have e173 : T 173 = .bool true := hF 18 _ rfl (by omega)
  have e174 : T 174 = .slice (some ⟨b2, o2, none⟩) 2 c2 := hF 19 _ rfl (by omega)
  have e175 : T 175 = .pointer (some ⟨b2, o2 + 35, none⟩) := hF 20 _ rfl (by omega)
  have e176 : T 176 = .pointer (some ⟨b2, o2 + 35 + 2, none⟩) := hF 21 _ rfl (by omega)
  have e177 : T 177 = .agg (BV (headX l1)).toArray := hF 22 _ rfl (by omega)
  have e178 : T 178 = .slice (some ⟨b1, o1, none⟩) 1 c1 := hF 23 _ rfl (by omega)
  have e179 : T 179 = .agg (BV (headX l1)).toArray := hF 24 _ rfl (by omega)
  have e180 : T 180 = .bool true := hF 25 _ rfl (by omega)
  have e181 : T 181 = .bool true := hF 26 _ rfl (by omega)
  have e182 : T 182 = .bool true := hF 27 _ rfl (by omega)
  have e183 : T 183 = .slice (some ⟨b2, o2, none⟩) 2 c2 := hF 28 _ rfl (by omega)
  have e184 : T 184 = .pointer (some ⟨b2, o2 + 35, none⟩) := hF 29 _ rfl (by omega)
  have e185 : T 185 = .pointer (some ⟨b2, o2 + 35 + 1, none⟩) := hF 30 _ rfl (by omega)
  have e186 : T 186 = .int .i64 1 := hF 31 _ rfl (by omega)
  have e187 : T 187 = .bool true := hF 32 _ rfl (by omega)
  have e188 : T 188 = .bool true := hF 33 _ rfl (by omega)
  have e189 : T 189 = .bool true := hF 34 _ rfl (by omega)
  have e190 : T 190 = .slice (some ⟨b2, o2, none⟩) 2 c2 := hF 35 _ rfl (by omega)
  have e191 : T 191 = .pointer (some ⟨b2, o2 + 35, none⟩) := hF 36 _ rfl (by omega)
  have e192 : T 192 = .pointer (some ⟨b2, o2 + 35 + 34, none⟩) := hF 37 _ rfl (by omega)
  have e193 : T 193 = .slice a4 1 c4 := hF 38 _ rfl (by omega)
  have e194 : T 194 = .string ⟨#[121]⟩ := hF 39 _ rfl (by omega)
  have e195 : T 195 = .bool true := hF 40 _ rfl (by omega)
  have e196 : T 196 = .bool true := hF 41 _ rfl (by omega)
  have e0 : T 0 = .bool true := hF 42 _ rfl (by omega)
  clear hF hne hltb
  simp only [List.take, fillT, List.setIfInBounds_toArray, List.set_cons_zero, List.set_cons_succ, e155, e156, e157, e158, e159, e160, e161, e162, e163, e164, e165, e166, e167, e168, e169, e170, e171, e172, e173, e174, e175, e176, e177, e178, e179, e180, e181, e182, e183, e184, e185, e186, e187, e188, e189, e190, e191, e192, e193, e194, e195, e196, e0]
  clear e155 e156 e157 e158 e159 e160 e161 e162 e163 e164 e165 e166 e167 e168 e169 e170 e171 e172 e173 e174 e175 e176 e177 e178 e179 e180 e181 e182 e183 e184 e185 e186 e187 e188 e189 e190 e191 e192 e193 e194 e195 e196 e0
  refine wpAny_done (by kernel_rfl) ?_ _
  have hBz := Lib.hid (hB.out.trans (hG.mono hB.out.size))
  clear hG hN1 hN2 hNo hDa hcv hS hH0 hH1 hTg
  go_wp2_with fail
  go_ret
  exact ⟨rfl, hBz.out⟩
end Go.Proofs.YtbhpmeljmkoebaaDoor

