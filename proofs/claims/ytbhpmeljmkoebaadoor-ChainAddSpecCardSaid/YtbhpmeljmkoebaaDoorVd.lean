/- Texts and heads of links: number, bytesOf, text, headOf, noHead, Head. -/
import Derived.Test.YtbhpmeljmkoebaaDoorVc
import Derived.Test.YtbhpmeljmkoebaaDoorKEn
namespace Go.Proofs.YtbhpmeljmkoebaaDoor
open Go.RowKit

def linkB : ByteArray := ⟨#[108, 105, 110, 107]⟩
def noneB : ByteArray := ⟨#[110, 111, 110, 101]⟩
/-- What is hashed of a link, as a value. -/
def gvL (x : Lk) : K.GV := .mk 3 0 ⟨#[]⟩ [.mk 1 x.node ⟨#[]⟩ [], .mk 1 x.no ⟨#[]⟩ [], .mk 2 0 ⟨x.prev.toArray⟩ [], .mk 2 0 ⟨x.data.toArray⟩ []]
def txtL (x : Lk) : List UInt8 := K.enc (gvL x)
def headX (x : Lk) : List UInt8 := tagH linkB.data.toList (txtL x)
def noneH : List UInt8 := tagH noneB.data.toList []
def headP (l : List Lk) : List UInt8 := match l.getLast? with | none => noneH | some x => headX x
theorem headX_len (x : Lk) : (headX x).length = 32 := tagH_length _ _
theorem noneH_len : noneH.length = 32 := tagH_length _ _
theorem headP_len (l : List Lk) : (headP l).length = 32 := by
  unfold headP
  split
  · exact noneH_len
  · exact headX_len _
theorem empty_list : (⟨#[]⟩ : ByteArray).toList = [] := by rw [ByteArray.toList_eq]
theorem chk_gv (x : Lk) : K.chk (gvL x) = 0 := by simp [K.chk, gvL, K.formed, K.formedAll, K.dep, K.depAll]
theorem big_gv (x : Lk) : K.big (gvL x) = 5 + x.prev.length + x.data.length := by
  simp [gvL, K.big, K.bigAll, ByteArray.size]
  omega
theorem K_I64 {n : Int} (h : I64 n) : K.I64 n := h
theorem nums_gv {x : Lk} (hf : x.Fine) : K.Nums (gvL x) := by
  refine .mk _ _ _ _ (by unfold K.I64; omega) fun i hi => ?_
  match i, hi with
  | 0, _ => exact .mk _ _ _ _ hf.node fun i h => absurd h (by simp)
  | 1, _ => exact .mk _ _ _ _ hf.no fun i h => absurd h (by simp)
  | 2, _ => exact .mk _ _ _ _ (by unfold K.I64; omega) fun i h => absurd h (by simp)
  | 3, _ => exact .mk _ _ _ _ (by unfold K.I64; omega) fun i h => absurd h (by simp)
theorem txt_le {x : Lk} (hf : x.Fine) (hd : x.data.length ≤ 65536) : (txtL x).length ≤ 900000 := by
  have h := K.enc_length (gvL x) (nums_gv hf) (by rw [big_gv, hf.prev]; omega)
  rw [big_gv, hf.prev] at h
  unfold txtL
  omega
/-- The cells of the four values. -/
def row4 (x : Lk) : List Value := [.int .i64 1, .int .i64 x.node, .string ⟨#[]⟩, .slice none 0 0, .int .i64 1, .int .i64 x.no, .string ⟨#[]⟩, .slice none 0 0,
  .int .i64 2, .int .i64 0, .string ⟨x.prev.toArray⟩, .slice none 0 0, .int .i64 2, .int .i64 0, .string ⟨x.data.toArray⟩, .slice none 0 0]
theorem leaf_reads {w : World} {B : Nat} {k n : Int} {s : ByteArray} (hk : K.I64 k) (hn : K.I64 n) (hs : s.size ≤ maxLen) : K.RV w B (.mk k n s []) (.agg #[.int .i64 k, .int .i64 n, .string s, .slice none 0 0]) :=
  .mk k n s [] none 0 0 0 (fun _ => .nilFunc) hk hn hs (by simp) (by simp [maxLen]) (by simp) (by simp) (fun i h => absurd h (by simp)) (fun i h => absurd h (by simp))
theorem gv_reads {w : World} {x : Lk} (hf : x.Fine) (hd : x.data.length ≤ 65536) {g : Nat} {T : TypeId} (hg : w.heap[g]? = some (.cells (row4 x).toArray T (0, 0))) :
    K.RV w w.heap.size (gvL x) (.agg #[.int .i64 3, .int .i64 0, .string ⟨#[]⟩, .slice (some ⟨g, 0, none⟩) 4 4]) := by
  have hlt : g < w.heap.size := (Array.getElem?_eq_some_iff.1 hg).1
  have hc : ∀ k, w.cell? ⟨g, k, none⟩ = (row4 x)[k]? := fun k => by rw [cell_of_row w g k _ _ _ hg]; simp
  have hp := hf.prev
  refine .mk 3 0 ⟨#[]⟩ _ (some ⟨g, 0, none⟩) 4 g 0 (fun i => match i with
    | 0 => .agg #[.int .i64 1, .int .i64 x.node, .string ⟨#[]⟩, .slice none 0 0]
    | 1 => .agg #[.int .i64 1, .int .i64 x.no, .string ⟨#[]⟩, .slice none 0 0]
    | 2 => .agg #[.int .i64 2, .int .i64 0, .string ⟨x.prev.toArray⟩, .slice none 0 0]
    | _ => .agg #[.int .i64 2, .int .i64 0, .string ⟨x.data.toArray⟩, .slice none 0 0]) (by unfold K.I64; omega) (by unfold K.I64; omega) (by simp [maxLen, ByteArray.size]) (by simp) (by simp [maxLen]) (by simp) (fun _ => ⟨rfl, hlt⟩) (fun i hi => ?_) (fun i hi => ?_)
  · match i, hi with
    | 0, _ => exact leaf_reads (by unfold K.I64; omega) hf.node (by simp [maxLen, ByteArray.size])
    | 1, _ => exact leaf_reads (by unfold K.I64; omega) hf.no (by simp [maxLen, ByteArray.size])
    | 2, _ => exact leaf_reads (by unfold K.I64; omega) (by unfold K.I64; omega) (by simp [maxLen, ByteArray.size]; omega)
    | 3, _ => exact leaf_reads (by unfold K.I64; omega) (by unfold K.I64; omega) (by simp [maxLen, ByteArray.size]; omega)
  · match i, hi with
    | 0, _ => exact ⟨_, _, _, _, rfl, hc 0, hc 1, hc 2, hc 3⟩
    | 1, _ => exact ⟨_, _, _, _, rfl, hc 4, hc 5, hc 6, hc 7⟩
    | 2, _ => exact ⟨_, _, _, _, rfl, hc 8, hc 9, hc 10, hc 11⟩
    | 3, _ => exact ⟨_, _, _, _, rfl, hc 12, hc 13, hc 14, hc 15⟩
theorem OB.form {w : World} {B : Nat} {v : Value} {l : List UInt8} (h : OB w B v l) : ∃ a c, v = .slice a l.length c ∧ l.length ≤ c := by
  rcases h.2 with ⟨rfl, h0⟩ | ⟨q, cap, cur, rfl, -, -, hc, -⟩
  · exact ⟨none, 0, by rw [h0], by omega⟩
  · exact ⟨_, cap, rfl, hc⟩
theorem none_of {w : World} {B : Nat} {a : Option Addr} {n c : Nat} {l : List UInt8} (h : OB w B (.slice a n c) l) : a = none → l = [] := fun e => by
  subst e
  rcases h.2 with ⟨e, h0⟩ | ⟨q, cap, cur, e, -⟩
  · exact List.eq_nil_of_length_eq_zero h0
  · cases e
theorem slice_digest (D off : Nat) (W : World) : (Instr.sliceAt 35 (.pointer (some ⟨D, off, none⟩)) none none none).run Tryd.prog W = .ok (.slice (some ⟨D, off, none⟩) 32 32) W := by kernel_rfl
theorem number_any (n : Int) (w : World) : Calls Tryd.prog 39 #[.int .i64 n] w fun e w' => e = .returned (.agg #[.int .i64 1, .int .i64 n, .string ⟨#[]⟩, .slice none 0 0]) ∧ Below w.heap.size w w' := by
  go_enter Tryd.func39, Tryd.ntmps39
  go_wp2_with fail
  exact bodyPost_ret (v := .agg #[.int .i64 1, .int .i64 n, .string ⟨#[]⟩, .slice none 0 0]) (by simp [results, Tryd.results39, go_sem]) rfl ⟨rfl, (Below.refl _ _).alloc (Nat.le_refl _) _⟩
theorem bytesOf_any (bs : List UInt8) (w : World) (a : Option Addr) (c : Nat) (h : RBs w w.heap.size a bs) : Calls Tryd.prog 40 #[.slice a bs.length c] w fun e w' => e = .returned (.agg #[.int .i64 2, .int .i64 0, .string ⟨bs.toArray⟩, .slice none 0 0]) ∧ Below w.heap.size w w' := by
  have hcv := fun o => conv_str (c := c) (h.lift (bel1 w o) (bel1 w o).size)
  clear h
  go_enter Tryd.func40, Tryd.ntmps40
  go_wp2_with fail
  exact bodyPost_ret (v := .agg #[.int .i64 2, .int .i64 0, .string ⟨bs.toArray⟩, .slice none 0 0]) (by simp [results, Tryd.results40, go_sem]) rfl ⟨rfl, (Below.refl _ _).alloc (Nat.le_refl _) _⟩
theorem prev_any (x : Lk) (hf : x.Fine) (w : World) (g o : Nat) (hg : g < w.heap.size) (h : w.rangeAt g o (BV x.prev)) : Calls Tryd.prog 40 #[.slice (some ⟨g, o, none⟩) 32 32] w fun e w' => e = .returned (.agg #[.int .i64 2, .int .i64 0, .string ⟨x.prev.toArray⟩, .slice none 0 0]) ∧ Below w.heap.size w w' := by
  have := bytesOf_any x.prev w (some ⟨g, o, none⟩) 32 (range_reads hg h)
  rwa [hf.prev] at this
set_option maxRecDepth 100000 in
theorem text_any (x : Lk) (hf : x.Fine) (hd : x.data.length ≤ 65536) (w : World) (g : Nat) (T : TypeId) (hg : w.heap[g]? = some (.cells (row4 x).toArray T (0, 0))) :
    Calls Tryd.prog 38 #[.slice (some ⟨g, 0, none⟩) 4 4] w fun e w' => ∃ v, e = .returned v ∧ OB w' w.heap.size v (txtL x) ∧ Below w.heap.size w w' := by
  have hE := Lib.hid (K.Encode_any (gvL x) (by rw [big_gv, hf.prev]; omega) w w.heap.size _ (Nat.le_refl _) (gv_reads hf hd hg))
  have he : K.encB (gvL x) = txtL x := by rw [K.encB, if_pos (chk_gv x)]; rfl
  have hc := chk_gv x
  replace he := Lib.hid he
  replace hc := Lib.hid hc
  clear hg
  go_enter Tryd.func38, Tryd.ntmps38
  go_wp2_with fail
  refine hE.out.mono ?_
  rintro e w1 ⟨v, rfl, ho, hb⟩
  rw [he.out] at ho
  rw [hc.out]
  replace ho := Lib.hid ho
  replace hb := Lib.hid hb
  go_wp2_with fail
  go_ret
  exact ⟨v, rfl, ho.out, hb.out⟩
set_option maxRecDepth 100000 in
set_option maxHeartbeats 2000000 in
theorem headOf_any (x : Lk) (hf : x.Fine) (hd : x.data.length ≤ 65536) (w : World) (a : Option Addr) (c : Nat) (hDt : Dt w w.heap.size x a c) (hKT : KT w) (h0 : 0 < w.heap.size) :
    Calls Tryd.prog 30 #[.agg (LW x a c).toArray] w fun e w' => e = .returned (.agg (BV (headX x)).toArray) ∧ Below w.heap.size w w' := by
  have h1 := heap_alloc_new w (.cells (LW x a c).toArray 37)
  have hz := zero_new (w.alloc (.cells (LW x a c).toArray 37))
  have hb2 := bel1 (w.alloc (.cells (LW x a c).toArray 37)) (.cells #[.int .u8 0, .int .u8 0, .int .u8 0, .int .u8 0, .int .u8 0, .int .u8 0, .int .u8 0, .int .u8 0, .int .u8 0, .int .u8 0, .int .u8 0, .int .u8 0, .int .u8 0, .int .u8 0, .int .u8 0, .int .u8 0, .int .u8 0, .int .u8 0, .int .u8 0, .int .u8 0, .int .u8 0, .int .u8 0, .int .u8 0, .int .u8 0, .int .u8 0, .int .u8 0, .int .u8 0, .int .u8 0, .int .u8 0, .int .u8 0, .int .u8 0, .int .u8 0] 35)
  have hbV := (bel1 w (.cells (LW x a c).toArray 37)).trans (hb2.mono (bel1 w _).size)
  replace h1 := range_of (blk_at h1 hb2)
  rw [World.size_alloc] at hz
  replace hf := Lib.hid hf
  replace hd := Lib.hid hd
  replace hDt := Lib.hid hDt
  replace hKT := Lib.hid hKT
  have hlen := Lib.hid (txt_le hf.out hd.out)
  have hs := Lib.hid (DV_size (headX_len x))
  have hlt : w.heap.size < ((w.alloc (.cells (LW x a c).toArray 37)).alloc (.cells #[.int .u8 0, .int .u8 0, .int .u8 0, .int .u8 0, .int .u8 0, .int .u8 0, .int .u8 0, .int .u8 0, .int .u8 0, .int .u8 0, .int .u8 0, .int .u8 0, .int .u8 0, .int .u8 0, .int .u8 0, .int .u8 0, .int .u8 0, .int .u8 0, .int .u8 0, .int .u8 0, .int .u8 0, .int .u8 0, .int .u8 0, .int .u8 0, .int .u8 0, .int .u8 0, .int .u8 0, .int .u8 0, .int .u8 0, .int .u8 0, .int .u8 0, .int .u8 0] 35)).heap.size := by simp; omega
  go_enter Tryd.func30, Tryd.ntmps30
  go_upto_region 1 with fail
  generalize (w.alloc (.cells (LW x a c).toArray 37)).alloc (.cells #[.int .u8 0, .int .u8 0, .int .u8 0, .int .u8 0, .int .u8 0, .int .u8 0, .int .u8 0, .int .u8 0, .int .u8 0, .int .u8 0, .int .u8 0, .int .u8 0, .int .u8 0, .int .u8 0, .int .u8 0, .int .u8 0, .int .u8 0, .int .u8 0, .int .u8 0, .int .u8 0, .int .u8 0, .int .u8 0, .int .u8 0, .int .u8 0, .int .u8 0, .int .u8 0, .int .u8 0, .int .u8 0, .int .u8 0, .int .u8 0, .int .u8 0, .int .u8 0] 35) = V at *
  obtain ⟨p0, p1, p2, p3⟩ := range_parts hf.out.prev h1
  have hN0 : Hid (∀ W, Below V.heap.size V W → W.cell? ⟨w.heap.size, 0, none⟩ = some (.int .i64 x.node)) := fun W hW => (hW.cell (p := ⟨w.heap.size, 0, none⟩) hlt).trans p0
  have hN1 : Hid (∀ W, Below V.heap.size V W → W.cell? ⟨w.heap.size, 1, none⟩ = some (.int .i64 x.no)) := fun W hW => (hW.cell (p := ⟨w.heap.size, 1, none⟩) hlt).trans p1
  have hN2 : Hid (∀ W, Below V.heap.size V W → W.rangeAt w.heap.size 2 (BV x.prev)) := fun W hW j v hv => (hW.cell (p := ⟨w.heap.size, 2 + j, none⟩) hlt).trans (p2 j v (by simpa using hv))
  have hN3 : Hid (∀ W, Below V.heap.size V W → W.cell? ⟨w.heap.size, 34, none⟩ = some (.slice a x.data.length c)) := fun W hW => (hW.cell (p := ⟨w.heap.size, 34, none⟩) hlt).trans p3
  replace hbV := Lib.hid hbV
  replace hz := Lib.hid hz
  have hltH := Lib.hid hlt
  clear h1 hb2 p0 p1 p2 p3 hlt
  refine wp_region_pre 15 1 (fun W => Below V.heap.size V W) (fun W W' => Below W.heap.size W W')
    (fun i v W => match i with
      | 0 => v = .pointer (some ⟨w.heap.size, 0, none⟩)
      | 1 => v = .int .i64 x.node
      | 2 => v = .agg #[.int .i64 1, .int .i64 x.node, .string ⟨#[]⟩, .slice none 0 0]
      | 3 => v = .pointer (some ⟨w.heap.size, 1, none⟩)
      | 4 => v = .int .i64 x.no
      | 5 => v = .agg #[.int .i64 1, .int .i64 x.no, .string ⟨#[]⟩, .slice none 0 0]
      | 6 => v = .pointer (some ⟨w.heap.size, 2, none⟩)
      | 7 => v = .slice (some ⟨w.heap.size, 2, none⟩) 32 32
      | 8 => v = .agg #[.int .i64 2, .int .i64 0, .string ⟨x.prev.toArray⟩, .slice none 0 0]
      | 9 => v = .pointer (some ⟨w.heap.size, 34, none⟩)
      | 10 => v = .slice a x.data.length c
      | 11 => v = .agg #[.int .i64 2, .int .i64 0, .string ⟨x.data.toArray⟩, .slice none 0 0]
      | 12 => ∃ g, v = .slice (some ⟨g, 0, none⟩) 4 4 ∧ W.heap[g]? = some (.cells (row4 x).toArray 64 (0, 0))
      | 13 => ∃ u, v = u ∧ OB W V.heap.size u (txtL x)
      | 14 => v = .agg (BV (headX x)).toArray
      | _ => True) (fun _ => false)
    (by kernel_rfl) (by kernel_rfl) (by kernel_rfl) (by kernel_rfl) (by kernel_rfl) (by kernel_rfl) (by kernel_rfl) ?_ (fun _ _ h => h.size) (dN (Below.refl _ _) 1) ?_ ?_
  · intro i v W W' hb hF
    match i, hF with
    | 0, h => exact h
    | 1, h => exact h
    | 2, h => exact h
    | 3, h => exact h
    | 4, h => exact h
    | 5, h => exact h
    | 6, h => exact h
    | 7, h => exact h
    | 8, h => exact h
    | 9, h => exact h
    | 10, h => exact h
    | 11, h => exact h
    | 12, ⟨g, h1, h2⟩ => exact ⟨g, h1, blk_at h2 hb⟩
    | 13, ⟨u, h1, h2⟩ => exact ⟨u, h1, h2.below hb⟩
    | 14, h => exact h
    | _ + 15, _ => trivial
  · refine ⟨?_, ?_, ?_, ?_, ?_, ?_, ?_, ?_, ?_, ?_, ?_, ?_, ?_, ?_, ?_, trivial⟩
    · refine stepJ_any rfl fun ac W hAA hG hDD K hK => ?_
      have h1 := hAA.getD (t := 1) (by kernel_rfl)
      simp only [Array.getD_eq_getD_getElem?] at h1
      rw [if_pos (by rfl)]
      exact wp_val (v := .pointer (some ⟨w.heap.size, 0, none⟩)) (w' := W) (by simp [execOp, Act.eval, h1, go_sem]) (hK _ _ hG (Below.refl _ _) rfl (fun h => by cases h))
    · refine stepJ_any rfl fun ac W hAA hG hDD K hK => ?_
      have h3 := hDD.get 0 3 _ rfl rfl (by kernel_rfl)
      simp only [Array.getD_eq_getD_getElem?] at h3
      have m0 := hN0.out W hG
      rw [if_pos (by rfl)]
      exact wp_val (v := .int .i64 x.node) (w' := W) (by simp [execOp, Act.eval, h3, go_sem, m0]) (hK _ _ hG (Below.refl _ _) rfl (fun h => by cases h))
    · refine stepJ_any rfl fun ac W hAA hG hDD K hK => ?_
      have h4 := hDD.get 1 4 _ rfl rfl (by kernel_rfl)
      simp only [Array.getD_eq_getD_getElem?] at h4
      rw [if_pos (by rfl)]
      refine wp_call (f := 39) (args := #[.int .i64 x.node]) (by simp [execOp, Act.eval, h4, go_sem]) ((number_any x.node W).mono fun e W9 he => ?_)
      obtain ⟨rfl, hbw⟩ := he
      exact hK _ _ (hG.trans (hbw.mono hG.size)) hbw rfl (fun h => by cases h)
    · refine stepJ_any rfl fun ac W hAA hG hDD K hK => ?_
      have h1 := hAA.getD (t := 1) (by kernel_rfl)
      simp only [Array.getD_eq_getD_getElem?] at h1
      rw [if_pos (by rfl)]
      exact wp_val (v := .pointer (some ⟨w.heap.size, 1, none⟩)) (w' := W) (by simp [execOp, Act.eval, h1, go_sem]) (hK _ _ hG (Below.refl _ _) rfl (fun h => by cases h))
    · refine stepJ_any rfl fun ac W hAA hG hDD K hK => ?_
      have h6 := hDD.get 3 6 _ rfl rfl (by kernel_rfl)
      simp only [Array.getD_eq_getD_getElem?] at h6
      have m1 := hN1.out W hG
      rw [if_pos (by rfl)]
      exact wp_val (v := .int .i64 x.no) (w' := W) (by simp [execOp, Act.eval, h6, go_sem, m1]) (hK _ _ hG (Below.refl _ _) rfl (fun h => by cases h))
    · refine stepJ_any rfl fun ac W hAA hG hDD K hK => ?_
      have h7 := hDD.get 4 7 _ rfl rfl (by kernel_rfl)
      simp only [Array.getD_eq_getD_getElem?] at h7
      rw [if_pos (by rfl)]
      refine wp_call (f := 39) (args := #[.int .i64 x.no]) (by simp [execOp, Act.eval, h7, go_sem]) ((number_any x.no W).mono fun e W9 he => ?_)
      obtain ⟨rfl, hbw⟩ := he
      exact hK _ _ (hG.trans (hbw.mono hG.size)) hbw rfl (fun h => by cases h)
    · refine stepJ_any rfl fun ac W hAA hG hDD K hK => ?_
      have h1 := hAA.getD (t := 1) (by kernel_rfl)
      simp only [Array.getD_eq_getD_getElem?] at h1
      rw [if_pos (by rfl)]
      exact wp_val (v := .pointer (some ⟨w.heap.size, 2, none⟩)) (w' := W) (by simp [execOp, Act.eval, h1, go_sem]) (hK _ _ hG (Below.refl _ _) rfl (fun h => by cases h))
    · refine stepJ_any rfl fun ac W hAA hG hDD K hK => ?_
      have h9 := hDD.get 6 9 _ rfl rfl (by kernel_rfl)
      simp only [Array.getD_eq_getD_getElem?] at h9
      have hsl := slice_digest w.heap.size 2 W
      rw [if_pos (by rfl)]
      exact wp_val (v := .slice (some ⟨w.heap.size, 2, none⟩) 32 32) (w' := W) (by simp [execOp, Act.eval, h9, go_sem, hsl]) (hK _ _ hG (Below.refl _ _) rfl (fun h => by cases h))
    · refine stepJ_any rfl fun ac W hAA hG hDD K hK => ?_
      have h10 := hDD.get 7 10 _ rfl rfl (by kernel_rfl)
      simp only [Array.getD_eq_getD_getElem?] at h10
      rw [if_pos (by rfl)]
      refine wp_call (f := 40) (args := #[.slice (some ⟨w.heap.size, 2, none⟩) 32 32]) (by simp [execOp, Act.eval, h10, go_sem]) ((prev_any x hf.out W w.heap.size 2 (Nat.lt_of_lt_of_le hltH.out hG.size) (hN2.out W hG)).mono fun e W9 he => ?_)
      obtain ⟨rfl, hbw⟩ := he
      exact hK _ _ (hG.trans (hbw.mono hG.size)) hbw rfl (fun h => by cases h)
    · refine stepJ_any rfl fun ac W hAA hG hDD K hK => ?_
      have h1 := hAA.getD (t := 1) (by kernel_rfl)
      simp only [Array.getD_eq_getD_getElem?] at h1
      rw [if_pos (by rfl)]
      exact wp_val (v := .pointer (some ⟨w.heap.size, 34, none⟩)) (w' := W) (by simp [execOp, Act.eval, h1, go_sem]) (hK _ _ hG (Below.refl _ _) rfl (fun h => by cases h))
    · refine stepJ_any rfl fun ac W hAA hG hDD K hK => ?_
      have h12 := hDD.get 9 12 _ rfl rfl (by kernel_rfl)
      simp only [Array.getD_eq_getD_getElem?] at h12
      have m3 := hN3.out W hG
      rw [if_pos (by rfl)]
      exact wp_val (v := .slice a x.data.length c) (w' := W) (by simp [execOp, Act.eval, h12, go_sem, m3]) (hK _ _ hG (Below.refl _ _) rfl (fun h => by cases h))
    · refine stepJ_any rfl fun ac W hAA hG hDD K hK => ?_
      have h13 := hDD.get 10 13 _ rfl rfl (by kernel_rfl)
      simp only [Array.getD_eq_getD_getElem?] at h13
      rw [if_pos (by rfl)]
      refine wp_call (f := 40) (args := #[.slice a x.data.length c]) (by simp [execOp, Act.eval, h13, go_sem]) ((bytesOf_any x.data W a c (hDt.out.read.lift (hbV.out.trans (hG.mono hbV.out.size)) (hbV.out.trans (hG.mono hbV.out.size)).size)).mono fun e W9 he => ?_)
      obtain ⟨rfl, hbw⟩ := he
      exact hK _ _ (hG.trans (hbw.mono hG.size)) hbw rfl (fun h => by cases h)
    · refine stepJ_any rfl fun ac W hAA hG hDD K hK => ?_
      have h5 := hDD.get 2 5 _ rfl rfl (by kernel_rfl)
      have h8 := hDD.get 5 8 _ rfl rfl (by kernel_rfl)
      have h11 := hDD.get 8 11 _ rfl rfl (by kernel_rfl)
      have h14 := hDD.get 11 14 _ rfl rfl (by kernel_rfl)
      rw [if_pos (by rfl)]
      simp only [Array.getD_eq_getD_getElem?] at h5 h8 h11 h14
      exact wp_val (v := .slice (some ⟨W.heap.size, 0, none⟩) 4 4) (w' := W.alloc (.cells (row4 x).toArray 64)) (by simp [execOp, Act.eval, h5, h8, h11, h14, go_sem, row4]) (hK _ _ (hG.alloc hG.size _) (bel1 W _) ⟨_, rfl, heap_alloc_new W _⟩ (fun h => by cases h))
    · refine stepJ_any rfl fun ac W hAA hG hDD K hK => ?_
      obtain ⟨g12, h15, hg12⟩ := hDD.get 12 15 _ rfl rfl (by kernel_rfl)
      rw [if_pos (by rfl)]
      simp only [Array.getD_eq_getD_getElem?] at h15
      refine wp_call (f := 38) (args := #[.slice (some ⟨g12, 0, none⟩) 4 4]) (by simp [execOp, Act.eval, h15, go_sem]) ((text_any x hf.out hd.out W g12 _ hg12).mono fun e W9 he => ?_)
      obtain ⟨u, rfl, ho, hbw⟩ := he
      exact hK _ _ (hG.trans (hbw.mono hG.size)) hbw ⟨u, rfl, ho.mono hG.size⟩ (fun h => by cases h)
    · refine stepJ_any rfl fun ac W hAA hG hDD K hK => ?_
      obtain ⟨u13, h16, ho⟩ := hDD.get 13 16 _ rfl rfl (by kernel_rfl)
      rw [if_pos (by rfl)]
      simp only [Array.getD_eq_getD_getElem?] at h16
      obtain ⟨au, cu, rfl, hcu⟩ := ho.form
      refine wp_call (f := 19) (args := #[.string linkB, .slice au (txtL x).length cu]) (by simp [execOp, Act.eval, h16, go_sem, linkB]) ((Tagged_any linkB (by decide +kernel) (txtL x) hlen.out W au cu ho.reads.1 (none_of ho) (hKT.out.below (hbV.out.trans (hG.mono hbV.out.size)) h0) (Nat.lt_of_lt_of_le h0 (hbV.out.trans (hG.mono hbV.out.size)).size)).mono fun e W9 he => ?_)
      obtain ⟨rfl, hbw⟩ := he
      exact hK _ _ (hG.trans (hbw.mono hG.size)) hbw rfl (fun h => by cases h)
  intro fu T W9 hG hF hne hltb
  have e3 : T 3 = .pointer (some ⟨w.heap.size, 0, none⟩) := hF 0 _ rfl (by omega)
  have e4 : T 4 = .int .i64 x.node := hF 1 _ rfl (by omega)
  have e5 : T 5 = .agg #[.int .i64 1, .int .i64 x.node, .string ⟨#[]⟩, .slice none 0 0] := hF 2 _ rfl (by omega)
  have e6 : T 6 = .pointer (some ⟨w.heap.size, 1, none⟩) := hF 3 _ rfl (by omega)
  have e7 : T 7 = .int .i64 x.no := hF 4 _ rfl (by omega)
  have e8 : T 8 = .agg #[.int .i64 1, .int .i64 x.no, .string ⟨#[]⟩, .slice none 0 0] := hF 5 _ rfl (by omega)
  have e9 : T 9 = .pointer (some ⟨w.heap.size, 2, none⟩) := hF 6 _ rfl (by omega)
  have e10 : T 10 = .slice (some ⟨w.heap.size, 2, none⟩) 32 32 := hF 7 _ rfl (by omega)
  have e11 : T 11 = .agg #[.int .i64 2, .int .i64 0, .string ⟨x.prev.toArray⟩, .slice none 0 0] := hF 8 _ rfl (by omega)
  have e12 : T 12 = .pointer (some ⟨w.heap.size, 34, none⟩) := hF 9 _ rfl (by omega)
  have e13 : T 13 = .slice a x.data.length c := hF 10 _ rfl (by omega)
  have e14 : T 14 = .agg #[.int .i64 2, .int .i64 0, .string ⟨x.data.toArray⟩, .slice none 0 0] := hF 11 _ rfl (by omega)
  obtain ⟨g12, e15, -⟩ := hF 12 _ rfl (by omega)
  replace e15 : T 15 = _ := e15
  obtain ⟨u13, e16, -⟩ := hF 13 _ rfl (by omega)
  replace e16 : T 16 = _ := e16
  have e17 : T 17 = .agg (BV (headX x)).toArray := hF 14 _ rfl (by omega)
  clear hF hne hltb
  simp only [List.take, fillT, List.setIfInBounds_toArray, List.set_cons_zero, List.set_cons_succ, e3, e4, e5, e6, e7, e8, e9, e10, e11, e12, e13, e14, e15, e16, e17]
  clear e3 e4 e5 e6 e7 e8 e9 e10 e11 e12 e13 e14 e15 e16 e17
  refine wpAny_ready (rs := [15]) (by kernel_rfl) (by simp) (AllReady.cons (o := ⟨none, (Op.store 35 (Operand.tmp 2) (Operand.tmp 17)), _, _, _, none⟩) rfl (fun K1 hK1 => ?_) AllReady.nil)
  rw [if_pos (by rfl)]
  have hdz := blk_at hz.out hG
  refine wp_store_row 35 _ _ rfl (w.heap.size + 1) (BV (headX x)).toArray rfl rfl 35 _ hdz (by rw [Tryd.iD, hs.out]) (by rw [hs.out]; rfl) (BV_all _) ?_
  refine hK1 _ _ ?_
  clear hK1 K1
  refine wpAny_done (by kernel_rfl) ?_ _
  simp only [Act.put]
  have hrow := setRow_heap W9 (w.heap.size + 1) _ (BV (headX x)).toArray _ _ hdz
  have hBW := hbV.out.trans (hG.mono hbV.out.size)
  have hbe := Lib.hid (below_row hBW (g := w.heap.size + 1) (BV (headX x)).toArray (Nat.le_succ _) hBW.size)
  clear hG hdz hBW
  generalize W9.setRow (w.heap.size + 1) (BV (headX x)).toArray = W8 at *
  go_wp2_with fail
  exact bodyPost_ret (results_cell_row rfl _ _ (w.heap.size + 1) 35 _ (0, 0) _ rfl hrow Tryd.uD rfl (by rw [Tryd.iD, hs.out])) rfl ⟨rfl, hbe.out⟩

set_option maxRecDepth 100000 in
theorem noHead_any (w : World) (hKT : KT w) (h0 : 0 < w.heap.size) : Calls Tryd.prog 29 #[] w fun e w' => e = .returned (.agg (BV noneH).toArray) ∧ Below w.heap.size w w' := by
  have hb := bel1 w (.cells #[.int .u8 0, .int .u8 0, .int .u8 0, .int .u8 0, .int .u8 0, .int .u8 0, .int .u8 0, .int .u8 0, .int .u8 0, .int .u8 0, .int .u8 0, .int .u8 0, .int .u8 0, .int .u8 0, .int .u8 0, .int .u8 0, .int .u8 0, .int .u8 0, .int .u8 0, .int .u8 0, .int .u8 0, .int .u8 0, .int .u8 0, .int .u8 0, .int .u8 0, .int .u8 0, .int .u8 0, .int .u8 0, .int .u8 0, .int .u8 0, .int .u8 0, .int .u8 0] 35)
  have hz := zero_new w
  have hT := Lib.hid (Tagged_any noneB (by decide +kernel) [] (by simp) (w.alloc (.cells #[.int .u8 0, .int .u8 0, .int .u8 0, .int .u8 0, .int .u8 0, .int .u8 0, .int .u8 0, .int .u8 0, .int .u8 0, .int .u8 0, .int .u8 0, .int .u8 0, .int .u8 0, .int .u8 0, .int .u8 0, .int .u8 0, .int .u8 0, .int .u8 0, .int .u8 0, .int .u8 0, .int .u8 0, .int .u8 0, .int .u8 0, .int .u8 0, .int .u8 0, .int .u8 0, .int .u8 0, .int .u8 0, .int .u8 0, .int .u8 0, .int .u8 0, .int .u8 0] 35)) none 0 (fun h => absurd h (by simp)) (fun _ => rfl) (hKT.below hb h0) (Nat.lt_of_lt_of_le h0 hb.size))
  have hs := Lib.hid (DV_size noneH_len)
  clear hKT
  go_enter Tryd.func29, Tryd.ntmps29
  go_wp2_with fail
  refine hT.out.mono ?_
  rintro e w2 ⟨rfl, hb2⟩
  have hz2 : w2.heap[w.heap.size]? = some (.cells (BV zeroD).toArray 35 (0, 0)) := blk_at hz hb2
  have hB2 := hb.trans (hb2.mono hb.size)
  clear hT hb hz hb2
  go_wp2_with (refine wpList_store_row rfl 35 _ _ rfl w.heap.size _ rfl rfl 35 _ hz2 ?cj ?cl ?ck ?_
               case cj => rw [Tryd.iD]; exact congrArg some hs.out.symm
               case cl => exact hs.out
               case ck => exact BV_all _)
  have hrow := setRow_heap w2 w.heap.size _ (BV noneH).toArray _ _ hz2
  exact bodyPost_ret (results_cell_row rfl _ _ w.heap.size 35 _ (0, 0) _ rfl hrow Tryd.uD rfl (by rw [Tryd.iD, hs.out])) rfl
    ⟨rfl, below_row hB2 _ (Nat.le_refl _) hB2.size⟩
end Go.Proofs.YtbhpmeljmkoebaaDoor
