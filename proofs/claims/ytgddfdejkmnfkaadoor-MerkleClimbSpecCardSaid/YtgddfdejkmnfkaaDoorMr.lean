/- Root. -/
import Derived.Test.YtgddfdejkmnfkaaDoorMn
namespace Go.Proofs.YtgddfdejkmnfkaaDoor
open Go.RowKit

/-- The rows of a list, from its first one on. -/
def rowL (l : List (List UInt8)) : Nat → List (List UInt8)
  | 0 => l
  | k + 1 => nextM (rowL l k)
theorem rowL_len (l : List (List UInt8)) (k : Nat) : (rowL l k).length = rowN l.length k := by
  induction k with
  | zero => rfl
  | succ k ih => rw [rowL, nextM_len, ih, rowN]; omega
theorem rowL_32 {l : List (List UInt8)} (h : ∀ d ∈ l, d.length = 32) (k : Nat) : ∀ d ∈ rowL l k, d.length = 32 := by
  induction k with
  | zero => exact h
  | succ k ih => exact nextM_32 ih
theorem rowN_pos {n : Nat} (h : 0 < n) (k : Nat) : 0 < rowN n k := by
  induction k with
  | zero => exact h
  | succ k ih => rw [rowN]; omega
def lenS : Value → Nat
  | .slice _ n _ => n
  | _ => 0
/-- The root of a list. -/
def rootM (ls : List (List UInt8)) : List UInt8 := if ls = [] then tagH noneB.data.toList [] else (rowL (firstM ls) (rows ls.length)).getD 0 []
theorem rootM_len (ls : List (List UInt8)) : (rootM ls).length = 32 := by
  unfold rootM
  split
  · exact tagH_length _ _
  · rename_i h
    have hp : 0 < ls.length := List.length_pos_iff.2 h
    have hl : 0 < (rowL (firstM ls) (rows ls.length)).length := by rw [rowL_len]; exact rowN_pos (by rw [firstM_len]; exact hp) _
    rw [List.getD_eq_getElem?_getD, List.getElem?_eq_getElem hl]
    exact rowL_32 (firstM_32 ls) _ _ (List.getElem_mem hl)

set_option maxRecDepth 100000 in
set_option maxHeartbeats 2000000 in
theorem Root_nil (w : World) (A : Option Addr) (c : Nat) (hK : KT w) (h0 : 0 < w.heap.size) :
    Calls Tryd.prog 14 #[.slice A 0 c] w fun e w' => e = .returned (.agg (BV (rootM [])).toArray) ∧ Below w.heap.size w w' := by
  have hb1 := bel1 w (.cells #[.int .u8 0, .int .u8 0, .int .u8 0, .int .u8 0, .int .u8 0, .int .u8 0, .int .u8 0, .int .u8 0, .int .u8 0, .int .u8 0, .int .u8 0, .int .u8 0, .int .u8 0, .int .u8 0, .int .u8 0, .int .u8 0, .int .u8 0, .int .u8 0, .int .u8 0, .int .u8 0, .int .u8 0, .int .u8 0, .int .u8 0, .int .u8 0, .int .u8 0, .int .u8 0, .int .u8 0, .int .u8 0, .int .u8 0, .int .u8 0, .int .u8 0, .int .u8 0] 30)
  have hd := heap_alloc_new w (.cells #[.int .u8 0, .int .u8 0, .int .u8 0, .int .u8 0, .int .u8 0, .int .u8 0, .int .u8 0, .int .u8 0, .int .u8 0, .int .u8 0, .int .u8 0, .int .u8 0, .int .u8 0, .int .u8 0, .int .u8 0, .int .u8 0, .int .u8 0, .int .u8 0, .int .u8 0, .int .u8 0, .int .u8 0, .int .u8 0, .int .u8 0, .int .u8 0, .int .u8 0, .int .u8 0, .int .u8 0, .int .u8 0, .int .u8 0, .int .u8 0, .int .u8 0, .int .u8 0] 30)
  have hT : Calls Tryd.prog 22 #[.string noneB, .slice none 0 0] (w.alloc (.cells #[.int .u8 0, .int .u8 0, .int .u8 0, .int .u8 0, .int .u8 0, .int .u8 0, .int .u8 0, .int .u8 0, .int .u8 0, .int .u8 0, .int .u8 0, .int .u8 0, .int .u8 0, .int .u8 0, .int .u8 0, .int .u8 0, .int .u8 0, .int .u8 0, .int .u8 0, .int .u8 0, .int .u8 0, .int .u8 0, .int .u8 0, .int .u8 0, .int .u8 0, .int .u8 0, .int .u8 0, .int .u8 0, .int .u8 0, .int .u8 0, .int .u8 0, .int .u8 0] 30)) (fun e w' => e = .returned (.agg (BV (tagH noneB.data.toList [])).toArray) ∧ Below (w.alloc (.cells #[.int .u8 0, .int .u8 0, .int .u8 0, .int .u8 0, .int .u8 0, .int .u8 0, .int .u8 0, .int .u8 0, .int .u8 0, .int .u8 0, .int .u8 0, .int .u8 0, .int .u8 0, .int .u8 0, .int .u8 0, .int .u8 0, .int .u8 0, .int .u8 0, .int .u8 0, .int .u8 0, .int .u8 0, .int .u8 0, .int .u8 0, .int .u8 0, .int .u8 0, .int .u8 0, .int .u8 0, .int .u8 0, .int .u8 0, .int .u8 0, .int .u8 0, .int .u8 0] 30)).heap.size (w.alloc (.cells #[.int .u8 0, .int .u8 0, .int .u8 0, .int .u8 0, .int .u8 0, .int .u8 0, .int .u8 0, .int .u8 0, .int .u8 0, .int .u8 0, .int .u8 0, .int .u8 0, .int .u8 0, .int .u8 0, .int .u8 0, .int .u8 0, .int .u8 0, .int .u8 0, .int .u8 0, .int .u8 0, .int .u8 0, .int .u8 0, .int .u8 0, .int .u8 0, .int .u8 0, .int .u8 0, .int .u8 0, .int .u8 0, .int .u8 0, .int .u8 0, .int .u8 0, .int .u8 0] 30)) w') :=
    Tagged_any noneB (by decide +kernel) [] (by decide) _ none 0 (fun h => by simp at h) (fun _ => rfl) (hK.below hb1 h0) (by simp)
  unfold noneB at hT
  replace hT := Lib.hid hT
  have hsz := Lib.hid (DV_size (tagH_length noneB.data.toList []))
  unfold noneB at hsz
  have hu : Tryd.prog.underlying 30 = some (.array 32 5) := by kernel_rfl
  have hi : (Tryd.prog.info? 30).map (·.size) = some 32 := by kernel_rfl
  clear hK
  go_enter Tryd.func14, Tryd.ntmps14
  go_wp2_with fail
  refine hT.out.mono ?_
  rintro e w2 ⟨rfl, hb2⟩
  have hd2 := blk_at hd hb2
  have hB2 := hb1.trans (hb2.mono hb1.size)
  clear hT hd hb1 hb2
  go_wp2_with (refine wpList_store_row rfl 30 _ _ rfl w.heap.size _ rfl rfl 30 _ hd2 ?cj ?cl ?ck ?_
               case cj => rw [hi, hsz.out]
               case cl => rw [hsz.out]; rfl
               case ck => exact BV_all _)
  have hrow := setRow_heap w2 w.heap.size _ (BV (tagH noneB.data.toList [])).toArray _ _ hd2
  exact bodyPost_ret (results_cell_row rfl _ _ w.heap.size 30 _ (0, 0) _ rfl hrow hu rfl (by rw [hi]; exact congrArg some hsz.out.symm)) rfl
    ⟨rfl, hB2.grown (grownBy_setRow _ _ _) hB2.size (fun k e => by injection e with e; omega)⟩

set_option maxRecDepth 100000 in
set_option maxHeartbeats 4000000 in
theorem Root_some (ls : List (List UInt8)) (hp : 0 < ls.length) (hls : ls.length ≤ 65536) (hsm : Small ls) (w : World) (A : Option Addr) (c : Nat) (hr : LL w w.heap.size ls A) (hK : KT w) (h0 : 0 < w.heap.size) :
    Calls Tryd.prog 14 #[.slice A ls.length c] w fun e w' => e = .returned (.agg (BV (rootM ls)).toArray) ∧ Below w.heap.size w w' := by
  have hb1 := bel1 w (.cells #[.int .u8 0, .int .u8 0, .int .u8 0, .int .u8 0, .int .u8 0, .int .u8 0, .int .u8 0, .int .u8 0, .int .u8 0, .int .u8 0, .int .u8 0, .int .u8 0, .int .u8 0, .int .u8 0, .int .u8 0, .int .u8 0, .int .u8 0, .int .u8 0, .int .u8 0, .int .u8 0, .int .u8 0, .int .u8 0, .int .u8 0, .int .u8 0, .int .u8 0, .int .u8 0, .int .u8 0, .int .u8 0, .int .u8 0, .int .u8 0, .int .u8 0, .int .u8 0] 30)
  have hd := heap_alloc_new w (.cells #[.int .u8 0, .int .u8 0, .int .u8 0, .int .u8 0, .int .u8 0, .int .u8 0, .int .u8 0, .int .u8 0, .int .u8 0, .int .u8 0, .int .u8 0, .int .u8 0, .int .u8 0, .int .u8 0, .int .u8 0, .int .u8 0, .int .u8 0, .int .u8 0, .int .u8 0, .int .u8 0, .int .u8 0, .int .u8 0, .int .u8 0, .int .u8 0, .int .u8 0, .int .u8 0, .int .u8 0, .int .u8 0, .int .u8 0, .int .u8 0, .int .u8 0, .int .u8 0] 30)
  have hF := Lib.hid (first_any ls (by omega) hsm (w.alloc (.cells #[.int .u8 0, .int .u8 0, .int .u8 0, .int .u8 0, .int .u8 0, .int .u8 0, .int .u8 0, .int .u8 0, .int .u8 0, .int .u8 0, .int .u8 0, .int .u8 0, .int .u8 0, .int .u8 0, .int .u8 0, .int .u8 0, .int .u8 0, .int .u8 0, .int .u8 0, .int .u8 0, .int .u8 0, .int .u8 0, .int .u8 0, .int .u8 0, .int .u8 0, .int .u8 0, .int .u8 0, .int .u8 0, .int .u8 0, .int .u8 0, .int .u8 0, .int .u8 0] 30)) A c (hr.lift hb1 hb1.size) (hK.below hb1 h0) (by simp))
  have hKH := Lib.hid hK
  have hu : Tryd.prog.underlying 30 = some (.array 32 5) := by kernel_rfl
  have hi : (Tryd.prog.info? 30).map (·.size) = some 32 := by kernel_rfl
  have hne : ((ls.length : Int) == 0) = false := by simp only [beq_eq_false_iff_ne, ne_eq]; omega
  have h32 := Lib.hid (firstM_32 ls)
  obtain ⟨F, hFF⟩ : ∃ F, firstM ls = F := ⟨_, rfl⟩
  have hFl : F.length = ls.length := by rw [← hFF, firstM_len]
  have hroot := Lib.hid (show rootM ls = (rowL F (rows ls.length)).getD 0 [] by unfold rootM; rw [if_neg (fun e => by rw [e] at hp; simp at hp), hFF])
  rw [hFF] at hF h32
  clear hK hFF hr hsm
  replace hFl := Lib.hid hFl
  go_enter Tryd.func14, Tryd.ntmps14
  go_wp2_with fail
  refine hF.out.mono ?_
  rintro e w2 ⟨v2, rfl, ho, hb2⟩
  have hd2 := blk_at hd hb2
  have hB2 := hb1.trans (hb2.mono hb1.size)
  have ho2 := ownsRow_mono ho (show w.heap.size + 1 ≤ _ by simp)
  obtain ⟨a2, c2, rfl⟩ := ho.form
  rw [hFl.out]
  rw [hFl.out] at ho2
  replace ho2 := Lib.hid ho2
  replace hd2 := Lib.hid hd2
  replace hB2 := Lib.hid hB2
  clear hF hd hb1 hb2 ho
  go_wp2_with fail
  go_loopw [4] (fun v wr => ∃ k : Nat, k ≤ rows ls.length ∧ (∃ a c, v = .slice a (rowN ls.length k) c) ∧ Hid (OD wr (w.heap.size + 1) v (rowL F k) ∧ wr.heap[w.heap.size]? = some (.cells #[.int .u8 0, .int .u8 0, .int .u8 0, .int .u8 0, .int .u8 0, .int .u8 0, .int .u8 0, .int .u8 0, .int .u8 0, .int .u8 0, .int .u8 0, .int .u8 0, .int .u8 0, .int .u8 0, .int .u8 0, .int .u8 0, .int .u8 0, .int .u8 0, .int .u8 0, .int .u8 0, .int .u8 0, .int .u8 0, .int .u8 0, .int .u8 0, .int .u8 0, .int .u8 0, .int .u8 0, .int .u8 0, .int .u8 0, .int .u8 0, .int .u8 0, .int .u8 0] 30 (0, 0)) ∧ Below w.heap.size w wr)) (fun v _ => lenS v)
  case atStart => exact ⟨0, Nat.zero_le _, ⟨a2, c2, rfl⟩, ho2.out, hd2.out, hB2.out⟩
  case round =>
    clear ho2 hd2 hB2
    obtain ⟨k, hk, ⟨a, cz, rfl⟩, hI⟩ := hrel
    obtain ⟨hO, hZ, hB⟩ := hI.out
    have hle := rowN_le ls.length k
    have hFl' := hFl.out
    obtain ⟨a', c', e', hRD⟩ := hO.reads (rowL_32 h32.out k)
    rw [rowL_len, hFl'] at e'
    injection e' with e1 e2 e3
    subst e1 e3
    by_cases hlt : k < rows ls.length
    · have hgt := rowN_gt k _ hlt
      have hd1 : decide ((1 : Int) < (rowN ls.length k : Int)) = true := by simp; omega
      have hN := next_any (rowL F k) (by rw [rowL_len, hFl']; omega) (by rw [rowL_len, hFl']; omega) wr a cz hRD (hKH.out.below hB h0) (Nat.lt_of_lt_of_le h0 hB.size)
      rw [rowL_len, hFl'] at hN
      replace hN := Lib.hid hN
      replace hZ := Lib.hid hZ
      replace hB := Lib.hid hB
      clear hI hO hRD
      go_wp2_with fail
      refine hN.out.mono ?_
      rintro e w3 ⟨v3, rfl, ho3, hb3⟩
      obtain ⟨a3, c3, rfl⟩ := ho3.form
      have hlz := (Array.getElem?_eq_some_iff.1 hZ.out).1
      have ho4 := ownsRow_mono ho3 (show w.heap.size + 1 ≤ _ by omega)
      have hln : (nextM (rowL F k)).length = rowN ls.length (k + 1) := (rowL_len F (k + 1)).trans (by rw [hFl'])
      rw [hln] at ho4 ⊢
      have hI2 := Lib.hid (And.intro (show OD w3 (w.heap.size + 1) _ (rowL F (k + 1)) from ho4) (And.intro (blk_at hZ.out hb3) (hB.out.trans (hb3.mono hB.out.size))))
      clear hN ho3 hb3 ho4 hln
      go_wp2_with fail
      go_roundw
      case rel => exact ⟨k + 1, by omega, ⟨a3, c3, rfl⟩, hI2.out⟩
      case measure => simp only [lenS]; rw [rowN]; omega
    · obtain rfl : k = rows ls.length := by omega
      have hend := rowN_end ls.length
      have hpos := rowN_pos hp (rows ls.length)
      have hone : rowN ls.length (rows ls.length) = 1 := by omega
      rw [hone] at hO ⊢
      obtain ⟨b, off, rfl, hb, hrg⟩ := hRD.at_ (i := 0) (by rw [rowL_len, hFl']; omega)
      have hx : (rowL F (rows ls.length))[0]'(by rw [rowL_len, hFl']; omega) = rootM ls := by
        rw [hroot.out, List.getD_eq_getElem?_getD, List.getElem?_eq_getElem (by rw [rowL_len, hFl']; omega)]; rfl
      rw [hx, Nat.zero_mul, Nat.add_zero] at hrg
      have hlen := Lib.hid (show (BV (rootM ls)).length = 32 by rw [BV_length, rootM_len])
      have hsz := Lib.hid (DV_size (rootM_len ls))
      replace hB := Lib.hid hB
      clear hI hO hRD hx
      go_wp2_with (first
        | (refine wpList_load_mid rfl 30 _ rfl b off rfl _ _ hrg hu rfl ?ca ?_; case ca => rw [hi, hlen.out])
        | (refine wpList_store_row rfl 30 _ _ rfl w.heap.size _ rfl rfl 30 _ hZ ?cj ?cl ?ck ?_
           case cj => rw [hi, hsz.out]
           case cl => rw [hsz.out]; rfl
           case ck => exact BV_all _))
      have hrow := setRow_heap wr w.heap.size _ (BV (rootM ls)).toArray _ _ hZ
      exact bodyPost_ret (results_cell_row rfl _ _ w.heap.size 30 _ (0, 0) _ rfl hrow hu rfl (by rw [hi, hsz.out])) rfl
        ⟨rfl, hB.out.grown (grownBy_setRow _ _ _) hB.out.size (fun k e => by injection e with e; omega)⟩
theorem Root_any (ls : List (List UInt8)) (hls : ls.length ≤ 65536) (hsm : Small ls) (w : World) (A : Option Addr) (c : Nat) (hr : LL w w.heap.size ls A) (hK : KT w) (h0 : 0 < w.heap.size) :
    Calls Tryd.prog 14 #[.slice A ls.length c] w fun e w' => e = .returned (.agg (BV (rootM ls)).toArray) ∧ Below w.heap.size w w' := by
  by_cases hp : 0 < ls.length
  · exact Root_some ls hp hls hsm w A c hr hK h0
  · obtain rfl : ls = [] := List.eq_nil_of_length_eq_zero (by omega)
    exact Root_nil w A c hK h0
end Go.Proofs.YtgddfdejkmnfkaaDoor
