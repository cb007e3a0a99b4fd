/- Texts: what is hashed. -/
import Derived.Test.YtgddfdejkmnfkaaDoorTg
import Derived.Test.YtgddfdejkmnfkaaDoorRj
import Derived.Deep.DeepCutAuto
namespace Go.Proofs.YtgddfdejkmnfkaaDoor
open Go.RowKit

def leafB : ByteArray := ⟨#[108, 101, 97, 102]⟩
def nodeB : ByteArray := ⟨#[110, 111, 100, 101]⟩
def noneB : ByteArray := ⟨#[110, 111, 110, 101]⟩
/-- A text: the digest of a tag, and bytes. -/
def texM (tag : ByteArray) (bs : List UInt8) : List UInt8 := sha tag.data.toList ++ bs
def leafM (l : List UInt8) : List UInt8 := texM leafB l
def nodeM (a b : List UInt8) : List UInt8 := texM nodeB (a ++ b)
theorem sha_tex (tag : ByteArray) (bs : List UInt8) : sha (texM tag bs) = tagH tag.data.toList bs := rfl
theorem DV_size {d : List UInt8} (h : d.length = 32) : (BV d).toArray.size = 32 := by rw [List.size_toArray, BV_length, h]
theorem blk_at {w w' : World} {g : Nat} {o : Obj} (h : w.heap[g]? = some o) (hb : Below w.heap.size w w') : w'.heap[g]? = some o := (hb.block g (Array.getElem?_eq_some_iff.1 h).1).trans h
theorem bel1 (w : World) (o : Obj) : Below w.heap.size w (w.alloc o) := (Below.refl _ w).alloc (Nat.le_refl _) o
theorem two_at {W : World} {g b B : Nat} {x y : List UInt8} {u : Value} {T : TypeId} (hx : x.length = 32) (hg : W.heap[g]? = some (.cells #[.slice (some ⟨b, 0, none⟩) 32 32, u] T (0, 0))) (hd : DB W b 30 x) (ho : OB W B u y) :
    ∃ ay cy, u = .slice ay y.length cy ∧ Two W g x y (some ⟨b, 0, none⟩) ay 32 cy := by
  have hrd := hd.reads
  have hc0 := cell_of_row W g 0 _ _ _ hg
  have hc1 := cell_of_row W g 1 _ _ _ hg
  rcases ho.2 with ⟨rfl, h0⟩ | ⟨q, cap, cur, rfl, -⟩
  · have hy : y = [] := List.eq_nil_of_length_eq_zero h0
    subst hy
    exact ⟨none, 0, rfl, (by rw [hx]; exact hc0), hc1, hrd, fun h => absurd h (by simp), (fun h => by cases h), fun _ => rfl⟩
  · have hry := ho.reads
    exact ⟨_, cap, rfl, (by rw [hx]; exact hc0), hc1, hrd, hry.1, (fun h => by cases h), (fun h => by cases h)⟩
theorem OB.form {w : World} {B : Nat} {v : Value} {l : List UInt8} (h : OB w B v l) : ∃ a c, v = .slice a l.length c ∧ l.length ≤ c := by
  rcases h.2 with ⟨rfl, h0⟩ | ⟨q, cap, cur, rfl, -, -, hc, -⟩
  · exact ⟨none, 0, by rw [h0], by omega⟩
  · exact ⟨_, cap, rfl, hc⟩
theorem conv0 (w : World) (tag : ByteArray) : ∃ G W1, tag.size ≤ G ∧ (convert 9 34 (.string tag)).run Tryd.prog w = .ok (.slice (some ⟨w.heap.size, 0, none⟩) tag.size G) W1 ∧ Below w.heap.size w W1 ∧ RBs W1 W1.heap.size (some ⟨w.heap.size, 0, none⟩) tag.data.toList :=
  ⟨_, _, grownCap_ge _ _ _ _, conv_bytes w tag, bytes_below w tag, bytes_read w tag⟩

set_option maxRecDepth 100000 in
set_option maxHeartbeats 2000000 in
theorem text_any (tag : ByteArray) (ht : tag.size ≤ 100000) (bs : List UInt8) (hl : bs.length ≤ 900000) (w : World) (A : Option Addr) (m c : Nat)
    (hC : ∀ W, Below w.heap.size w W → Calls Tryd.prog 41 #[.slice A m c] W fun e w' => ∃ v, e = .returned v ∧ OB w' W.heap.size v bs ∧ Below W.heap.size W w') (hK : KT w) (h0 : 0 < w.heap.size) :
    Calls Tryd.prog 57 #[.string tag, .slice A m c] w fun e w' => ∃ v, e = .returned v ∧ OB w' w.heap.size v (texM tag bs) ∧ Below w.heap.size w w' := by
  obtain ⟨G, W1, hGe, hcv, hB1, hr1⟩ := conv0 w tag
  have hS1 := Sum_any tag.data.toList (by simpa using Nat.le_trans ht (by omega)) W1 _ G hr1 (fun h => by cases h) (by simpa using hGe) (hK.below hB1 h0) (by have := hB1.size; omega)
  rw [show tag.data.toList.length = tag.size by simp] at hS1
  replace hS1 := Lib.hid hS1
  replace hC := Lib.hid hC
  replace hl := Lib.hid hl
  have hs1 := Lib.hid (DV_size (sha_length tag.data.toList))
  have hi : (Tryd.prog.info? 30).map (·.size) = some 32 := by kernel_rfl
  clear hr1 hGe hK
  go_enter Tryd.func57, Tryd.ntmps57
  go_wp2_with fail
  refine hS1.out.mono ?_
  rintro e w2 ⟨rfl, hb2⟩
  clear hcv
  go_upto_region 2 with (refine wpList_store_row rfl 30 _ _ rfl w2.heap.size _ rfl rfl 30 _ (heap_alloc_last w2 _) ?cj ?cl ?ck ?_
                         case cj => rw [hi, hs1.out]
                         case cl => rw [hs1.out]; rfl
                         case ck => exact BV_all _
                         rw [World.setRow_alloc_new])
  have hdV : DB (w2.alloc (.cells (BV (sha tag.data.toList)).toArray 30)) w2.heap.size 30 (sha tag.data.toList) := heap_alloc_new w2 _
  have hBV := ((hB1.trans (hb2.mono hB1.size))).trans ((bel1 w2 (.cells (BV (sha tag.data.toList)).toArray 30)).mono (hB1.trans (hb2.mono hB1.size)).size)
  generalize w2.alloc (.cells (BV (sha tag.data.toList)).toArray 30) = V at hdV hBV ⊢
  replace hdV := Lib.hid hdV
  replace hBV := Lib.hid hBV
  clear hb2 hi hS1 hB1 hs1
  refine wp_region_pre 6 0 (fun W => Below V.heap.size V W) (fun W W' => Below W.heap.size W W')
    (fun i v W => match i with
      | 0 => v = .slice (some ⟨w2.heap.size, 0, none⟩) 32 32
      | 1 => v = .slice A m c
      | 2 => ∃ u, v = u ∧ OB W V.heap.size u bs
      | 3 => ∃ g u, v = .slice (some ⟨g, 0, none⟩) 2 2 ∧ OB W V.heap.size u bs ∧ W.heap[g]? = some (.cells #[.slice (some ⟨w2.heap.size, 0, none⟩) 32 32, u] 34 (0, 0))
      | 4 => ∃ u, v = u ∧ OB W V.heap.size u (sha tag.data.toList ++ bs)
      | 5 => ∃ u, v = u ∧ OB W V.heap.size u (sha tag.data.toList ++ bs)
      | _ => True) (fun _ => false)
    (by kernel_rfl) (by kernel_rfl) (by kernel_rfl) (by kernel_rfl) (by kernel_rfl) (by kernel_rfl) (by kernel_rfl) ?_ (fun _ _ h => h.size) (dN (Below.refl _ _) 1) ?_ ?_
  · intro i v W W' hb hF
    match i, hF with
    | 0, h => exact h
    | 1, h => exact h
    | 2, ⟨u, h1, h2⟩ => exact ⟨u, h1, h2.below hb⟩
    | 3, ⟨g, u, h1, h2, h3⟩ => exact ⟨g, u, h1, h2.below hb, blk_at h3 hb⟩
    | 4, ⟨u, h1, h2⟩ => exact ⟨u, h1, h2.below hb⟩
    | 5, ⟨u, h1, h2⟩ => exact ⟨u, h1, h2.below hb⟩
    | _ + 6, _ => trivial
  · refine ⟨?_, ?_, ?_, ?_, ?_, ?_, trivial⟩
    · refine stepJ_any rfl fun ac W hAA hG hDD K hK => ?_
      have h5 := hAA.getD (t := 5) (by kernel_rfl)
      simp only [Array.getD_eq_getD_getElem?] at h5
      have hsl := run_slice_digest W w2.heap.size
      rw [if_pos (by rfl)]
      exact wp_val (v := .slice (some ⟨w2.heap.size, 0, none⟩) 32 32) (w' := W) (by simp [execOp, Act.eval, h5, go_sem, hsl]) (hK _ _ hG (Below.refl _ _) rfl (fun h => by cases h))
    · refine stepJ_any rfl fun ac W hAA hG hDD K hK => ?_
      have h1 := hAA.getD (t := 1) (by kernel_rfl)
      simp only [Array.getD_eq_getD_getElem?] at h1
      rw [if_pos (by rfl)]
      exact wp_val (v := .slice A m c) (w' := W) (by simp [execOp, Act.eval, h1, go_sem]) (hK _ _ hG (Below.refl _ _) rfl (fun h => by cases h))
    · refine stepJ_any rfl fun ac W hAA hG hDD K hK => ?_
      have h10 := hDD.get 1 10 _ rfl rfl (by kernel_rfl)
      rw [if_pos (by rfl)]
      simp only [Array.getD_eq_getD_getElem?] at h10
      refine wp_call (f := 41) (args := #[.slice A m c]) (by simp [execOp, Act.eval, h10, go_sem]) ((hC.out W (hBV.out.trans (hG.mono hBV.out.size))).mono fun e W9 he => ?_)
      obtain ⟨u, rfl, ho, hbw⟩ := he
      exact hK _ _ (hG.trans (hbw.mono hG.size)) hbw ⟨u, rfl, ho.mono hG.size⟩ (fun h => by cases h)
    · refine stepJ_any rfl fun ac W hAA hG hDD K hK => ?_
      have h9 := hDD.get 0 9 _ rfl rfl (by kernel_rfl)
      obtain ⟨u2, h11, ho⟩ := hDD.get 2 11 _ rfl rfl (by kernel_rfl)
      rw [if_pos (by rfl)]
      simp only [Array.getD_eq_getD_getElem?] at h9 h11
      obtain ⟨au, cu, rfl, -⟩ := ho.form
      exact wp_val (v := .slice (some ⟨W.heap.size, 0, none⟩) 2 2) (w' := W.alloc (.cells #[.slice (some ⟨w2.heap.size, 0, none⟩) 32 32, .slice au bs.length cu] 34)) (by simp [execOp, Act.eval, h9, h11, go_sem]) (hK _ _ (hG.alloc hG.size _) (bel1 W _) ⟨_, _, rfl, ho.alloc _, heap_alloc_new W _⟩ (fun h => by cases h))
    · refine stepJ_any rfl fun ac W hAA hG hDD K hK => ?_
      obtain ⟨g, u, h12, ho, hg⟩ := hDD.get 3 12 _ rfl rfl (by kernel_rfl)
      rw [if_pos (by rfl)]
      simp only [Array.getD_eq_getD_getElem?] at h12
      have hd := hdV.out.below hG hdV.out.lt
      have htw : ∃ ay cy, u = .slice ay bs.length cy ∧ Two W g (sha tag.data.toList) bs (some ⟨w2.heap.size, 0, none⟩) ay 32 cy := two_at (by rw [sha_length]) hg hd ho
      obtain ⟨ay, cy, rfl, htw⟩ := htw
      refine wp_call (f := 41) (args := #[.slice (some ⟨g, 0, none⟩) 2 2]) (by simp [execOp, Act.eval, h12, go_sem]) ((concat_any _ bs (by rw [sha_length]; have := hl.out; omega) W g (Array.getElem?_eq_some_iff.1 hg).1 _ ay 32 cy htw).mono fun e W9 he => ?_)
      obtain ⟨u, rfl, ho2, hbw⟩ := he
      exact hK _ _ (hG.trans (hbw.mono hG.size)) hbw ⟨u, rfl, ho2.mono hG.size⟩ (fun h => by cases h)
    · refine stepJ_any rfl fun ac W hAA hG hDD K hK => ?_
      obtain ⟨u4, h13, ho⟩ := hDD.get 4 13 _ rfl rfl (by kernel_rfl)
      rw [if_pos (by rfl)]
      simp only [Array.getD_eq_getD_getElem?] at h13
      exact wp_val (v := u4) (w' := W) (by simp [execOp, Act.eval, h13, go_sem]) (hK _ _ hG (Below.refl _ _) ⟨u4, rfl, ho⟩ (fun h => by cases h))
  intro fu T w9 hG hF hne hltb
  have e9 : T 9 = .slice (some ⟨w2.heap.size, 0, none⟩) 32 32 := hF 0 _ rfl (by omega)
  have e10 : T 10 = .slice A m c := hF 1 _ rfl (by omega)
  obtain ⟨u2, e11, hou2⟩ := hF 2 _ rfl (by omega)
  replace e11 : T 11 = _ := e11
  obtain ⟨g3, u3, e12, -, -⟩ := hF 3 _ rfl (by omega)
  replace e12 : T 12 = _ := e12
  obtain ⟨u4, e13, hou4⟩ := hF 4 _ rfl (by omega)
  replace e13 : T 13 = _ := e13
  obtain ⟨u5, e4, hou5⟩ := hF 5 _ rfl (by omega)
  replace e4 : T 4 = _ := e4
  clear hF hne hltb
  simp only [List.take, fillT, List.setIfInBounds_toArray, List.set_cons_zero, List.set_cons_succ, e9, e10, e11, e12, e13, e4]
  clear e9 e10 e11 e12 e13 e4
  refine wpAny_done (by kernel_rfl) ?_ _
  go_wp2_with fail
  go_ret
  exact ⟨_, rfl, hou5.mono hBV.out.size, hBV.out.trans (hG.mono hBV.out.size)⟩
end Go.Proofs.YtgddfdejkmnfkaaDoor
