/- happens: the contract. (Written by geno2.py.) -/
import Derived.Test.YtpmmahlmfcbbbaaO1
import Derived.Test.YtpmmahlmfcbbbaaN0
import Derived.Test.YtpmmahlmfcbbbaaL4p
import Derived.Test.YtpmmahlmfcbbbaaN7
import Derived.Deep.DeepCutAuto
import Derived.Deep.CutBlock
namespace Go.Proofs.Ytpmmahlmfcbbbaa
open Go.RowKit

theorem four (w : World) (o0 o1 o2 o3 : Obj) : ((((w.alloc o0).alloc o1).alloc o2).alloc o3).heap[w.heap.size]? = some o0 ∧ ((((w.alloc o0).alloc o1).alloc o2).alloc o3).heap[w.heap.size + 1]? = some o1 ∧
    ((((w.alloc o0).alloc o1).alloc o2).alloc o3).heap[w.heap.size + 1 + 1]? = some o2 ∧ ((((w.alloc o0).alloc o1).alloc o2).alloc o3).heap[w.heap.size + 1 + 1 + 1]? = some o3 ∧ Below w.heap.size w ((((w.alloc o0).alloc o1).alloc o2).alloc o3) ∧ ((((w.alloc o0).alloc o1).alloc o2).alloc o3).heap.size = w.heap.size + 4 := by
  obtain ⟨w1, e1⟩ : ∃ x, w.alloc o0 = x := ⟨_, rfl⟩
  rw [e1]
  obtain ⟨w2, e2⟩ : ∃ x, w1.alloc o1 = x := ⟨_, rfl⟩
  rw [e2]
  obtain ⟨w3, e3⟩ : ∃ x, w2.alloc o2 = x := ⟨_, rfl⟩
  rw [e3]
  obtain ⟨w4, e4⟩ : ∃ x, w3.alloc o3 = x := ⟨_, rfl⟩
  rw [e4]
  have b1 : Below w.heap.size w w1 := e1 ▸ bnew w o0
  have b2 : Below w1.heap.size w1 w2 := e2 ▸ bnew w1 o1
  have b3 : Below w2.heap.size w2 w3 := e3 ▸ bnew w2 o2
  have b4 : Below w3.heap.size w3 w4 := e4 ▸ bnew w3 o3
  have s1 : w1.heap.size = w.heap.size + 1 := by rw [← e1]; simp
  have s2 : w2.heap.size = w.heap.size + 1 + 1 := by rw [← e2, ← s1]; simp
  have s3 : w3.heap.size = w.heap.size + 1 + 1 + 1 := by rw [← e3, ← s2]; simp
  have s4 : w4.heap.size = w.heap.size + 4 := by rw [← e4]; simp [s3]
  have n1 : w1.heap[w.heap.size]? = some o0 := e1 ▸ heap_alloc_new w o0
  have n2 : w2.heap[w1.heap.size]? = some o1 := e2 ▸ heap_alloc_new w1 o1
  have n3 : w3.heap[w2.heap.size]? = some o2 := e3 ▸ heap_alloc_new w2 o2
  have n4 : w4.heap[w3.heap.size]? = some o3 := e4 ▸ heap_alloc_new w3 o3
  rw [s1] at n2
  rw [s2] at n3
  rw [s3] at n4
  exact ⟨blk_step (blk_step (blk_step n1 b2) b3) b4, blk_step (blk_step n2 b3) b4, blk_step n3 b4, n4, ((b1.trans (b2.mono (by omega))).trans (b3.mono (by omega))).trans (b4.mono (by omega)), s4⟩
theorem setRow_id {w : World} {g : Nat} {cs : Array Value} {t : TypeId} {fr : Nat × Nat} (h : w.heap[g]? = some (.cells cs t fr)) : w.setRow g cs = w := by
  obtain ⟨hl, he⟩ := Array.getElem?_eq_some_iff.1 h
  have : (w.setRow g cs).heap = w.heap := by
    unfold World.setRow
    apply Array.ext
    · simp
    · intro i h1 h2
      simp only [Array.getElem_modify]
      by_cases hg : g = i
      · subst hg
        simp only [if_true]
        rw [he]
      · simp only [hg, if_false]
  unfold World.setRow at this ⊢
  simp only at this
  rw [this]
/-- What happens: the move's numbers are bytes. -/
structure Mv.ok (m : Mv) : Prop where
  k : m.kind < 256
  t : m.at_ < 256
  a : m.a < 256
  b : m.b < 256
/-- The boxes of the results, and what lies in them. -/
def HE (w : World) (S : Nat → Prop) (X : Nt) (p : Pk) (W : World) : Prop := ∃ A c A' c' Ap cp, (W.heap[w.heap.size + 1 + 1]? = some (.cells #[.slice A X.q.length c, .slice A' X.ap.length c'] 25 (0, 0)) ∧ W.heap[w.heap.size + 1 + 1 + 1]? = some (.cells #[.int .i64 p.frm, .int .i64 p.to, .slice Ap p.data.length cp] 28 (0, 0))) ∧
  ((p.data.length ≤ cp ∧ cp ≤ maxLen) ∧ (I64 p.frm ∧ I64 p.to)) ∧ RBs W (Sn S w W) Ap p.data ∧ NR W (Sn S w W) A c A' c' X ∧ Below w.heap.size w W
/-- What happens gives. -/
def HpPost (S : Nat → Prop) (X : Nt) (p : Pk) (e1 : Int) (w : World) (e : Ending) (w' : World) : Prop :=
  Below w.heap.size w w' ∧ ∃ A c A' c' Ap cp, e = .returned (.tuple #[.agg #[.slice A X.q.length c, .slice A' X.ap.length c'], .agg #[.int .i64 p.frm, .int .i64 p.to, .slice Ap p.data.length cp], .int .i64 e1]) ∧
    (p.data.length ≤ cp ∧ cp ≤ maxLen) ∧ RBs w' (Sn S w w') Ap p.data ∧ (I64 p.frm ∧ I64 p.to) ∧ NR w' (Sn S w w') A c A' c' X
/-- Where the results of a call lie: among what was read, or behind the four boxes. -/
def Dx (w : World) (S : Nat → Prop) (W : World) (b : Nat) : Prop := S b ∨ (w.heap.size + 4 ≤ b ∧ b < W.heap.size)
theorem Dx.of {w : World} {S : Nat → Prop} {V W : World} (hV : w.heap.size + 4 ≤ V.heap.size) (b : Nat) (h : Sn S V W b) : Dx w S W b := h.imp id fun h => ⟨by omega, h.2⟩
theorem Dx.sn {w : World} {S : Nat → Prop} {W W' : World} (hs : W'.heap.size = W.heap.size) (b : Nat) (h : Dx w S W b) : Sn S w W' b := h.imp id fun h => ⟨by omega, by omega⟩
theorem HE.of {w : World} {S : Nat → Prop} (hS : ∀ b, S b → b < w.heap.size) {w1 : World} {a a' : Option Addr} {l x l' x' : Nat} (kX : w1.heap[w.heap.size + 1 + 1]? = some (.cells #[.slice a l x, .slice a' l' x'] 25 (0, 0)))
    (kP : w1.heap[w.heap.size + 1 + 1 + 1]? = some (.cells #[.int .i64 0, .int .i64 0, .slice none 0 0] 28 (0, 0))) (hB : Below w.heap.size w w1) {A A' : Option Addr} {c c' : Nat} {X : Nt} (hd : NR w1 (Dx w S w1) A c A' c' X) :
    HE w S X zeroPk ((w1.setCell ⟨w.heap.size + 1 + 1, 0, none⟩ (.slice A X.q.length c)).setCell ⟨w.heap.size + 1 + 1, 1, none⟩ (.slice A' X.ap.length c')) := by
  refine ⟨A, c, A', c', none, 0, ⟨heap_setCell_same (w1.setCell ⟨w.heap.size + 1 + 1, 0, none⟩ (.slice A X.q.length c)) (w.heap.size + 1 + 1) 1 _ _ (.slice A' X.ap.length c') (heap_setCell_same w1 (w.heap.size + 1 + 1) 0 _ _ (.slice A X.q.length c) kX), ?_⟩, ⟨⟨Nat.le_refl _, Nat.zero_le _⟩, I64.zero, I64.zero⟩, fun h => absurd h (by simp [zeroPk]), ?_, ?_⟩
  · exact (heap_setCell_other _ ⟨w.heap.size + 1 + 1, 1, none⟩ _ _ (by simp)).trans ((heap_setCell_other _ ⟨w.heap.size + 1 + 1, 0, none⟩ _ _ (by simp)).trans kP)
  · refine (hd.keep ((Kept.set fun b hb => ?_).trans (Kept.set fun b hb => ?_))).mono fun b hb => hb.sn (by simp)
    all_goals
      rcases hb with hb | hb
      · have := hS b hb; omega
      · omega
  · exact (hB.setCell (p := ⟨w.heap.size + 1 + 1, 0, none⟩) (by simp; omega) _).setCell (p := ⟨w.heap.size + 1 + 1, 1, none⟩) (by simp; omega) _
theorem HE.of2 {w : World} {S : Nat → Prop} (hS : ∀ b, S b → b < w.heap.size) {w1 : World} {a a' : Option Addr} {l x l' x' : Nat} (kX : w1.heap[w.heap.size + 1 + 1]? = some (.cells #[.slice a l x, .slice a' l' x'] 25 (0, 0)))
    {u0 u1 u2 : Value} (kP : w1.heap[w.heap.size + 1 + 1 + 1]? = some (.cells #[u0, u1, u2] 28 (0, 0))) (hB : Below w.heap.size w w1) {A A' : Option Addr} {c c' : Nat} {X : Nt} (hd : NR w1 (Dx w S w1) A c A' c' X)
    {p : Pk} {Ap : Option Addr} {cp : Nat} (h1 : p.data.length ≤ cp ∧ cp ≤ maxLen) (h2 : I64 p.frm ∧ I64 p.to) (hr : RBs w1 (Dx w S w1) Ap p.data) :
    HE w S X p (((((w1.setCell ⟨w.heap.size + 1 + 1 + 1, 0, none⟩ (.int .i64 p.frm)).setCell ⟨w.heap.size + 1 + 1 + 1, 1, none⟩ (.int .i64 p.to)).setCell ⟨w.heap.size + 1 + 1 + 1, 2, none⟩ (.slice Ap p.data.length cp)).setCell ⟨w.heap.size + 1 + 1, 0, none⟩ (.slice A X.q.length c)).setCell ⟨w.heap.size + 1 + 1, 1, none⟩ (.slice A' X.ap.length c')) := by
  have kP3 := heap_setCell_same _ (w.heap.size + 1 + 1 + 1) 2 _ _ (.slice Ap p.data.length cp) (heap_setCell_same _ (w.heap.size + 1 + 1 + 1) 1 _ _ (.int .i64 p.to) (heap_setCell_same w1 (w.heap.size + 1 + 1 + 1) 0 _ _ (.int .i64 p.frm) kP))
  have kX3 := (heap_setCell_other ((w1.setCell ⟨w.heap.size + 1 + 1 + 1, 0, none⟩ (.int .i64 p.frm)).setCell ⟨w.heap.size + 1 + 1 + 1, 1, none⟩ (.int .i64 p.to)) ⟨w.heap.size + 1 + 1 + 1, 2, none⟩ (w.heap.size + 1 + 1) (.slice Ap p.data.length cp) (by simp)).trans
    ((heap_setCell_other (w1.setCell ⟨w.heap.size + 1 + 1 + 1, 0, none⟩ (.int .i64 p.frm)) ⟨w.heap.size + 1 + 1 + 1, 1, none⟩ (w.heap.size + 1 + 1) (.int .i64 p.to) (by simp)).trans ((heap_setCell_other w1 ⟨w.heap.size + 1 + 1 + 1, 0, none⟩ (w.heap.size + 1 + 1) (.int .i64 p.frm) (by simp)).trans kX))
  have hk : Kept (Dx w S w1) w1 (((((w1.setCell ⟨w.heap.size + 1 + 1 + 1, 0, none⟩ (.int .i64 p.frm)).setCell ⟨w.heap.size + 1 + 1 + 1, 1, none⟩ (.int .i64 p.to)).setCell ⟨w.heap.size + 1 + 1 + 1, 2, none⟩ (.slice Ap p.data.length cp)).setCell ⟨w.heap.size + 1 + 1, 0, none⟩ (.slice A X.q.length c)).setCell ⟨w.heap.size + 1 + 1, 1, none⟩ (.slice A' X.ap.length c')) := by
    refine ((((Kept.set fun b hb => ?_).trans (Kept.set fun b hb => ?_)).trans (Kept.set fun b hb => ?_)).trans (Kept.set fun b hb => ?_)).trans (Kept.set fun b hb => ?_)
    all_goals
      rcases hb with hb | hb
      · have := hS b hb; omega
      · omega
  refine ⟨A, c, A', c', Ap, cp, ⟨heap_setCell_same _ (w.heap.size + 1 + 1) 1 _ _ (.slice A' X.ap.length c') (heap_setCell_same _ (w.heap.size + 1 + 1) 0 _ _ (.slice A X.q.length c) kX3), ?_⟩, ⟨h1, h2⟩, (hr.keep hk).mono fun b hb => hb.sn (by simp), (hd.keep hk).mono fun b hb => hb.sn (by simp), ?_⟩
  · exact (heap_setCell_other _ ⟨w.heap.size + 1 + 1, 1, none⟩ _ _ (by simp)).trans ((heap_setCell_other _ ⟨w.heap.size + 1 + 1, 0, none⟩ _ _ (by simp)).trans kP3)
  · exact ((((hB.setCell (p := ⟨w.heap.size + 1 + 1 + 1, 0, none⟩) (by simp; omega) _).setCell (p := ⟨w.heap.size + 1 + 1 + 1, 1, none⟩) (by simp; omega) _).setCell (p := ⟨w.heap.size + 1 + 1 + 1, 2, none⟩) (by simp; omega) _).setCell (p := ⟨w.heap.size + 1 + 1, 0, none⟩) (by simp; omega) _).setCell (p := ⟨w.heap.size + 1 + 1, 1, none⟩) (by simp; omega) _
theorem rem_lt {x k : Nat} (hk : 0 < k) : Int.tmod (x : Int) (k : Int) = ((x % k : Nat) : Int) := by rw [Int.tmod_eq_emod_of_nonneg (by omega)]; omega

set_option maxRecDepth 100000 in
set_option maxHeartbeats 4000000 in
theorem happens_any (n : Nt) (m : Mv) (hm : m.ok) (w : World) (A A' : Option Addr) (c c' : Nat) (S : Nat → Prop) (hS : ∀ b, S b → b < w.heap.size) (hd : NR w S A c A' c' n) :
    Calls Try.prog 27 #[.agg #[.slice A n.q.length c, .slice A' n.ap.length c'], .agg #[.int .u8 (m.kind : Int), .int .u8 (m.at_ : Int), .int .u8 (m.a : Int), .int .u8 (m.b : Int), .int .u8 (m.data.toNat : Int)]] w (HpPost S (hapX n m).1 (hapP n m) (hapX n m).2 w) := by
  obtain ⟨kN, kM, kX, kP, hB, hsV⟩ := four w (.cells #[.slice A n.q.length c, .slice A' n.ap.length c'] 25) (.cells #[.int .u8 (m.kind : Int), .int .u8 (m.at_ : Int), .int .u8 (m.a : Int), .int .u8 (m.b : Int), .int .u8 (m.data.toNat : Int)] 49) (.cells #[.slice none 0 0, .slice none 0 0] 25) (.cells #[.int .i64 0, .int .i64 0, .slice none 0 0] 28)
  obtain ⟨V, hV⟩ : ∃ V, ((((w.alloc (.cells #[.slice A n.q.length c, .slice A' n.ap.length c'] 25)).alloc (.cells #[.int .u8 (m.kind : Int), .int .u8 (m.at_ : Int), .int .u8 (m.a : Int), .int .u8 (m.b : Int), .int .u8 (m.data.toNat : Int)] 49)).alloc (.cells #[.slice none 0 0, .slice none 0 0] 25)).alloc (.cells #[.int .i64 0, .int .i64 0, .slice none 0 0] 28)) = V := ⟨_, rfl⟩
  rw [hV] at kN kM kX kP hB hsV
  obtain ⟨a24, hea⟩ : ∃ a24, a24 = m.a % 24 := ⟨_, rfl⟩
  obtain ⟨b24, heb⟩ : ∃ b24, b24 = m.b % 24 := ⟨_, rfl⟩
  have ha24 := Lib.hid (show Int.tmod (m.a : Int) 24 = (a24 : Int) by rw [hea]; exact rem_lt (k := 24) (by omega))
  have hb24 := Lib.hid (show Int.tmod (m.b : Int) 24 = (b24 : Int) by rw [heb]; exact rem_lt (k := 24) (by omega))
  have hal : a24 < 24 := by omega
  have hbl : b24 < 24 := by omega
  have hmv := Lib.hid (show mvP m = ⟨(a24 : Int), (b24 : Int), [m.data]⟩ by rw [hea, heb]; rfl)
  replace hea := Lib.hid hea
  replace heb := Lib.hid heb
  have haw := Lib.hid (show IntKind.i64.wrap (m.a : Int) = (m.a : Int) from IntWalk.i64_in _ (by have := hm.a; omega))
  have hbw := Lib.hid (show IntKind.i64.wrap (m.b : Int) = (m.b : Int) from IntWalk.i64_in _ (by have := hm.b; omega))
  have hM : Hid (∀ W, Below V.heap.size V W → W.heap[w.heap.size + 1]? = some (.cells #[.int .u8 (m.kind : Int), .int .u8 (m.at_ : Int), .int .u8 (m.a : Int), .int .u8 (m.b : Int), .int .u8 (m.data.toNat : Int)] 49 (0, 0))) := fun W hW => blk_step kM hW
  have n0 := cell_of_row V _ 0 _ _ _ kN
  have m1 := cell_of_row V _ 1 _ _ _ kM
  have hmk := hm.k
  have hmt := hm.t
  have hql := hd.cap
  have hqm := hd.max
  unfold maxLen at hqm
  replace hm := Lib.hid hm
  replace hd := Lib.hid hd
  replace kN := Lib.hid kN
  replace kM := Lib.hid kM
  replace kX := Lib.hid kX
  replace kP := Lib.hid kP
  replace hB := Lib.hid hB
  replace hsV := Lib.hid hsV
  replace hV := Lib.hid hV
  go_enter Try.func27, Try.ntmps27
  go_upto_region 2 with fail
  rw [hV.out]
  clear hV
  go_upto_if 13 with fail
  go_cut [7] (fun x wx => x = .int .i64 (mvAt n m : Int) ∧ wx = V)
  case first =>
    by_cases h0 : 0 < n.q.length
    · have h0i : (0 : Int) < n.q.length := by omega
      have hne : ¬ (n.q.length : Int) = 0 := by omega
      have hrm := rem_lt (x := m.at_) h0
      have hlm : m.at_ % n.q.length < n.q.length := Nat.mod_lt _ h0
      go_wp2_with fail
      go_meet
      exact ⟨by unfold mvAt; rw [if_pos h0, Int.natCast_emod], rfl⟩
    · have h0i : ¬ (0 : Int) < n.q.length := by omega
      go_wp2_with fail
      go_meet
      exact ⟨by unfold mvAt; rw [if_neg h0]; rfl, rfl⟩
  case rest =>
    obtain ⟨rfl, hwc⟩ := hcut
    rw [hwc]
    clear hwc
    go_upto_region 4 with fail
    refine wp_region_pre 10 0 (fun W => Below V.heap.size V W) (fun W W' => Below W.heap.size W W')
      (fun i v W => match i with
        | 0 => v = .pointer (some ⟨w.heap.size + 1, 2, none⟩)
        | 1 => v = .int .u8 (m.a : Int)
        | 2 => v = .int .i64 (m.a : Int)
        | 3 => v = .int .i64 (a24 : Int)
        | 4 => v = .pointer (some ⟨w.heap.size + 1, 3, none⟩)
        | 5 => v = .int .u8 (m.b : Int)
        | 6 => v = .int .i64 (m.b : Int)
        | 7 => v = .int .i64 (b24 : Int)
        | 8 => v = .int .i64 (a24 : Int)
        | 9 => v = .int .i64 (b24 : Int)
        | _ => True) (fun _ => false)
      (by kernel_rfl) (by kernel_rfl) (by kernel_rfl) (by kernel_rfl) (by kernel_rfl) (by kernel_rfl) (by kernel_rfl) ?_ (fun _ _ h => h.size) (dN (Below.refl _ _) 1) ?_ ?_
    · intro i v W W' hb hF
      match i, hF with
      | 0, h => exact h
      | 1, h => exact h
      | 2, h => exact h
      | 3, h => exact h
      | 4, h => exact h
      | 5, h => exact h
      | 6, h => exact h
      | 7, h => exact h
      | 8, h => exact h
      | 9, h => exact h
      | _ + 10, _ => trivial
    · refine ⟨?_, ?_, ?_, ?_, ?_, ?_, ?_, ?_, ?_, ?_, trivial⟩
      · refine stepJ_any rfl fun ac W hAA hG hDD K hK => ?_
        have h3 := hAA.getD (t := 3) (by kernel_rfl)
        simp only [Array.getD_eq_getD_getElem?] at h3
        rw [if_pos (by rfl)]
        exact wp_val (v := .pointer (some ⟨w.heap.size + 1, 2, none⟩)) (w' := W) (by simp [execOp, Act.eval, h3, go_sem]) (hK _ _ hG (Below.refl _ _) rfl (fun h => by cases h))
      · refine stepJ_any rfl fun ac W hAA hG hDD K hK => ?_
        have h21 := hDD.get 0 21 _ rfl rfl (by kernel_rfl)
        simp only [Array.getD_eq_getD_getElem?] at h21
        have kk := cell_of_row W _ 2 _ _ _ (hM.out W hG)
        rw [if_pos (by rfl)]
        exact wp_val (v := .int .u8 (m.a : Int)) (w' := W) (by simp [execOp, Act.eval, h21, go_sem, kk]) (hK _ _ hG (Below.refl _ _) rfl (fun h => by cases h))
      · refine stepJ_any rfl fun ac W hAA hG hDD K hK => ?_
        have h22 := hDD.get 1 22 _ rfl rfl (by kernel_rfl)
        simp only [Array.getD_eq_getD_getElem?] at h22
        have hq := haw.out
        rw [if_pos (by rfl)]
        exact wp_val (v := .int .i64 (m.a : Int)) (w' := W) (by simp [execOp, Act.eval, h22, go_sem, hq]) (hK _ _ hG (Below.refl _ _) rfl (fun h => by cases h))
      · refine stepJ_any rfl fun ac W hAA hG hDD K hK => ?_
        have h23 := hDD.get 2 23 _ rfl rfl (by kernel_rfl)
        simp only [Array.getD_eq_getD_getElem?] at h23
        have hq := ha24.out
        rw [if_pos (by rfl)]
        exact wp_val (v := .int .i64 (a24 : Int)) (w' := W) (by simp [execOp, Act.eval, h23, go_sem, hq]) (hK _ _ hG (Below.refl _ _) rfl (fun h => by cases h))
      · refine stepJ_any rfl fun ac W hAA hG hDD K hK => ?_
        have h3 := hAA.getD (t := 3) (by kernel_rfl)
        simp only [Array.getD_eq_getD_getElem?] at h3
        rw [if_pos (by rfl)]
        exact wp_val (v := .pointer (some ⟨w.heap.size + 1, 3, none⟩)) (w' := W) (by simp [execOp, Act.eval, h3, go_sem]) (hK _ _ hG (Below.refl _ _) rfl (fun h => by cases h))
      · refine stepJ_any rfl fun ac W hAA hG hDD K hK => ?_
        have h25 := hDD.get 4 25 _ rfl rfl (by kernel_rfl)
        simp only [Array.getD_eq_getD_getElem?] at h25
        have kk := cell_of_row W _ 3 _ _ _ (hM.out W hG)
        rw [if_pos (by rfl)]
        exact wp_val (v := .int .u8 (m.b : Int)) (w' := W) (by simp [execOp, Act.eval, h25, go_sem, kk]) (hK _ _ hG (Below.refl _ _) rfl (fun h => by cases h))
      · refine stepJ_any rfl fun ac W hAA hG hDD K hK => ?_
        have h26 := hDD.get 5 26 _ rfl rfl (by kernel_rfl)
        simp only [Array.getD_eq_getD_getElem?] at h26
        have hq := hbw.out
        rw [if_pos (by rfl)]
        exact wp_val (v := .int .i64 (m.b : Int)) (w' := W) (by simp [execOp, Act.eval, h26, go_sem, hq]) (hK _ _ hG (Below.refl _ _) rfl (fun h => by cases h))
      · refine stepJ_any rfl fun ac W hAA hG hDD K hK => ?_
        have h27 := hDD.get 6 27 _ rfl rfl (by kernel_rfl)
        simp only [Array.getD_eq_getD_getElem?] at h27
        have hq := hb24.out
        rw [if_pos (by rfl)]
        exact wp_val (v := .int .i64 (b24 : Int)) (w' := W) (by simp [execOp, Act.eval, h27, go_sem, hq]) (hK _ _ hG (Below.refl _ _) rfl (fun h => by cases h))
      · refine stepJ_any rfl fun ac W hAA hG hDD K hK => ?_
        have h24 := hDD.get 3 24 _ rfl rfl (by kernel_rfl)
        simp only [Array.getD_eq_getD_getElem?] at h24
        rw [if_pos (by rfl)]
        exact wp_val (v := .int .i64 (a24 : Int)) (w' := W) (by simp [execOp, Act.eval, h24, go_sem]) (hK _ _ hG (Below.refl _ _) rfl (fun h => by cases h))
      · refine stepJ_any rfl fun ac W hAA hG hDD K hK => ?_
        have h28 := hDD.get 7 28 _ rfl rfl (by kernel_rfl)
        simp only [Array.getD_eq_getD_getElem?] at h28
        rw [if_pos (by rfl)]
        exact wp_val (v := .int .i64 (b24 : Int)) (w' := W) (by simp [execOp, Act.eval, h28, go_sem]) (hK _ _ hG (Below.refl _ _) rfl (fun h => by cases h))
    intro fu T Vb hG hF hne hltb
    have e21 : T 21 = .pointer (some ⟨w.heap.size + 1, 2, none⟩) := hF 0 _ rfl (by omega)
    have e22 : T 22 = .int .u8 (m.a : Int) := hF 1 _ rfl (by omega)
    have e23 : T 23 = .int .i64 (m.a : Int) := hF 2 _ rfl (by omega)
    have e24 : T 24 = .int .i64 (a24 : Int) := hF 3 _ rfl (by omega)
    have e25 : T 25 = .pointer (some ⟨w.heap.size + 1, 3, none⟩) := hF 4 _ rfl (by omega)
    have e26 : T 26 = .int .u8 (m.b : Int) := hF 5 _ rfl (by omega)
    have e27 : T 27 = .int .i64 (m.b : Int) := hF 6 _ rfl (by omega)
    have e28 : T 28 = .int .i64 (b24 : Int) := hF 7 _ rfl (by omega)
    have e8 : T 8 = .int .i64 (a24 : Int) := hF 8 _ rfl (by omega)
    have e9 : T 9 = .int .i64 (b24 : Int) := hF 9 _ rfl (by omega)
    clear hF hne hltb
    simp only [List.take, fillT, List.setIfInBounds_toArray, List.set_cons_zero, List.set_cons_succ, e21, e22, e23, e24, e25, e26, e27, e28, e8, e9]
    clear e21 e22 e23 e24 e25 e26 e27 e28 e8 e9
    refine wpAny_done (by kernel_rfl) ?_ _
    replace kN := Lib.hid (blk_step kN.out hG)
    replace kM := Lib.hid (blk_step kM.out hG)
    replace kX := Lib.hid (blk_step kX.out hG)
    replace kP := Lib.hid (blk_step kP.out hG)
    replace hB := Lib.hid (hB.out.trans (hG.mono hB.out.size))
    have hsz := Lib.hid (show w.heap.size + 4 ≤ Vb.heap.size from hsV.out ▸ hG.size)
    clear hG hM hsV ha24 hb24 haw hbw
    have mm0 := cell_of_row Vb _ 0 _ _ _ kM.out
    have hk6 := rem_lt (x := m.kind) (k := 6) (by omega)
    go_upto_block 0 with fail
    go_cut [6, 31] (fun x _ wx => x = .int .i64 (hapX n m).2 ∧ HE w S (hapX n m).1 (hapP n m) wx)
    case first =>
      have hdV := hd.out.keep (Kept.of hS hB.out)
      have nn0 := cell_of_row Vb _ 0 _ _ _ kN.out
      have nn1 := cell_of_row Vb _ 1 _ _ _ kN.out
      have h6 : m.kind % 6 = 0 ∨ m.kind % 6 = 1 ∨ m.kind % 6 = 2 ∨ m.kind % 6 = 3 ∨ m.kind % 6 = 4 ∨ m.kind % 6 = 5 := by omega
      rcases h6 with h6 | h6 | h6 | h6 | h6 | h6
      · have hkj : (m.kind : Int) % 6 = 0 := by omega
        have hXe := Lib.hid (show hapX n m = sendN n ⟨(a24 : Int), (b24 : Int), [m.data]⟩ by unfold hapX; rw [if_pos (by omega), hmv.out])
        have hPe := Lib.hid (show hapP n m = zeroPk by unfold hapP; rw [if_neg (by omega)])
        have hbA := bnew Vb (.cells #[.int .u8 (m.data.toNat : Int)] 5)
        have hsA := Lib.hid (show (Vb.alloc (.cells #[.int .u8 (m.data.toNat : Int)] 5)).heap.size = Vb.heap.size + 1 by simp)
        have mm4 := cell_of_row Vb _ 4 _ _ _ kM.out
        have hcon := Lib.hid ((Send_any n ⟨(a24 : Int), (b24 : Int), [m.data]⟩ (Vb.alloc (.cells #[.int .u8 (m.data.toNat : Int)] 5)) A A' (some ⟨Vb.heap.size, 0, none⟩) c c' 1 (fun b => S b ∨ b = Vb.heap.size) (fun b hb => by rcases hb with hb | hb; have := hS b hb; have := hsz.out; simp; omega; simp; omega) ((hdV.keep (Kept.of (fun b hb => Nat.lt_of_lt_of_le (hS b hb) hB.out.size) hbA)).mono fun b hb => .inl hb) ⟨by unfold I64; dsimp only; omega, by unfold I64; dsimp only; omega⟩ ⟨Nat.le_refl _, by unfold maxLen; omega⟩ (fun _ => ⟨Vb.heap.size, 0, rfl, .inr rfl, fun q hq => by (obtain rfl : q = 0 := (by simpa using hq)); exact cell_of_row _ _ 0 _ _ _ (heap_alloc_new Vb _)⟩) : Calls Try.prog 11 #[.agg #[.slice A n.q.length c, .slice A' n.ap.length c'], .agg #[.int .i64 (a24 : Int), .int .i64 (b24 : Int), .slice (some ⟨Vb.heap.size, 0, none⟩) 1 1]] (Vb.alloc (.cells #[.int .u8 (m.data.toNat : Int)] 5)) (NtPost (fun b => S b ∨ b = Vb.heap.size) (sendN n ⟨(a24 : Int), (b24 : Int), [m.data]⟩) (Vb.alloc (.cells #[.int .u8 (m.data.toNat : Int)] 5)))))
        clear hdV
        go_wp2_with fail
        refine hcon.out.mono ?_
        intro e w1 hpost
        obtain ⟨A2, c2, A2', c2', rfl, hd2, hb⟩ := hpost.get
        have kX1 := blk_step (blk_step kX.out hbA) hb
        have kP1 := blk_step (blk_step kP.out hbA) hb
        have hB1 := hB.out.trans ((hbA.trans (hb.mono hbA.size)).mono hB.out.size)
        have hsB := Lib.hid hb.size
        have x0 := cell_of_row w1 _ 0 _ _ _ kX1
        have x1 := cell_of_row w1 _ 1 _ _ _ kX1
        have fx := fun q => frozen_of_row w1 _ q _ _ kX1
        have hfin := Lib.hid (HE.of hS kX1 kP1 hB1 (hd2.mono fun b hb => by rcases hb with (hb | hb) | hb; exact .inl hb; exact .inr (by have := hsz.out; have := hsA.out; have := hsB.out; omega); exact .inr (by have := hsz.out; have := hsA.out; omega)))
        clear hd2 hb kX1 kP1 hB1 hcon hpost
        go_wp2_with fail
        go_meet
        exact ⟨by rw [hXe.out], by rw [hXe.out, hPe.out]; exact hfin.out⟩
      · have hkj : (m.kind : Int) % 6 = 1 := by omega
        have hXe := Lib.hid (show hapX n m = loseN n (mvAt n m) by unfold hapX; rw [if_neg (by omega), if_pos (by omega)])
        have hPe := Lib.hid (show hapP n m = delivN n (mvAt n m) by unfold hapP; rw [if_pos (by omega)])
        have hcon := Lib.hid (Deliver_any n (mvAt n m) Vb A A' c c' S (fun b hb => Nat.lt_of_lt_of_le (hS b hb) hB.out.size) hdV)
        clear hdV
        go_wp2_with fail
        refine hcon.out.mono ?_
        intro e w1 hpost
        obtain ⟨hb, Ap2, cp2, A2, c2, A2', c2', rfl, q1, q2, q3, hd2⟩ := hpost
        have kX1 := blk_step kX.out hb
        have kP1 := blk_step kP.out hb
        have hB1 := hB.out.trans (hb.mono hB.out.size)
        have x0 := cell_of_row w1 _ 0 _ _ _ kX1
        have x1 := cell_of_row w1 _ 1 _ _ _ kX1
        have fx := fun q => frozen_of_row w1 _ q _ _ kX1
        have p0 := cell_of_row w1 _ 0 _ _ _ kP1
        have p1 := cell_of_row w1 _ 1 _ _ _ kP1
        have p2 := cell_of_row w1 _ 2 _ _ _ kP1
        have fp := fun q => frozen_of_row w1 _ q _ _ kP1
        have hfin := Lib.hid (HE.of2 hS kX1 kP1 hB1 (hd2.mono fun b hb => Dx.of hsz.out b hb) q1 q3 (q2.mono fun b hb => Dx.of hsz.out b hb))
        clear hd2 hb kX1 kP1 hB1 hcon q1 q2 q3
        go_wp2_with fail
        go_meet
        exact ⟨by rw [hXe.out], by rw [hXe.out, hPe.out]; exact hfin.out⟩
      · have hkj : (m.kind : Int) % 6 = 2 := by omega
        have hXe := Lib.hid (show hapX n m = loseN n (mvAt n m) by unfold hapX; rw [if_neg (by omega), if_pos (by omega)])
        have hPe := Lib.hid (show hapP n m = zeroPk by unfold hapP; rw [if_neg (by omega)])
        have hcon := Lib.hid (Lose_any n (mvAt n m) Vb A A' c c' S (fun b hb => Nat.lt_of_lt_of_le (hS b hb) hB.out.size) hdV)
        clear hdV
        go_wp2_with fail
        refine hcon.out.mono ?_
        intro e w1 hpost
        obtain ⟨A2, c2, A2', c2', rfl, hd2, hb⟩ := hpost.get
        have kX1 := blk_step kX.out hb
        have kP1 := blk_step kP.out hb
        have hB1 := hB.out.trans (hb.mono hB.out.size)
        have x0 := cell_of_row w1 _ 0 _ _ _ kX1
        have x1 := cell_of_row w1 _ 1 _ _ _ kX1
        have fx := fun q => frozen_of_row w1 _ q _ _ kX1
        have hfin := Lib.hid (HE.of hS kX1 kP1 hB1 (hd2.mono fun b hb => Dx.of hsz.out b hb))
        clear hd2 hb kX1 kP1 hB1 hcon hpost
        go_wp2_with fail
        go_meet
        exact ⟨by rw [hXe.out], by rw [hXe.out, hPe.out]; exact hfin.out⟩
      · have hkj : (m.kind : Int) % 6 = 3 := by omega
        have hXe := Lib.hid (show hapX n m = repN n (mvAt n m) by unfold hapX; rw [if_neg (by omega), if_neg (by omega), if_pos (by omega)])
        have hPe := Lib.hid (show hapP n m = zeroPk by unfold hapP; rw [if_neg (by omega)])
        have hcon := Lib.hid (Repeat_any n (mvAt n m) Vb A A' c c' S (fun b hb => Nat.lt_of_lt_of_le (hS b hb) hB.out.size) hdV)
        clear hdV
        go_wp2_with fail
        refine hcon.out.mono ?_
        intro e w1 hpost
        obtain ⟨A2, c2, A2', c2', rfl, hd2, hb⟩ := hpost.get
        have kX1 := blk_step kX.out hb
        have kP1 := blk_step kP.out hb
        have hB1 := hB.out.trans (hb.mono hB.out.size)
        have x0 := cell_of_row w1 _ 0 _ _ _ kX1
        have x1 := cell_of_row w1 _ 1 _ _ _ kX1
        have fx := fun q => frozen_of_row w1 _ q _ _ kX1
        have hfin := Lib.hid (HE.of hS kX1 kP1 hB1 (hd2.mono fun b hb => Dx.of hsz.out b hb))
        clear hd2 hb kX1 kP1 hB1 hcon hpost
        go_wp2_with fail
        go_meet
        exact ⟨by rw [hXe.out], by rw [hXe.out, hPe.out]; exact hfin.out⟩
      · have hkj : (m.kind : Int) % 6 = 4 := by omega
        have hXe := Lib.hid (show hapX n m = cutN n (a24 : Int) (b24 : Int) true by unfold hapX; rw [if_neg (by omega), if_neg (by omega), if_neg (by omega), decide_eq_true (by omega), hea.out, heb.out])
        have hPe := Lib.hid (show hapP n m = zeroPk by unfold hapP; rw [if_neg (by omega)])
        have hcon := Lib.hid (Cut_any n (a24 : Int) (b24 : Int) true Vb A A' c c' S (fun b hb => Nat.lt_of_lt_of_le (hS b hb) hB.out.size) hdV)
        clear hdV
        go_wp2_with fail
        refine hcon.out.mono ?_
        intro e w1 hpost
        obtain ⟨A2, c2, A2', c2', rfl, hd2, hb⟩ := hpost.get
        have kX1 := blk_step kX.out hb
        have kP1 := blk_step kP.out hb
        have hB1 := hB.out.trans (hb.mono hB.out.size)
        have x0 := cell_of_row w1 _ 0 _ _ _ kX1
        have x1 := cell_of_row w1 _ 1 _ _ _ kX1
        have fx := fun q => frozen_of_row w1 _ q _ _ kX1
        have hfin := Lib.hid (HE.of hS kX1 kP1 hB1 (hd2.mono fun b hb => Dx.of hsz.out b hb))
        clear hd2 hb kX1 kP1 hB1 hcon hpost
        go_wp2_with fail
        go_meet
        exact ⟨by rw [hXe.out], by rw [hXe.out, hPe.out]; exact hfin.out⟩
      · have hkj : (m.kind : Int) % 6 = 5 := by omega
        have hXe := Lib.hid (show hapX n m = cutN n (a24 : Int) (b24 : Int) false by unfold hapX; rw [if_neg (by omega), if_neg (by omega), if_neg (by omega), decide_eq_false (by omega), hea.out, heb.out])
        have hPe := Lib.hid (show hapP n m = zeroPk by unfold hapP; rw [if_neg (by omega)])
        have hcon := Lib.hid (Cut_any n (a24 : Int) (b24 : Int) false Vb A A' c c' S (fun b hb => Nat.lt_of_lt_of_le (hS b hb) hB.out.size) hdV)
        clear hdV
        go_wp2_with fail
        refine hcon.out.mono ?_
        intro e w1 hpost
        obtain ⟨A2, c2, A2', c2', rfl, hd2, hb⟩ := hpost.get
        have kX1 := blk_step kX.out hb
        have kP1 := blk_step kP.out hb
        have hB1 := hB.out.trans (hb.mono hB.out.size)
        have x0 := cell_of_row w1 _ 0 _ _ _ kX1
        have x1 := cell_of_row w1 _ 1 _ _ _ kX1
        have fx := fun q => frozen_of_row w1 _ q _ _ kX1
        have hfin := Lib.hid (HE.of hS kX1 kP1 hB1 (hd2.mono fun b hb => Dx.of hsz.out b hb))
        clear hd2 hb kX1 kP1 hB1 hcon hpost
        go_wp2_with fail
        go_meet
        exact ⟨by rw [hXe.out], by rw [hXe.out, hPe.out]; exact hfin.out⟩
    case rest =>
      obtain ⟨rfl, hE⟩ := hcut
      obtain ⟨A2, c2, A2', c2', Ap2, cp2, ⟨kX2, kP2⟩, ⟨q1, q3⟩, q2, hd2, hB2⟩ := hE
      go_upto_region 18 with fail
      refine wp_region_pre 5 1 (fun W => W = wc.drew) (fun W W' => W' = W) (fun i v W => match i with | 0 => v = .agg #[.slice A2 (hapX n m).1.q.length c2, .slice A2' (hapX n m).1.ap.length c2'] | 1 => v = .agg #[.int .i64 (hapP n m).frm, .int .i64 (hapP n m).to, .slice Ap2 (hapP n m).data.length cp2] | 2 => v = .int .i64 (hapX n m).2 | _ => True) (fun _ => false)
        (by kernel_rfl) (by kernel_rfl) (by kernel_rfl) (by kernel_rfl) (by kernel_rfl) (by kernel_rfl) (by kernel_rfl) ?_ (fun _ _ h => by rw [h]; exact Nat.le_refl _) rfl ?_ ?_
      · intro i v W W' hb hF
        match i, hF with
        | 0, h => exact h
        | 1, h => exact h
        | 2, h => exact h
        | _ + 3, _ => trivial
      · refine ⟨?_, ?_, ?_, ?_, ?_, trivial⟩
        · refine stepJ_any rfl fun ac W hAA hG hDD K hK => ?_
          have h4 := hAA.getD (t := 4) (by kernel_rfl)
          simp only [Array.getD_eq_getD_getElem?] at h4
          have hkx : W.heap[w.heap.size + 1 + 1]? = some (.cells #[.slice A2 (hapX n m).1.q.length c2, .slice A2' (hapX n m).1.ap.length c2'] 25 (0, 0)) := by rw [hG]; exact kX2
          have x0 := cell_of_row W _ 0 _ _ _ hkx
          have x1 := cell_of_row W _ 1 _ _ _ hkx
          rw [if_pos (by rfl)]
          exact wp_val (v := .agg #[.slice A2 (hapX n m).1.q.length c2, .slice A2' (hapX n m).1.ap.length c2']) (w' := W) (by simp [execOp, Act.eval, h4, go_sem, x0, x1]) (hK _ _ hG rfl rfl (fun h => by cases h))
        · refine stepJ_any rfl fun ac W hAA hG hDD K hK => ?_
          have h5 := hAA.getD (t := 5) (by kernel_rfl)
          simp only [Array.getD_eq_getD_getElem?] at h5
          have hkp : W.heap[w.heap.size + 1 + 1 + 1]? = some (.cells #[.int .i64 (hapP n m).frm, .int .i64 (hapP n m).to, .slice Ap2 (hapP n m).data.length cp2] 28 (0, 0)) := by rw [hG]; exact kP2
          have x0 := cell_of_row W _ 0 _ _ _ hkp
          have x1 := cell_of_row W _ 1 _ _ _ hkp
          have x2 := cell_of_row W _ 2 _ _ _ hkp
          rw [if_pos (by rfl)]
          exact wp_val (v := .agg #[.int .i64 (hapP n m).frm, .int .i64 (hapP n m).to, .slice Ap2 (hapP n m).data.length cp2]) (w' := W) (by simp [execOp, Act.eval, h5, go_sem, x0, x1, x2]) (hK _ _ hG rfl rfl (fun h => by cases h))
        · refine stepJ_any rfl fun ac W hAA hG hDD K hK => ?_
          have h6 := hAA.getD (t := 6) (by kernel_rfl)
          simp only [Array.getD_eq_getD_getElem?] at h6
          rw [if_pos (by rfl)]
          exact wp_val (v := .int .i64 (hapX n m).2) (w' := W) (by simp [execOp, Act.eval, h6, go_sem]) (hK _ _ hG rfl rfl (fun h => by cases h))
        · intro ac W hAA hG hDD K hK
          have h4 := hAA.getD (t := 4) (by kernel_rfl)
          have hv0 := hDD.get 0 88 _ rfl rfl (by kernel_rfl)
          rw [if_pos (by rfl)]
          have hkx : W.heap[w.heap.size + 1 + 1]? = some (.cells #[.slice A2 (hapX n m).1.q.length c2, .slice A2' (hapX n m).1.ap.length c2'] 25 (0, 0)) := by rw [hG]; exact kX2
          refine wp_store_row 25 (.tmp 4) (.tmp 88) rfl (w.heap.size + 1 + 1) #[.slice A2 (hapX n m).1.q.length c2, .slice A2' (hapX n m).1.ap.length c2'] h4 hv0 25 _ hkx (by kernel_rfl) rfl (by simp [Value.oneCell']) ?_
          rw [setRow_id hkx]
          exact hK undef W (fun _ => rfl) hG rfl trivial (fun h => by cases h)
        · intro ac W hAA hG hDD K hK
          have h5 := hAA.getD (t := 5) (by kernel_rfl)
          have hv1 := hDD.get 1 89 _ rfl rfl (by kernel_rfl)
          rw [if_pos (by rfl)]
          have hkp : W.heap[w.heap.size + 1 + 1 + 1]? = some (.cells #[.int .i64 (hapP n m).frm, .int .i64 (hapP n m).to, .slice Ap2 (hapP n m).data.length cp2] 28 (0, 0)) := by rw [hG]; exact kP2
          refine wp_store_row 28 (.tmp 5) (.tmp 89) rfl (w.heap.size + 1 + 1 + 1) #[.int .i64 (hapP n m).frm, .int .i64 (hapP n m).to, .slice Ap2 (hapP n m).data.length cp2] h5 hv1 28 _ hkp (by kernel_rfl) rfl (by simp [Value.oneCell']) ?_
          rw [setRow_id hkp]
          exact hK undef W (fun _ => rfl) hG rfl trivial (fun h => by cases h)
      intro fu T W9 hG hF hne hltb
      have e0 : T 88 = .agg #[.slice A2 (hapX n m).1.q.length c2, .slice A2' (hapX n m).1.ap.length c2'] := hF 0 _ rfl (by omega)
      have e1 : T 89 = .agg #[.int .i64 (hapP n m).frm, .int .i64 (hapP n m).to, .slice Ap2 (hapP n m).data.length cp2] := hF 1 _ rfl (by omega)
      have e2 : T 90 = .int .i64 (hapX n m).2 := hF 2 _ rfl (by omega)
      clear hF hne hltb
      rw [hG]
      clear hG
      simp only [List.take, fillT, List.setIfInBounds_toArray, List.set_cons_zero, List.set_cons_succ, e0, e1, e2]
      clear e0 e1 e2
      refine wpAny_ready (rs := [5]) (by kernel_rfl) (by simp) (AllReady.cons (o := ⟨(some 6), (Op.assign (Operand.tmp 90)), _, _, _, none⟩) rfl (fun K1 hK1 => ?_) AllReady.nil)
      rw [if_pos (by rfl)]
      refine wp_val (v := .int .i64 (hapX n m).2) (w' := wc.drew) (by simp [execOp, Act.eval, go_sem]) ?_
      refine hK1 _ _ ?_
      clear hK1 K1
      refine wpAny_done (by kernel_rfl) ?_ _
      simp only [Act.put, List.setIfInBounds_toArray, List.set_cons_zero, List.set_cons_succ]
      have x0 : wc.drew.cell? ⟨w.heap.size + 1 + 1, 0, none⟩ = _ := cell_of_row wc.drew _ 0 _ _ _ kX2
      have x1 : wc.drew.cell? ⟨w.heap.size + 1 + 1, 1, none⟩ = _ := cell_of_row wc.drew _ 1 _ _ _ kX2
      have p0 : wc.drew.cell? ⟨w.heap.size + 1 + 1 + 1, 0, none⟩ = _ := cell_of_row wc.drew _ 0 _ _ _ kP2
      have p1 : wc.drew.cell? ⟨w.heap.size + 1 + 1 + 1, 1, none⟩ = _ := cell_of_row wc.drew _ 1 _ _ _ kP2
      have p2 : wc.drew.cell? ⟨w.heap.size + 1 + 1 + 1, 2, none⟩ = _ := cell_of_row wc.drew _ 2 _ _ _ kP2
      go_wp2_with fail
      exact bodyPost_ret (v := .tuple #[.agg #[.slice A2 (hapX n m).1.q.length c2, .slice A2' (hapX n m).1.ap.length c2'], .agg #[.int .i64 (hapP n m).frm, .int .i64 (hapP n m).to, .slice Ap2 (hapP n m).data.length cp2], .int .i64 (hapX n m).2]) (by simp [results, Try.results27, go_sem, x0, x1, p0, p1, p2]) rfl
        ⟨dN hB2 1, A2, c2, A2', c2', Ap2, cp2, rfl, q1, q2, q3, (NR.keep (S := Sn S w wc) (w := wc) (w' := wc.drew) (fun _ _ _ => rfl) hd2).mono (fun b hb => hb)⟩
end Go.Proofs.Ytpmmahlmfcbbbaa
