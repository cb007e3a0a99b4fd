/- FieldOrder. (Written by genfp.py.) -/
import Derived.Test.YtfblkkdoijfpfaaFo
namespace Go.Proofs.Ytfblkkdoijfpfaa
open Go.RowKit

theorem Try.szPt : ∀ w, (Go.sizeOf 35).run Try.prog w = .ok 2 w := fun _ => by kernel_rfl
theorem slice_to_pt (b off len cap k : Nat) (h : k ≤ cap) (W : World) : (Instr.slice 31 (.slice (some ⟨b, off, none⟩) len cap) none (some (.int .i64 (k : Int))) none).run Try.prog W = .ok (.slice (some ⟨b, off, none⟩) k cap) W := by
  have ht : Try.prog.underlying 31 = some (.slice (Try.prog.elem 31)) := by kernel_rfl
  have he : Try.prog.elem 31 = 35 := by kernel_rfl
  have ha : ∀ j, (⟨b, off, none⟩ : Addr).add j = ⟨b, off + j, none⟩ := fun j => by unfold Addr.add; split <;> simp_all
  rw [run_slice_h W _ _ _ _ ht .i64 _ (by omega) (by omega), he, Try.szPt]
  simp [Result.andThen, sliced, ha]
theorem slice_from_pt (b off len cap k : Nat) (h : k ≤ len) (hk : k < cap) (W : World) : (Instr.slice 31 (.slice (some ⟨b, off, none⟩) len cap) (some (.int .i64 (k : Int))) none none).run Try.prog W = .ok (.slice (some ⟨b, off + k * 2, none⟩) (len - k) (cap - k)) W := by
  have ht : Try.prog.underlying 31 = some (.slice (Try.prog.elem 31)) := by kernel_rfl
  have he : Try.prog.elem 31 = 35 := by kernel_rfl
  have ha : ∀ j, (⟨b, off, none⟩ : Addr).add j = ⟨b, off + j, none⟩ := fun j => by unfold Addr.add; split <;> simp_all
  rw [run_slice_l W _ _ _ _ ht .i64 _ (by omega) (by omega), he, Try.szPt]
  have : ¬ cap = k := by omega
  simp [Result.andThen, sliced, this, ha]
theorem PR.take {w : World} {S : Nat → Prop} {A : Option Addr} {l : List (Int × Int)} (h : PR w S A l) (k : Nat) : PR w S A (l.take k) := fun hp => by
  rw [List.length_take] at hp
  obtain ⟨b, off, e, hs, hc⟩ := h (by omega)
  refine ⟨b, off, e, hs, fun i hi => ?_⟩
  rw [List.length_take] at hi
  rw [List.getElem_take]
  exact hc i (by omega)
theorem PR.drop {w : World} {S : Nat → Prop} {b off : Nat} {l : List (Int × Int)} (h : PR w S (some ⟨b, off, none⟩) l) (k : Nat) : PR w S (some ⟨b, off + k * 2, none⟩) (l.drop k) := fun hp => by
  rw [List.length_drop] at hp
  obtain ⟨b', off', e, hs, hc⟩ := h (by omega)
  injection e with e
  injection e with e1 e2
  subst e1 e2
  refine ⟨b, off + k * 2, rfl, hs, fun i hi => ?_⟩
  rw [List.length_drop] at hi
  rw [List.getElem_drop]
  have := hc (k + i) (by omega)
  rwa [show off + (k + i) * 2 = off + k * 2 + i * 2 by omega] at this
/-- An append behind an empty row. -/
theorem OPt.fresh {w0 w : World} {m : List (Int × Int)} (ty : TypeId) (g : Nat) {S : Nat → Prop} {A : Option Addr} {c : Nat} (hp : PR w S A m) (hm0 : 0 < m.length) (hm : m.length ≤ 1000000000) (hmw : Below w0.heap.size w0 w) :
    ∃ v' w', (Builtin.append_ #[31, 31] ty #[.slice (some ⟨g, 0, none⟩) 0 0, .slice A m.length c]).run Try.prog w = .ok v' w' ∧ Below w.heap.size w w' ∧ OPt w0 v' m w' := by
  obtain ⟨ti, hi, hz, hsz, hby⟩ := Try.iPt
  have hs : Src Try.prog 2 31 (.slice A m.length c) m.length (ptCells m) w := Src.ofRow Try.underlying31 w A m.length c (ptCells m) (ptCells_length m) (by omega) (fun h0 => by
    obtain ⟨b, off, rfl, -, -⟩ := hp (by omega)
    exact ⟨_, rfl, PR.cells hp⟩) (ptCells_one m)
  have hsm : ∀ p ∈ m, I64 p.1 ∧ I64 p.2 := fun p hp' => by
    obtain ⟨k, hk, rfl⟩ := List.mem_iff_getElem.1 hp'
    obtain ⟨-, -, -, -, -, -, h1, h2⟩ := hp.at_ hk
    exact ⟨h1, h2⟩
  obtain ⟨c', w', hr, ho, hb⟩ := run_append_fresh (P := Try.prog) w w0.heap.size 31 31 ty 35 ti _ Try.underlying31 hi hz 2 16 hsz hby (by omega) rfl g (.slice A m.length c) m.length (ptCells m) hs hm0 hm hmw.size
  exact ⟨_, w', hr, hb, ho, hsm, hmw.trans (hb.mono hmw.size)⟩

theorem Diff.pairs {l : List Int} : Diff l ↔ l.Pairwise (fun x y => ¬ Cg y x) := by
  induction l with
  | nil => exact ⟨fun _ => List.Pairwise.nil, fun _ => trivial⟩
  | cons x r ih => rw [List.pairwise_cons, ← ih]; exact Iff.rfl
theorem Diff.turned {l : List (Int × Int)} (h : Diff (l.map Prod.fst)) (k : Nat) : Diff ((l.drop k ++ l.take k).map Prod.fst) := by
  rw [Diff.pairs] at h ⊢
  have hp : List.Perm ((l.drop k ++ l.take k).map Prod.fst) (l.map Prod.fst) := by
    have := List.perm_append_comm (l₁ := l.drop k) (l₂ := l.take k)
    rw [List.take_append_drop] at this
    exact this.map _
  exact (hp.pairwise_iff (fun {x y} hxy e => hxy e.symm)).2 h
theorem at_mem {l : List (Int × Int)} (hd : Diff (l.map Prod.fst)) {p : Int × Int} (hp : p ∈ l) : Cg (atF l p.1) p.2 := by
  obtain ⟨k, hk, rfl⟩ := List.mem_iff_getElem.1 hp
  exact (atF_thr l _ hd).trans (thr_at l hd k hk)
theorem turned_at {l : List (Int × Int)} (hd : Diff (l.map Prod.fst)) (h64 : l.length < 64) (k : Nat) (t : Int) : atV (l.drop k ++ l.take k) t = atV l t ∧ atE (l.drop k ++ l.take k) = 0 := by
  have hl : (l.drop k ++ l.take k).length = l.length := by rw [List.length_append, List.length_drop, List.length_take]; omega
  obtain ⟨h1, h2⟩ := atV_good (l := l.drop k ++ l.take k) (by omega) (hd.turned k) t
  obtain ⟨-, h4⟩ := atV_good (l := l) (by omega) hd t
  refine ⟨?_, h1⟩
  rw [h2, h4, at_unique _ (hd.turned k) (atF l) (by rw [hl]; exact at_PF l hd) (fun p hp => at_mem hd (by
    rcases List.mem_append.1 hp with h | h
    · exact List.mem_of_mem_drop h
    · exact List.mem_of_mem_take h)) t]
  exact atF_range l t
theorem more_at {l : List (Int × Int)} {x : Int} (hd : Diff (l.map Prod.fst)) (hd2 : Diff ((l ++ [(x, atV l x)]).map Prod.fst)) (h64 : l.length < 64) (t : Int) : atV (l ++ [(x, atV l x)]) t = atV l t ∧ atE (l ++ [(x, atV l x)]) = 0 := by
  obtain ⟨h1, h2⟩ := atV_good (l := l ++ [(x, atV l x)]) (by rw [List.length_append]; simp; omega) hd2 t
  obtain ⟨-, h4⟩ := atV_good (l := l) (by omega) hd t
  obtain ⟨-, h5⟩ := atV_good (l := l) (by omega) hd x
  refine ⟨?_, h1⟩
  rw [h2, h4, at_unique _ hd2 (atF l) ((at_PF l hd).mono (by simp)) (fun p hp => by
    rcases List.mem_append.1 hp with h | h
    · exact at_mem hd h
    · obtain rfl := List.mem_singleton.1 h
      exact .of_eq h5.symm) t]
  exact atF_range l t
theorem more_bad {l : List (Int × Int)} (hd2 : diffB (l.map Prod.fst) = false) (h64 : l.length ≤ 64) (t : Int) : atV l t = 0 ∧ atE l = 90 := by
  have he : atE l = 90 := by unfold atE; rw [if_neg (by omega), hd2]; rfl
  exact ⟨by unfold atV; rw [he]; rfl, he⟩

set_option maxRecDepth 100000 in
set_option maxHeartbeats 4000000 in
theorem order_any (l : List (Int × Int)) (tn : Nat) (x t : Int) (htn : tn < 256) (hl : l.length ≤ 9223372036854775807) (hx : I64 x) (ht : I64 t) (w : World) (A : Option Addr) (c : Nat) (hc : l.length ≤ c) (hR : PR w (· < w.heap.size) A l) :
    Calls Try.prog 6 #[.slice A l.length c, .int .u8 (tn : Int), .int .i64 x, .int .i64 t] w fun e w' => e = .returned (.bool true) ∧ Below w.heap.size w w' := by
  go_enter Try.func6, Try.ntmps6
  have hRh := Lib.hid hR
  have hth := Lib.hid ht
  have hxh := Lib.hid hx
  clear hR ht hx
  go_wp2_with fail
  refine (sane_any _).mono ?_
  rintro e w1 ⟨rfl, hb1⟩
  have hB := Lib.hid hb1
  clear hb1
  by_cases h64 : 64 ≤ l.length
  · have hbig : (64 : Int) ≤ l.length := by omega
    go_wp2_with fail
    go_ret
    exact ⟨rfl, hB.out⟩
  have hsm : ¬ (64 : Int) ≤ l.length := by omega
  by_cases hl0 : l.length = 0
  · obtain rfl := List.eq_nil_of_length_eq_zero hl0
    have hDf := Lib.hid (Different_any [] (by simp) w1 A c (PR.nil _ _ _))
    clear hl0 hsm h64
    simp only [List.length_nil, List.map_nil] at hDf ⊢
    rw [show diffB [] = true from rfl] at hDf
    go_wp2_with fail
    refine hDf.out.mono ?_
    rintro e w2 ⟨rfl, hb2⟩
    replace hB := Lib.hid (hB.out.trans (hb2.mono hB.out.size))
    clear hb2
    go_wp2_with fail
    go_ret
    exact ⟨rfl, hB.out⟩
  have hDf := Lib.hid (Different_any l (by omega) w1 A c (hRh.out.step hB.out))
  cases hdb : diffB (l.map Prod.fst) with
  | false =>
    rw [hdb] at hDf
    clear hdb
    go_wp2_with fail
    refine hDf.out.mono ?_
    rintro e w2 ⟨rfl, hb2⟩
    replace hB := Lib.hid (hB.out.trans (hb2.mono hB.out.size))
    clear hb2
    go_wp2_with fail
    go_ret
    exact ⟨rfl, hB.out⟩
  | true =>
    rw [hdb] at hDf
    have hd := Lib.hid ((diffB_iff _).1 hdb)
    clear hdb
    have hl0i : ¬ (l.length : Int) = 0 := by omega
    have hl0b : ((l.length : Int) == 0) = false := by simpa using hl0i
    obtain ⟨k, hk⟩ : ∃ k, k = tn % l.length := ⟨_, rfl⟩
    have hkl : k < l.length := by rw [hk]; exact Nat.mod_lt _ (by omega)
    have hkm : (tn : Int).tmod (l.length : Int) = (k : Int) := by rw [hk, Int.tmod_eq_emod_of_nonneg (by omega)]; omega
    replace hk := Lib.hid hk
    obtain ⟨b, off, hA, hbw, -⟩ := hRh.out (by omega)
    subst hA
    go_wp2_with fail
    refine hDf.out.mono ?_
    rintro e w4 ⟨rfl, hb2⟩
    replace hB := Lib.hid (hB.out.trans (hb2.mono hB.out.size))
    clear hb2 hDf
    go_upto_region 6 with fail
    have hcap : k < c := by omega
    have hsf := Lib.hid (slice_from_pt b off l.length c k (by omega) hcap)
    have hst := Lib.hid (slice_to_pt b off l.length c k (by omega))
    have hRw := hRh.out.step hB.out
    have hbw4 : b < w4.heap.size := Nat.lt_of_lt_of_le hbw hB.out.size
    have hPd : Hid (∀ W, Below w4.heap.size w4 W → PR W (fun b => b < w4.heap.size) (some ⟨b, off + k * 2, none⟩) (l.drop k)) := fun W hW => (hRw.keep (Kept.below hW)).drop k
    have hPt : Hid (∀ W, Below w4.heap.size w4 W → PR W (fun b => b < w4.heap.size) (some ⟨b, off, none⟩) (l.take k)) := fun W hW => (hRw.keep (Kept.below hW)).take k
    refine wp_region_pre 8 2 (fun W => Below w4.heap.size w4 W) (fun W W' => Below W.heap.size W W')
      (fun i v W => match i with
        | 0 => ∃ g, v = .slice (some ⟨g, 0, none⟩) 0 0
        | 1 => v = .slice (some ⟨b, off, none⟩) l.length c
        | 2 => v = .int .i64 (k : Int)
        | 3 => v = .slice (some ⟨b, off + k * 2, none⟩) (l.length - k) (c - k)
        | 4 => ∃ u, v = u ∧ OPt w4 u (l.drop k) W
        | 5 => v = .slice (some ⟨b, off, none⟩) l.length c
        | 6 => v = .int .i64 (k : Int)
        | 7 => v = .slice (some ⟨b, off, none⟩) k c
        | _ => True) (fun _ => false)
      (by kernel_rfl) (by kernel_rfl) (by kernel_rfl) (by kernel_rfl) (by kernel_rfl) (by kernel_rfl) (by kernel_rfl) ?_ (fun _ _ h => h.size) (dN (Below.refl _ _) 1) ?_ ?_
    · intro i v W W' hb hF
      match i, hF with
      | 0, h => exact h
      | 1, h => exact h
      | 2, h => exact h
      | 3, h => exact h
      | 4, ⟨u, h1, h2⟩ => exact ⟨u, h1, h2.step hb⟩
      | 5, h => exact h
      | 6, h => exact h
      | 7, h => exact h
      | _ + 8, _ => trivial
    · refine ⟨?_, ?_, ?_, ?_, ?_, ?_, ?_, ?_, trivial⟩
      · refine stepJ_any rfl fun ac W hAA hG hDD K hK => ?_
        rw [if_pos (by rfl)]
        exact wp_val (v := .slice (some ⟨W.heap.size, 0, none⟩) 0 0) (w' := W.alloc (.cells #[] 35)) (by simp [execOp, Act.eval, go_sem]) (hK _ _ (hG.alloc hG.size _) (bel1 W _) ⟨_, rfl⟩ (fun h => by cases h))
      · refine stepJ_any rfl fun ac W hAA hG hDD K hK => ?_
        have h0 := hAA.getD (t := 0) (by kernel_rfl)
        simp only [Array.getD_eq_getD_getElem?] at h0
        rw [if_pos (by rfl)]
        exact wp_val (v := .slice (some ⟨b, off, none⟩) l.length c) (w' := W) (by simp [execOp, Act.eval, h0, go_sem]) (hK _ _ hG (Below.refl _ _) rfl (fun h => by cases h))
      · refine stepJ_any rfl fun ac W hAA hG hDD K hK => ?_
        have h9 := hAA.getD (t := 9) (by kernel_rfl)
        simp only [Array.getD_eq_getD_getElem?] at h9
        rw [if_pos (by rfl)]
        exact wp_val (v := .int .i64 (k : Int)) (w' := W) (by simp [execOp, Act.eval, h9, go_sem]) (hK _ _ hG (Below.refl _ _) rfl (fun h => by cases h))
      · refine stepJ_any rfl fun ac W hAA hG hDD K hK => ?_
        have h41 := hDD.get 1 41 _ rfl rfl (by kernel_rfl)
        have h42 := hDD.get 2 42 _ rfl rfl (by kernel_rfl)
        simp only [Array.getD_eq_getD_getElem?] at h41 h42
        have hs := hsf.out W
        rw [if_pos (by rfl)]
        exact wp_val (v := .slice (some ⟨b, off + k * 2, none⟩) (l.length - k) (c - k)) (w' := W) (by simp [execOp, Act.eval, h41, h42, go_sem, hs]) (hK _ _ hG (Below.refl _ _) rfl (fun h => by cases h))
      · refine stepJ_any rfl fun ac W hAA hG hDD K hK => ?_
        obtain ⟨g0, h40⟩ := hDD.get 0 40 _ rfl rfl (by kernel_rfl)
        have h43 := hDD.get 3 43 _ rfl rfl (by kernel_rfl)
        rw [if_pos (by rfl)]
        obtain ⟨v', W3, hr3, hO3⟩ := OPt.fresh (w0 := w4) 31 g0 (c := c - k) (hPd.out W hG) (by rw [List.length_drop]; omega) (by rw [List.length_drop]; omega) hG
        rw [List.length_drop] at hr3
        exact Lib.wp_append_run W (.tmp 40) (.tmp 43) 31 31 rfl _ _ h40 h43 _ W3 hr3 (hK _ _ (hG.trans (hO3.1.mono hG.size)) hO3.1 ⟨_, rfl, hO3.2⟩ (fun h => by cases h))
      · refine stepJ_any rfl fun ac W hAA hG hDD K hK => ?_
        have h0 := hAA.getD (t := 0) (by kernel_rfl)
        simp only [Array.getD_eq_getD_getElem?] at h0
        rw [if_pos (by rfl)]
        exact wp_val (v := .slice (some ⟨b, off, none⟩) l.length c) (w' := W) (by simp [execOp, Act.eval, h0, go_sem]) (hK _ _ hG (Below.refl _ _) rfl (fun h => by cases h))
      · refine stepJ_any rfl fun ac W hAA hG hDD K hK => ?_
        have h9 := hAA.getD (t := 9) (by kernel_rfl)
        simp only [Array.getD_eq_getD_getElem?] at h9
        rw [if_pos (by rfl)]
        exact wp_val (v := .int .i64 (k : Int)) (w' := W) (by simp [execOp, Act.eval, h9, go_sem]) (hK _ _ hG (Below.refl _ _) rfl (fun h => by cases h))
      · refine stepJ_any rfl fun ac W hAA hG hDD K hK => ?_
        have h45 := hDD.get 5 45 _ rfl rfl (by kernel_rfl)
        have h46 := hDD.get 6 46 _ rfl rfl (by kernel_rfl)
        simp only [Array.getD_eq_getD_getElem?] at h45 h46
        have hs := hst.out W
        rw [if_pos (by rfl)]
        exact wp_val (v := .slice (some ⟨b, off, none⟩) k c) (w' := W) (by simp [execOp, Act.eval, h45, h46, go_sem, hs]) (hK _ _ hG (Below.refl _ _) rfl (fun h => by cases h))
    intro fu T w9 hG hF hne hltb
    obtain ⟨g0, e40⟩ := hF 0 _ rfl (by omega)
    replace e40 : T 40 = _ := e40
    have e41 : T 41 = .slice (some ⟨b, off, none⟩) l.length c := hF 1 _ rfl (by omega)
    have e42 : T 42 = .int .i64 (k : Int) := hF 2 _ rfl (by omega)
    have e43 : T 43 = .slice (some ⟨b, off + k * 2, none⟩) (l.length - k) (c - k) := hF 3 _ rfl (by omega)
    obtain ⟨u4, e44, hO4⟩ := hF 4 _ rfl (by omega)
    replace e44 : T 44 = _ := e44
    have e45 : T 45 = .slice (some ⟨b, off, none⟩) l.length c := hF 5 _ rfl (by omega)
    have e46 : T 46 = .int .i64 (k : Int) := hF 6 _ rfl (by omega)
    have e47 : T 47 = .slice (some ⟨b, off, none⟩) k c := hF 7 _ rfl (by omega)
    clear hF hne hltb
    simp only [List.take, fillT, List.setIfInBounds_toArray, List.set_cons_zero, List.set_cons_succ, e40, e41, e42, e43, e44, e45, e46, e47]
    clear e40 e41 e42 e43 e44 e45 e46 e47
    have hlt := Lib.hid (show (l.take k).length = k by rw [List.length_take]; omega)
    obtain ⟨v10, w10, hr10, hO10⟩ := hO4.app 31 (c := c) (hPt.out w9 hG) (by rw [List.length_drop, hlt.out]; omega) hG.size
    rw [hlt.out] at hr10
    refine wpAny_ready (rs := [8]) (by kernel_rfl) (by simp) (AllReady.cons (o := ⟨(some 48), (Op.call { callee := (Callee.builtin Builtin.append), args := #[(Operand.tmp 44), (Operand.tmp 47)], argTypes := #[31, 31] }), _, _, _, none⟩) rfl (fun K1 hK1 => ?_) AllReady.nil)
    rw [if_pos (by rfl)]
    refine Lib.wp_append_run w9 (.tmp 44) (.tmp 47) 31 31 rfl _ _ rfl rfl _ w10 hr10 ?_
    refine hK1 _ _ ?_
    clear hK1 K1
    refine wpAny_ready (rs := [9]) (by kernel_rfl) (by simp) (AllReady.cons (o := ⟨(some 10), (Op.assign (Operand.tmp 48)), _, _, _, none⟩) rfl (fun K1 hK1 => ?_) AllReady.nil)
    rw [if_pos (by rfl)]
    refine wp_val (v := v10) (w' := w10) (by simp [execOp, Act.eval, go_sem, Act.put]) ?_
    refine hK1 _ _ ?_
    clear hK1 K1
    refine wpAny_done (by kernel_rfl) ?_ _
    simp only [Act.put, List.setIfInBounds_toArray, List.set_cons_zero, List.set_cons_succ]
    have hat := Lib.hid (show atE l = 0 from (atV_good (by omega) hd.out t).1)
    have htat := Lib.hid (turned_at hd.out (by omega) k t)
    obtain ⟨At, ct, hv10, -, hPo⟩ := hO10.reads
    have hlenD : (l.drop k ++ l.take k).length = l.length := by rw [List.length_append, List.length_drop, hlt.out]; omega
    rw [hlenD] at hv10
    subst hv10
    replace hlenD := Lib.hid hlenD
    have hB10 := Lib.hid (hB.out.trans (hO10.bel.mono hB.out.size))
    obtain ⟨av, hav⟩ : ∃ av, atV l t = av := ⟨_, rfl⟩
    obtain ⟨ax, hax⟩ : ∃ ax, atV l x = ax := ⟨_, rfl⟩
    have hI64 : I64 ax := by
      rw [← hax, (atV_good (by omega) hd.out x).2]
      exact I64.md _
    replace hav := Lib.hid hav
    replace hax := Lib.hid hax
    have hA1 := Lib.hid (At_eq2 ⟨hav.out, hat.out⟩ hl hth.out w10 (some ⟨b, off, none⟩) c (hRh.out.step hB10.out))
    replace hPo := Lib.hid hPo
    clear hr10 hO10 hO4 hsf hst hPd hPt hG
    go_wp2_with fail
    refine hA1.out.mono ?_
    rintro e w11 ⟨rfl, hb3⟩
    replace hB10 := Lib.hid (hB10.out.trans (hb3.mono hB10.out.size))
    have hA2 := Lib.hid (At_eq (n := l.length) hlenD.out ⟨htat.out.1.trans hav.out, htat.out.2⟩ (by rw [hlenD.out]; exact hl) hth.out w11 At ct (hPo.out.step hb3))
    clear hA1 hPo hb3
    go_wp2_with fail
    refine hA2.out.mono ?_
    rintro e w12 ⟨rfl, hb3⟩
    replace hB10 := Lib.hid (hB10.out.trans (hb3.mono hB10.out.size))
    have hA3 := Lib.hid (At_eq2 (t := x) ⟨hax.out, hat.out⟩ hl hxh.out w12 (some ⟨b, off, none⟩) c (hRh.out.step hB10.out))
    clear hA2 hb3
    go_wp2_with fail
    refine hA3.out.mono ?_
    rintro e w13 ⟨rfl, hb3⟩
    replace hB10 := Lib.hid (hB10.out.trans (hb3.mono hB10.out.size))
    clear hA3 hb3
    go_upto_region 12 with fail
    have hR13 := hRh.out.step hB10.out
    obtain ⟨v14, W14, hr14, hb14, hO14⟩ := OPt.fresh (w0 := w13) (w := w13.alloc (.cells #[] 35)) 31 w13.heap.size (c := c) (hR13.keep (Kept.below (bel1 w13 _))) (by omega) (by omega) (bel1 w13 _)
    have hx15 := World.alloc_heap_new W14 (.cells #[.int .i64 x, .int .i64 ax] 35)
    obtain ⟨v16, W16, hr16, hO16⟩ := (hO14.step (bel1 W14 (.cells #[.int .i64 x, .int .i64 ax] 35))).app 31 (c := 1) (PR.one hx15 hxh.out hI64) (by rw [List.length_singleton]; omega) (Nat.le_trans hO14.bel.size (by simp))
    rw [List.length_singleton] at hr16
    obtain ⟨Am, cm, hv16, -, hPm⟩ := hO16.reads
    have hlenM : (l ++ [(x, ax)]).length = l.length + 1 := by rw [List.length_append, List.length_singleton]
    rw [hlenM] at hv16
    subst hv16
    have hB16 := Lib.hid (hB10.out.trans (hO16.bel.mono hB10.out.size))
    replace hPm := Lib.hid hPm
    replace hlenM := Lib.hid hlenM
    replace hr14 := Lib.hid hr14
    replace hr16 := Lib.hid hr16
    clear hx15 hO14 hO16 hb14 hR13
    cases hdm : diffB ((l ++ [(x, ax)]).map Prod.fst) with
    | true =>
      have hat2 : atV (l ++ [(x, ax)]) t = av ∧ atE (l ++ [(x, ax)]) = 0 := by
        have := more_at (x := x) hd.out (by rw [hax.out]; exact (diffB_iff _).1 hdm) (by omega) t
        rw [hax.out] at this
        exact ⟨this.1.trans hav.out, this.2⟩
      have hAm := Lib.hid (At_eq (n := l.length + 1) hlenM.out hat2 (by rw [hlenM.out]; omega) hth.out W16 Am cm hPm.out)
      clear hat2
      go_wp2_with (first
        | (at_builtin; refine Lib.wpList_append_run _ rfl _ _ _ _ rfl _ _ rfl rfl _ _ hr14.out ?_)
        | (at_builtin; refine Lib.wpList_append_run _ rfl _ _ _ _ rfl _ _ rfl rfl _ _ hr16.out ?_))
      refine hAm.out.mono ?_
      rintro e w17 ⟨rfl, hb3⟩
      replace hB16 := Lib.hid (hB16.out.trans (hb3.mono hB16.out.size))
      have hDm := Different_any (l ++ [(x, ax)]) (by rw [hlenM.out]; omega) w17 Am cm (hPm.out.step hb3)
      rw [hlenM.out, hdm] at hDm
      replace hDm := Lib.hid hDm
      clear hb3 hdm hAm
      go_wp2_with fail
      refine hDm.out.mono ?_
      rintro e w18 ⟨rfl, hb3⟩
      replace hB16 := Lib.hid (hB16.out.trans (hb3.mono hB16.out.size))
      clear hb3
      go_wp2_with fail
      go_ret
      exact ⟨rfl, hB16.out⟩
    | false =>
      have hAm := Lib.hid (At_eq (n := l.length + 1) hlenM.out (more_bad hdm (by rw [hlenM.out]; omega) t) (by rw [hlenM.out]; omega) hth.out W16 Am cm hPm.out)
      go_wp2_with (first
        | (at_builtin; refine Lib.wpList_append_run _ rfl _ _ _ _ rfl _ _ rfl rfl _ _ hr14.out ?_)
        | (at_builtin; refine Lib.wpList_append_run _ rfl _ _ _ _ rfl _ _ rfl rfl _ _ hr16.out ?_))
      refine hAm.out.mono ?_
      rintro e w17 ⟨rfl, hb3⟩
      replace hB16 := Lib.hid (hB16.out.trans (hb3.mono hB16.out.size))
      have hDm := Different_any (l ++ [(x, ax)]) (by rw [hlenM.out]; omega) w17 Am cm (hPm.out.step hb3)
      rw [hlenM.out, hdm] at hDm
      replace hDm := Lib.hid hDm
      clear hb3 hdm hAm
      go_wp2_with fail
      refine hDm.out.mono ?_
      rintro e w18 ⟨rfl, hb3⟩
      replace hB16 := Lib.hid (hB16.out.trans (hb3.mono hB16.out.size))
      clear hb3
      go_wp2_with fail
      go_ret
      exact ⟨rfl, hB16.out⟩
end Go.Proofs.Ytfblkkdoijfpfaa
