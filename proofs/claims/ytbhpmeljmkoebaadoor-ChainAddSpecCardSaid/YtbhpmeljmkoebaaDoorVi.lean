/- Part. -/
import Derived.Test.YtbhpmeljmkoebaaDoorVh
namespace Go.Proofs.YtbhpmeljmkoebaaDoor
open Go.RowKit

/-- Are there links of different nodes? -/
def apartN (la lb : List Lk) : Bool := match la with | [] => false | x :: _ => !belongsP lb x.node
def partN (la lb : List Lk) : Nat := min la.length lb.length
def partV (la lb : List Lk) : Array Value := if chkP la = 0 then (if chkP lb = 0 then (if apartN la lb = true then #[.int .i64 0, .bool false, .int .i64 80] else (firstV (firstD la lb (partN la lb))).push (.int .i64 0)) else #[.int .i64 0, .bool false, .int .i64 (chkP lb)]) else #[.int .i64 0, .bool false, .int .i64 (chkP la)]
theorem chk_cases (l : List Lk) : chkP l = 0 ∨ chkP l = 80 := by
  unfold chkP
  split
  · exact .inl rfl
  · exact .inr rfl
theorem difAt_take {la lb : List Lk} {n i : Nat} (h : i < n) : difAt (la.take n) lb i = difAt la lb i := by
  unfold difAt
  rw [List.getElem?_take_of_lt h]
theorem firstD_take (la lb : List Lk) (n : Nat) : firstD (la.take n) lb n = firstD la lb n := by
  cases h : firstD la lb n with
  | none =>
    have h' := List.find?_eq_none.1 h
    exact firstD_none fun i hi => by rw [difAt_take hi]; have := h' i (List.mem_range.2 hi); simpa using this
  | some k =>
    unfold firstD at h
    have hk := List.mem_range.1 (List.mem_of_find?_eq_some h)
    have hd := List.find?_some h
    refine firstD_some hk (fun i hi => ?_) (by rw [difAt_take hk]; exact hd)
    rw [difAt_take (by omega)]
    rw [List.find?_eq_some_iff_append] at h
    obtain ⟨-, us, vs, he, hno⟩ := h
    have hl : us.length = k := by
      have h1 : (List.range n)[us.length]? = some k := by rw [he]; simp
      rw [List.getElem?_range (by have := congrArg List.length he; simp at this; omega)] at h1
      simpa using h1
    have : i ∈ us := by
      have h2 : (List.range n)[i]? = some i := List.getElem?_range (by omega)
      rw [he, List.getElem?_append_left (by omega)] at h2
      exact List.mem_of_getElem? h2
    simpa using hno i this

set_option maxRecDepth 100000 in
set_option maxHeartbeats 4000000 in
theorem Part_any (la lb : List Lk) (hla : Short la) (hlb : Short lb) (hma : la.length ≤ 1024) (hmb : lb.length ≤ 1024) (w : World) (a B : Option Addr) (ca cb : Nat) (hQa : QL w w.heap.size la a ca) (hQb : QL w w.heap.size lb B cb) (hKT : KT w) (h0 : 0 < w.heap.size) :
    Calls Tryd.prog 12 #[.slice a la.length ca, .slice B lb.length cb] w fun e w' => e = .returned (.tuple (partV la lb)) ∧ Below w.heap.size w w' := by
  have hb0 := bel1 w (.cells #[.slice B lb.length cb] 22)
  have hbx := heap_alloc_new w (.cells #[.slice B lb.length cb] 22)
  have hp : Hid (partV la lb = if chkP la = 0 then (if chkP lb = 0 then (if apartN la lb = true then #[.int .i64 0, .bool false, .int .i64 80] else (firstV (firstD la lb (partN la lb))).push (.int .i64 0)) else #[.int .i64 0, .bool false, .int .i64 (chkP lb)]) else #[.int .i64 0, .bool false, .int .i64 (chkP la)]) := rfl
  generalize partV la lb = pv at hp ⊢
  have hCa : Hid (∀ W, Below w.heap.size w W → Calls Tryd.prog 16 #[.slice a la.length ca] W fun e w' => e = .returned (.int .i64 (chkP la)) ∧ Below W.heap.size W w') := fun W hW => Check_any la hla hma W a ca (hQa.lift hW hW.size) (hKT.below hW h0) (Nat.lt_of_lt_of_le h0 hW.size)
  have hCb : Hid (∀ W, Below w.heap.size w W → Calls Tryd.prog 16 #[.slice B lb.length cb] W fun e w' => e = .returned (.int .i64 (chkP lb)) ∧ Below W.heap.size W w') := fun W hW => Check_any lb hlb hmb W B cb (hQb.lift hW hW.size) (hKT.below hW h0) (Nat.lt_of_lt_of_le h0 hW.size)
  replace hQa := Lib.hid hQa
  replace hQb := Lib.hid hQb
  clear hKT h0
  have hb0H := Lib.hid hb0
  replace hbx := Lib.hid hbx
  rcases chk_cases la with c1 | c1
  case inr =>
    rw [c1] at hCa
    rw [c1, if_neg (by decide)] at hp
    clear c1 hb0
    go_enter Tryd.func12, Tryd.ntmps12
    go_wp2_with fail
    refine (hCa.out _ hb0H.out).mono ?_
    rintro e w1 ⟨rfl, hb1⟩
    have hB := Lib.hid (hb0H.out.trans (hb1.mono hb0H.out.size))
    clear hb1
    go_wp2_with fail
    go_ret3
    exact ⟨by rw [hp.out]; rfl, hB.out⟩
  rw [c1] at hCa
  rw [c1, if_pos rfl] at hp
  rcases chk_cases lb with c2 | c2
  case inr =>
    rw [c2] at hCb
    rw [c2, if_neg (by decide)] at hp
    clear c1 c2 hb0
    go_enter Tryd.func12, Tryd.ntmps12
    go_wp2_with fail
    refine (hCa.out _ hb0H.out).mono ?_
    rintro e w1 ⟨rfl, hb1⟩
    have hB := Lib.hid (hb0H.out.trans (hb1.mono hb0H.out.size))
    have hx1 := Lib.hid (blk_at hbx.out hb1)
    have hcx := cellAt (i := 0) hx1.out rfl
    clear hb1
    go_wp2_with fail
    refine (hCb.out _ hB.out).mono ?_
    rintro e w2 ⟨rfl, hb2⟩
    replace hB := Lib.hid (hB.out.trans (hb2.mono hB.out.size))
    clear hb2 hcx
    go_wp2_with fail
    go_ret3
    exact ⟨by rw [hp.out]; rfl, hB.out⟩
  rw [c2] at hCb
  rw [c2, if_pos rfl] at hp
  clear c1 c2 hb0
  go_enter Tryd.func12, Tryd.ntmps12
  go_wp2_with fail
  refine (hCa.out _ hb0H.out).mono ?_
  rintro e w1 ⟨rfl, hb1⟩
  have hB := Lib.hid (hb0H.out.trans (hb1.mono hb0H.out.size))
  have hx1 := Lib.hid (blk_at hbx.out hb1)
  have hcx := cellAt (i := 0) hx1.out rfl
  clear hb1
  go_wp2_with fail
  refine (hCb.out _ hB.out).mono ?_
  rintro e V ⟨rfl, hb2⟩
  replace hB := Lib.hid (hB.out.trans (hb2.mono hB.out.size))
  have hx2 := Lib.hid (blk_at hx1.out hb2)
  clear hb2 hcx hx1 hCa hCb
  have hc0 : Hid (∀ W, Below V.heap.size V W → W.cell? ⟨w.heap.size, 0, none⟩ = some (.slice B lb.length cb)) := fun W hW => cellAt (i := 0) (blk_at hx2.out hW) rfl
  go_upto_region 7 with fail
  obtain ⟨M, hM⟩ : ∃ M, min la.length lb.length = M := ⟨_, rfl⟩
  have hfirst : Hid (∀ W, Below w.heap.size w W → W.heap[w.heap.size]? = some (.cells #[.slice B lb.length cb] 22 (0, 0)) → Calls Tryd.prog 26 #[.slice a M ca, .func (.func 27) #[] #[.pointer (some ⟨w.heap.size, 0, none⟩)]] W fun e w' => e = .returned (.tuple (firstV (firstD la lb M))) ∧ Below W.heap.size W w') := fun W hW hx => by
    have hl : (la.take M).length = M := by rw [List.length_take]; omega
    have hq : QL W W.heap.size (la.take M) a ca := (hQa.out.lift hW hW.size).cut (by omega) (Nat.le_trans (by omega) hQa.out.1) (Nat.le_refl _) id (.inl rfl)
    have := first_any (la.take M) lb (by omega) (by omega) W a B ca cb w.heap.size (Array.getElem?_eq_some_iff.1 hx).1 (cellAt (i := 0) hx rfl) hq (hQb.out.lift hW hW.size)
    rwa [hl, firstD_take] at this
  have hpn : partN la lb = M := hM
  rw [hpn] at hp
  have hsl := fun W => slice_to a la.length ca M (Nat.le_trans (by omega) hQa.out.1) W
  have hmin : min (la.length : Int) (lb.length : Int) = (M : Int) := by omega
  have hmle : M ≤ la.length := by omega
  clear hM hpn
  cases hap : apartN la lb with
  | true =>
    rw [hap, if_pos rfl] at hp
    cases la with
    | nil => cases hap
    | cons x r =>
      replace hap : belongsP lb x.node = false := by simpa [apartN] using hap
      obtain ⟨b, off, da, dc, rfl, hbB, hr, -⟩ := (hQa.out.lift hB.out hB.out.size).at_ (i := 0) (by simp)
      have hx0 := (range_parts (hQa.out.fine x (by simp)).prev (x := x) hr).1
      rw [Nat.zero_mul, Nat.add_zero] at hx0
      have hc1 : Hid (∀ W, Below V.heap.size V W → W.cell? ⟨b, off, none⟩ = some (.int .i64 x.node)) := fun W hW => (hW.cell (p := ⟨b, off, none⟩) hbB).trans hx0
      have hbel : Hid (∀ W, Below V.heap.size V W → Calls Tryd.prog 21 #[.slice B lb.length cb, .int .i64 x.node] W fun e w' => e = .returned (.bool false) ∧ Below W.heap.size W w') := fun W hW => by
        have hb := hB.out.trans (hW.mono hB.out.size)
        have := belongs_any lb x.node W _ B cb (hQb.out.lift hb hb.size)
        rwa [hap] at this
      have hN0 : (0 : Int) < (x :: r).length := by rw [List.length_cons]; omega
      have hNn : 0 < (x :: r).length := by rw [List.length_cons]; omega
      clear hx0 hr hap hQa hfirst hsl hmin hmle
      generalize (x :: r).length = N at *
      generalize x.node = n0 at *
      refine wp_region_pre 12 0 (fun W => Below V.heap.size V W) (fun W W' => Below W.heap.size W W')
        (fun i v W => match i with
          | 0 => v = .slice (some ⟨b, off, none⟩) N ca
          | 1 => v = .int .i64 (N : Int)
          | 2 => v = .bool true
          | 3 => v = .bool true
          | 4 => v = .slice B lb.length cb
          | 5 => v = .slice (some ⟨b, off, none⟩) N ca
          | 6 => v = .pointer (some ⟨b, off, none⟩)
          | 7 => v = .pointer (some ⟨b, off, none⟩)
          | 8 => v = .int .i64 n0
          | 9 => v = .bool false
          | 10 => v = .bool true
          | 11 => v = .bool true
          | _ => True) (fun _ => false)
        (by kernel_rfl) (by kernel_rfl) (by kernel_rfl) (by kernel_rfl) (by kernel_rfl) (by kernel_rfl) (by kernel_rfl) ?_ (fun _ _ h => h.size) (dN (Below.refl _ _) 1) ?_ ?_
      · intro i v W W' hb hF
        match i, hF with
        | 0, h => exact h
        | 1, h => exact h
        | 2, h => exact h
        | 3, h => exact h
        | 4, h => exact h
        | 5, h => exact h
        | 6, h => exact h
        | 7, h => exact h
        | 8, h => exact h
        | 9, h => exact h
        | 10, h => exact h
        | 11, h => exact h
        | _ + 12, _ => trivial
      · refine ⟨?_, ?_, ?_, ?_, ?_, ?_, ?_, ?_, ?_, ?_, ?_, ?_, trivial⟩
        · refine stepJ_any rfl fun ac W hAA hG hDD K hK => ?_
          have h0 := hAA.getD (t := 0) (by kernel_rfl)
          simp only [Array.getD_eq_getD_getElem?] at h0
          rw [if_pos (by rfl)]
          exact wp_val (v := .slice (some ⟨b, off, none⟩) N ca) (w' := W) (by simp [execOp, Act.eval, h0, go_sem]) (hK _ _ hG (Below.refl _ _) rfl (fun h => by cases h))
        · refine stepJ_any rfl fun ac W hAA hG hDD K hK => ?_
          have h18 := hDD.get 0 18 _ rfl rfl (by kernel_rfl)
          simp only [Array.getD_eq_getD_getElem?] at h18
          rw [if_pos (by rfl)]
          exact wp_val (v := .int .i64 (N : Int)) (w' := W) (by simp [execOp, Act.eval, h18, go_sem]) (hK _ _ hG (Below.refl _ _) rfl (fun h => by cases h))
        · refine stepJ_any rfl fun ac W hAA hG hDD K hK => ?_
          have h19 := hDD.get 1 19 _ rfl rfl (by kernel_rfl)
          simp only [Array.getD_eq_getD_getElem?] at h19
          rw [if_pos (by rfl)]
          exact wp_val (v := .bool true) (w' := W) (by simp [execOp, Act.eval, h19, go_sem, hN0, hNn]) (hK _ _ hG (Below.refl _ _) rfl (fun h => by cases h))
        · refine stepJ_any rfl fun ac W hAA hG hDD K hK => ?_
          have h20 := hDD.get 2 20 _ rfl rfl (by kernel_rfl)
          simp only [Array.getD_eq_getD_getElem?] at h20
          rw [if_pos (by rfl)]
          exact wp_val (v := .bool true) (w' := W) (by simp [execOp, Act.eval, h20, go_sem]) (hK _ _ hG (Below.refl _ _) rfl (fun h => by cases h))
        · refine stepJ_any rfl fun ac W hAA hG hDD K hK => ?_
          have h3 := hAA.getD (t := 3) (by kernel_rfl)
          have hgd := hDD.get 3 21 _ rfl rfl (by kernel_rfl)
          have hgd := slot_bool hgd
          simp only [Array.getD_eq_getD_getElem?] at h3
          have m0 := hc0.out W hG
          rw [if_pos (by simp [Region.wanted, yielded, hgd])]
          exact wp_val (v := .slice B lb.length cb) (w' := W) (by simp [execOp, Act.eval, h3, go_sem, m0]) (hK _ _ hG (Below.refl _ _) rfl (fun h => by cases h))
        · refine stepJ_any rfl fun ac W hAA hG hDD K hK => ?_
          have h0 := hAA.getD (t := 0) (by kernel_rfl)
          have hgd := hDD.get 3 21 _ rfl rfl (by kernel_rfl)
          have hgd := slot_bool hgd
          simp only [Array.getD_eq_getD_getElem?] at h0
          rw [if_pos (by simp [Region.wanted, yielded, hgd])]
          exact wp_val (v := .slice (some ⟨b, off, none⟩) N ca) (w' := W) (by simp [execOp, Act.eval, h0, go_sem]) (hK _ _ hG (Below.refl _ _) rfl (fun h => by cases h))
        · refine stepJ_any rfl fun ac W hAA hG hDD K hK => ?_
          have h23 := hDD.get 5 23 _ rfl rfl (by kernel_rfl)
          have hgd := hDD.get 3 21 _ rfl rfl (by kernel_rfl)
          have hgd := slot_bool hgd
          simp only [Array.getD_eq_getD_getElem?] at h23
          rw [if_pos (by simp [Region.wanted, yielded, hgd])]
          exact wp_val (v := .pointer (some ⟨b, off, none⟩)) (w' := W) (by simp [execOp, Act.eval, h23, go_sem, hN0, hNn]) (hK _ _ hG (Below.refl _ _) rfl (fun h => by cases h))
        · refine stepJ_any rfl fun ac W hAA hG hDD K hK => ?_
          have h24 := hDD.get 6 24 _ rfl rfl (by kernel_rfl)
          have hgd := hDD.get 3 21 _ rfl rfl (by kernel_rfl)
          have hgd := slot_bool hgd
          simp only [Array.getD_eq_getD_getElem?] at h24
          rw [if_pos (by simp [Region.wanted, yielded, hgd])]
          exact wp_val (v := .pointer (some ⟨b, off, none⟩)) (w' := W) (by simp [execOp, Act.eval, h24, go_sem]) (hK _ _ hG (Below.refl _ _) rfl (fun h => by cases h))
        · refine stepJ_any rfl fun ac W hAA hG hDD K hK => ?_
          have h25 := hDD.get 7 25 _ rfl rfl (by kernel_rfl)
          have hgd := hDD.get 3 21 _ rfl rfl (by kernel_rfl)
          have hgd := slot_bool hgd
          simp only [Array.getD_eq_getD_getElem?] at h25
          have m1 := hc1.out W hG
          rw [if_pos (by simp [Region.wanted, yielded, hgd])]
          exact wp_val (v := .int .i64 n0) (w' := W) (by simp [execOp, Act.eval, h25, go_sem, m1]) (hK _ _ hG (Below.refl _ _) rfl (fun h => by cases h))
        · refine stepJ_any rfl fun ac W hAA hG hDD K hK => ?_
          have h22 := hDD.get 4 22 _ rfl rfl (by kernel_rfl)
          have h26 := hDD.get 8 26 _ rfl rfl (by kernel_rfl)
          have hgd := hDD.get 3 21 _ rfl rfl (by kernel_rfl)
          have hgd := slot_bool hgd
          simp only [Array.getD_eq_getD_getElem?] at h22 h26
          rw [if_pos (by simp [Region.wanted, yielded, hgd])]
          refine wp_call (f := 21) (args := #[.slice B lb.length cb, .int .i64 n0]) (by simp [execOp, Act.eval, h22, h26, go_sem]) ((hbel.out W hG).mono fun e W9 he => ?_)
          obtain ⟨rfl, hbw⟩ := he
          exact hK _ _ (hG.trans (hbw.mono hG.size)) hbw rfl (fun h => by cases h)
        · refine stepJ_any rfl fun ac W hAA hG hDD K hK => ?_
          have h27 := hDD.get 9 27 _ rfl rfl (by kernel_rfl)
          have hgd := hDD.get 3 21 _ rfl rfl (by kernel_rfl)
          have hgd := slot_bool hgd
          simp only [Array.getD_eq_getD_getElem?] at h27
          rw [if_pos (by simp [Region.wanted, yielded, hgd])]
          exact wp_val (v := .bool true) (w' := W) (by simp [execOp, Act.eval, h27, go_sem]) (hK _ _ hG (Below.refl _ _) rfl (fun h => by cases h))
        · refine stepJ_any rfl fun ac W hAA hG hDD K hK => ?_
          have h21 := hDD.get 3 21 _ rfl rfl (by kernel_rfl)
          have h28 := hDD.get 10 28 _ rfl rfl (by kernel_rfl)
          simp only [Array.getD_eq_getD_getElem?] at h21 h28
          rw [if_pos (by rfl)]
          exact wp_val (v := .bool true) (w' := W) (by simp [execOp, Act.eval, h21, h28, go_sem]) (hK _ _ hG (Below.refl _ _) rfl (fun h => by cases h))
      intro fu T W9 hG hF hne hltb
      have e18 : T 18 = .slice (some ⟨b, off, none⟩) N ca := hF 0 _ rfl (by omega)
      have e19 : T 19 = .int .i64 (N : Int) := hF 1 _ rfl (by omega)
      have e20 : T 20 = .bool true := hF 2 _ rfl (by omega)
      have e21 : T 21 = .bool true := hF 3 _ rfl (by omega)
      have e22 : T 22 = .slice B lb.length cb := hF 4 _ rfl (by omega)
      have e23 : T 23 = .slice (some ⟨b, off, none⟩) N ca := hF 5 _ rfl (by omega)
      have e24 : T 24 = .pointer (some ⟨b, off, none⟩) := hF 6 _ rfl (by omega)
      have e25 : T 25 = .pointer (some ⟨b, off, none⟩) := hF 7 _ rfl (by omega)
      have e26 : T 26 = .int .i64 n0 := hF 8 _ rfl (by omega)
      have e27 : T 27 = .bool false := hF 9 _ rfl (by omega)
      have e28 : T 28 = .bool true := hF 10 _ rfl (by omega)
      have e29 : T 29 = .bool true := hF 11 _ rfl (by omega)
      clear hF hne hltb
      simp only [List.take, fillT, List.setIfInBounds_toArray, List.set_cons_zero, List.set_cons_succ, e18, e19, e20, e21, e22, e23, e24, e25, e26, e27, e28, e29]
      clear e18 e19 e20 e21 e22 e23 e24 e25 e26 e27 e28 e29
      refine wpAny_done (by kernel_rfl) ?_ _
      replace hB := Lib.hid (hB.out.trans (hG.mono hB.out.size))
      clear hG hc0 hc1 hbel
      go_wp2_with fail
      go_ret3
      exact ⟨by rw [hp.out]; rfl, hB.out⟩
  | false =>
    rw [hap, if_neg (by decide)] at hp
    cases la with
    | nil =>
      obtain rfl : M = 0 := by simpa using hmle
      rw [show ([] : List Lk).length = 0 from rfl] at *
      clear hap
      refine wp_region_pre 12 0 (fun W => Below V.heap.size V W) (fun W W' => Below W.heap.size W W')
        (fun i v W => match i with
          | 0 => v = .slice a 0 ca
          | 1 => v = .int .i64 0
          | 2 => v = .bool false
          | 3 => v = .bool false
          | 4 => v = undef
          | 5 => v = undef
          | 6 => v = undef
          | 7 => v = undef
          | 8 => v = undef
          | 9 => v = undef
          | 10 => v = undef
          | 11 => v = .bool false
          | _ => True) (fun _ => false)
        (by kernel_rfl) (by kernel_rfl) (by kernel_rfl) (by kernel_rfl) (by kernel_rfl) (by kernel_rfl) (by kernel_rfl) ?_ (fun _ _ h => h.size) (dN (Below.refl _ _) 1) ?_ ?_
      · intro i v W W' hb hF
        match i, hF with
        | 0, h => exact h
        | 1, h => exact h
        | 2, h => exact h
        | 3, h => exact h
        | 4, h => exact h
        | 5, h => exact h
        | 6, h => exact h
        | 7, h => exact h
        | 8, h => exact h
        | 9, h => exact h
        | 10, h => exact h
        | 11, h => exact h
        | _ + 12, _ => trivial
      · refine ⟨?_, ?_, ?_, ?_, ?_, ?_, ?_, ?_, ?_, ?_, ?_, ?_, trivial⟩
        · refine stepJ_any rfl fun ac W hAA hG hDD K hK => ?_
          have h0 := hAA.getD (t := 0) (by kernel_rfl)
          simp only [Array.getD_eq_getD_getElem?] at h0
          rw [if_pos (by rfl)]
          exact wp_val (v := .slice a 0 ca) (w' := W) (by simp [execOp, Act.eval, h0, go_sem]) (hK _ _ hG (Below.refl _ _) rfl (fun h => by cases h))
        · refine stepJ_any rfl fun ac W hAA hG hDD K hK => ?_
          have h18 := hDD.get 0 18 _ rfl rfl (by kernel_rfl)
          simp only [Array.getD_eq_getD_getElem?] at h18
          rw [if_pos (by rfl)]
          exact wp_val (v := .int .i64 0) (w' := W) (by simp [execOp, Act.eval, h18, go_sem]) (hK _ _ hG (Below.refl _ _) rfl (fun h => by cases h))
        · refine stepJ_any rfl fun ac W hAA hG hDD K hK => ?_
          have h19 := hDD.get 1 19 _ rfl rfl (by kernel_rfl)
          simp only [Array.getD_eq_getD_getElem?] at h19
          rw [if_pos (by rfl)]
          exact wp_val (v := .bool false) (w' := W) (by simp [execOp, Act.eval, h19, go_sem]) (hK _ _ hG (Below.refl _ _) rfl (fun h => by cases h))
        · refine stepJ_any rfl fun ac W hAA hG hDD K hK => ?_
          have h20 := hDD.get 2 20 _ rfl rfl (by kernel_rfl)
          simp only [Array.getD_eq_getD_getElem?] at h20
          rw [if_pos (by rfl)]
          exact wp_val (v := .bool false) (w' := W) (by simp [execOp, Act.eval, h20, go_sem]) (hK _ _ hG (Below.refl _ _) rfl (fun h => by cases h))
        · refine stepJ_any rfl fun ac W hAA hG hDD K hK => ?_
          have hgd := hDD.get 3 21 _ rfl rfl (by kernel_rfl)
          have hgd := slot_bool hgd
          rw [if_neg (by simp [Region.wanted, yielded, hgd])]
          exact hK undef W hG (Below.refl _ _) rfl (fun h => by cases h)
        · refine stepJ_any rfl fun ac W hAA hG hDD K hK => ?_
          have hgd := hDD.get 3 21 _ rfl rfl (by kernel_rfl)
          have hgd := slot_bool hgd
          rw [if_neg (by simp [Region.wanted, yielded, hgd])]
          exact hK undef W hG (Below.refl _ _) rfl (fun h => by cases h)
        · refine stepJ_any rfl fun ac W hAA hG hDD K hK => ?_
          have hgd := hDD.get 3 21 _ rfl rfl (by kernel_rfl)
          have hgd := slot_bool hgd
          rw [if_neg (by simp [Region.wanted, yielded, hgd])]
          exact hK undef W hG (Below.refl _ _) rfl (fun h => by cases h)
        · refine stepJ_any rfl fun ac W hAA hG hDD K hK => ?_
          have hgd := hDD.get 3 21 _ rfl rfl (by kernel_rfl)
          have hgd := slot_bool hgd
          rw [if_neg (by simp [Region.wanted, yielded, hgd])]
          exact hK undef W hG (Below.refl _ _) rfl (fun h => by cases h)
        · refine stepJ_any rfl fun ac W hAA hG hDD K hK => ?_
          have hgd := hDD.get 3 21 _ rfl rfl (by kernel_rfl)
          have hgd := slot_bool hgd
          rw [if_neg (by simp [Region.wanted, yielded, hgd])]
          exact hK undef W hG (Below.refl _ _) rfl (fun h => by cases h)
        · refine stepJ_any rfl fun ac W hAA hG hDD K hK => ?_
          have hgd := hDD.get 3 21 _ rfl rfl (by kernel_rfl)
          have hgd := slot_bool hgd
          rw [if_neg (by simp [Region.wanted, yielded, hgd])]
          exact hK undef W hG (Below.refl _ _) rfl (fun h => by cases h)
        · refine stepJ_any rfl fun ac W hAA hG hDD K hK => ?_
          have hgd := hDD.get 3 21 _ rfl rfl (by kernel_rfl)
          have hgd := slot_bool hgd
          rw [if_neg (by simp [Region.wanted, yielded, hgd])]
          exact hK undef W hG (Below.refl _ _) rfl (fun h => by cases h)
        · refine stepJ_any rfl fun ac W hAA hG hDD K hK => ?_
          have h21 := hDD.get 3 21 _ rfl rfl (by kernel_rfl)
          have h28 := hDD.get 10 28 _ rfl rfl (by kernel_rfl)
          simp only [Array.getD_eq_getD_getElem?] at h21 h28
          rw [if_pos (by rfl)]
          exact wp_val (v := .bool false) (w' := W) (by simp [execOp, Act.eval, h21, h28, go_sem]) (hK _ _ hG (Below.refl _ _) rfl (fun h => by cases h))
      intro fu T W9 hG hF hne hltb
      have e18 : T 18 = .slice a 0 ca := hF 0 _ rfl (by omega)
      have e19 : T 19 = .int .i64 0 := hF 1 _ rfl (by omega)
      have e20 : T 20 = .bool false := hF 2 _ rfl (by omega)
      have e21 : T 21 = .bool false := hF 3 _ rfl (by omega)
      have e22 : T 22 = undef := hF 4 _ rfl (by omega)
      have e23 : T 23 = undef := hF 5 _ rfl (by omega)
      have e24 : T 24 = undef := hF 6 _ rfl (by omega)
      have e25 : T 25 = undef := hF 7 _ rfl (by omega)
      have e26 : T 26 = undef := hF 8 _ rfl (by omega)
      have e27 : T 27 = undef := hF 9 _ rfl (by omega)
      have e28 : T 28 = undef := hF 10 _ rfl (by omega)
      have e29 : T 29 = .bool false := hF 11 _ rfl (by omega)
      clear hF hne hltb
      simp only [List.take, fillT, List.setIfInBounds_toArray, List.set_cons_zero, List.set_cons_succ, e18, e19, e20, e21, e22, e23, e24, e25, e26, e27, e28, e29]
      clear e18 e19 e20 e21 e22 e23 e24 e25 e26 e27 e28 e29
      refine wpAny_done (by kernel_rfl) ?_ _
      have hx3 := Lib.hid (blk_at hx2.out hG)
      have hcx := cellAt (i := 0) hx3.out rfl
      replace hB := Lib.hid (hB.out.trans (hG.mono hB.out.size))
      clear hG hc0
      go_wp2_with fail
      refine (hfirst.out _ hB.out hx3.out).mono ?_
      rintro e w4 ⟨rfl, hb4⟩
      replace hB := Lib.hid (hB.out.trans (hb4.mono hB.out.size))
      clear hb4
      have hfv : ∀ o, ∃ vi vk, firstV o = #[vi, vk] := fun o => by cases o <;> exact ⟨_, _, rfl⟩
      obtain ⟨vi, vk, hfe⟩ := hfv (firstD [] lb 0)
      rw [hfe] at hp ⊢
      go_wp2_with fail
      go_ret3
      exact ⟨by rw [hp.out]; rfl, hB.out⟩
    | cons x r =>
      replace hap : belongsP lb x.node = true := by simpa [apartN] using hap
      obtain ⟨b, off, da, dc, rfl, hbB, hr, -⟩ := (hQa.out.lift hB.out hB.out.size).at_ (i := 0) (by simp)
      have hx0 := (range_parts (hQa.out.fine x (by simp)).prev (x := x) hr).1
      rw [Nat.zero_mul, Nat.add_zero] at hx0
      have hc1 : Hid (∀ W, Below V.heap.size V W → W.cell? ⟨b, off, none⟩ = some (.int .i64 x.node)) := fun W hW => (hW.cell (p := ⟨b, off, none⟩) hbB).trans hx0
      have hbel : Hid (∀ W, Below V.heap.size V W → Calls Tryd.prog 21 #[.slice B lb.length cb, .int .i64 x.node] W fun e w' => e = .returned (.bool true) ∧ Below W.heap.size W w') := fun W hW => by
        have hb := hB.out.trans (hW.mono hB.out.size)
        have := belongs_any lb x.node W _ B cb (hQb.out.lift hb hb.size)
        rwa [hap] at this
      have hN0 : (0 : Int) < (x :: r).length := by rw [List.length_cons]; omega
      have hNn : 0 < (x :: r).length := by rw [List.length_cons]; omega
      generalize hfd : firstD (x :: r) lb M = fd at *
      clear hx0 hr hap hQa hfd
      generalize (x :: r).length = N at *
      generalize x.node = n0 at *
      refine wp_region_pre 12 0 (fun W => Below V.heap.size V W) (fun W W' => Below W.heap.size W W')
        (fun i v W => match i with
          | 0 => v = .slice (some ⟨b, off, none⟩) N ca
          | 1 => v = .int .i64 (N : Int)
          | 2 => v = .bool true
          | 3 => v = .bool true
          | 4 => v = .slice B lb.length cb
          | 5 => v = .slice (some ⟨b, off, none⟩) N ca
          | 6 => v = .pointer (some ⟨b, off, none⟩)
          | 7 => v = .pointer (some ⟨b, off, none⟩)
          | 8 => v = .int .i64 n0
          | 9 => v = .bool true
          | 10 => v = .bool false
          | 11 => v = .bool false
          | _ => True) (fun _ => false)
        (by kernel_rfl) (by kernel_rfl) (by kernel_rfl) (by kernel_rfl) (by kernel_rfl) (by kernel_rfl) (by kernel_rfl) ?_ (fun _ _ h => h.size) (dN (Below.refl _ _) 1) ?_ ?_
      · intro i v W W' hb hF
        match i, hF with
        | 0, h => exact h
        | 1, h => exact h
        | 2, h => exact h
        | 3, h => exact h
        | 4, h => exact h
        | 5, h => exact h
        | 6, h => exact h
        | 7, h => exact h
        | 8, h => exact h
        | 9, h => exact h
        | 10, h => exact h
        | 11, h => exact h
        | _ + 12, _ => trivial
      · refine ⟨?_, ?_, ?_, ?_, ?_, ?_, ?_, ?_, ?_, ?_, ?_, ?_, trivial⟩
        · refine stepJ_any rfl fun ac W hAA hG hDD K hK => ?_
          have h0 := hAA.getD (t := 0) (by kernel_rfl)
          simp only [Array.getD_eq_getD_getElem?] at h0
          rw [if_pos (by rfl)]
          exact wp_val (v := .slice (some ⟨b, off, none⟩) N ca) (w' := W) (by simp [execOp, Act.eval, h0, go_sem]) (hK _ _ hG (Below.refl _ _) rfl (fun h => by cases h))
        · refine stepJ_any rfl fun ac W hAA hG hDD K hK => ?_
          have h18 := hDD.get 0 18 _ rfl rfl (by kernel_rfl)
          simp only [Array.getD_eq_getD_getElem?] at h18
          rw [if_pos (by rfl)]
          exact wp_val (v := .int .i64 (N : Int)) (w' := W) (by simp [execOp, Act.eval, h18, go_sem]) (hK _ _ hG (Below.refl _ _) rfl (fun h => by cases h))
        · refine stepJ_any rfl fun ac W hAA hG hDD K hK => ?_
          have h19 := hDD.get 1 19 _ rfl rfl (by kernel_rfl)
          simp only [Array.getD_eq_getD_getElem?] at h19
          rw [if_pos (by rfl)]
          exact wp_val (v := .bool true) (w' := W) (by simp [execOp, Act.eval, h19, go_sem, hN0, hNn]) (hK _ _ hG (Below.refl _ _) rfl (fun h => by cases h))
        · refine stepJ_any rfl fun ac W hAA hG hDD K hK => ?_
          have h20 := hDD.get 2 20 _ rfl rfl (by kernel_rfl)
          simp only [Array.getD_eq_getD_getElem?] at h20
          rw [if_pos (by rfl)]
          exact wp_val (v := .bool true) (w' := W) (by simp [execOp, Act.eval, h20, go_sem]) (hK _ _ hG (Below.refl _ _) rfl (fun h => by cases h))
        · refine stepJ_any rfl fun ac W hAA hG hDD K hK => ?_
          have h3 := hAA.getD (t := 3) (by kernel_rfl)
          have hgd := hDD.get 3 21 _ rfl rfl (by kernel_rfl)
          have hgd := slot_bool hgd
          simp only [Array.getD_eq_getD_getElem?] at h3
          have m0 := hc0.out W hG
          rw [if_pos (by simp [Region.wanted, yielded, hgd])]
          exact wp_val (v := .slice B lb.length cb) (w' := W) (by simp [execOp, Act.eval, h3, go_sem, m0]) (hK _ _ hG (Below.refl _ _) rfl (fun h => by cases h))
        · refine stepJ_any rfl fun ac W hAA hG hDD K hK => ?_
          have h0 := hAA.getD (t := 0) (by kernel_rfl)
          have hgd := hDD.get 3 21 _ rfl rfl (by kernel_rfl)
          have hgd := slot_bool hgd
          simp only [Array.getD_eq_getD_getElem?] at h0
          rw [if_pos (by simp [Region.wanted, yielded, hgd])]
          exact wp_val (v := .slice (some ⟨b, off, none⟩) N ca) (w' := W) (by simp [execOp, Act.eval, h0, go_sem]) (hK _ _ hG (Below.refl _ _) rfl (fun h => by cases h))
        · refine stepJ_any rfl fun ac W hAA hG hDD K hK => ?_
          have h23 := hDD.get 5 23 _ rfl rfl (by kernel_rfl)
          have hgd := hDD.get 3 21 _ rfl rfl (by kernel_rfl)
          have hgd := slot_bool hgd
          simp only [Array.getD_eq_getD_getElem?] at h23
          rw [if_pos (by simp [Region.wanted, yielded, hgd])]
          exact wp_val (v := .pointer (some ⟨b, off, none⟩)) (w' := W) (by simp [execOp, Act.eval, h23, go_sem, hN0, hNn]) (hK _ _ hG (Below.refl _ _) rfl (fun h => by cases h))
        · refine stepJ_any rfl fun ac W hAA hG hDD K hK => ?_
          have h24 := hDD.get 6 24 _ rfl rfl (by kernel_rfl)
          have hgd := hDD.get 3 21 _ rfl rfl (by kernel_rfl)
          have hgd := slot_bool hgd
          simp only [Array.getD_eq_getD_getElem?] at h24
          rw [if_pos (by simp [Region.wanted, yielded, hgd])]
          exact wp_val (v := .pointer (some ⟨b, off, none⟩)) (w' := W) (by simp [execOp, Act.eval, h24, go_sem]) (hK _ _ hG (Below.refl _ _) rfl (fun h => by cases h))
        · refine stepJ_any rfl fun ac W hAA hG hDD K hK => ?_
          have h25 := hDD.get 7 25 _ rfl rfl (by kernel_rfl)
          have hgd := hDD.get 3 21 _ rfl rfl (by kernel_rfl)
          have hgd := slot_bool hgd
          simp only [Array.getD_eq_getD_getElem?] at h25
          have m1 := hc1.out W hG
          rw [if_pos (by simp [Region.wanted, yielded, hgd])]
          exact wp_val (v := .int .i64 n0) (w' := W) (by simp [execOp, Act.eval, h25, go_sem, m1]) (hK _ _ hG (Below.refl _ _) rfl (fun h => by cases h))
        · refine stepJ_any rfl fun ac W hAA hG hDD K hK => ?_
          have h22 := hDD.get 4 22 _ rfl rfl (by kernel_rfl)
          have h26 := hDD.get 8 26 _ rfl rfl (by kernel_rfl)
          have hgd := hDD.get 3 21 _ rfl rfl (by kernel_rfl)
          have hgd := slot_bool hgd
          simp only [Array.getD_eq_getD_getElem?] at h22 h26
          rw [if_pos (by simp [Region.wanted, yielded, hgd])]
          refine wp_call (f := 21) (args := #[.slice B lb.length cb, .int .i64 n0]) (by simp [execOp, Act.eval, h22, h26, go_sem]) ((hbel.out W hG).mono fun e W9 he => ?_)
          obtain ⟨rfl, hbw⟩ := he
          exact hK _ _ (hG.trans (hbw.mono hG.size)) hbw rfl (fun h => by cases h)
        · refine stepJ_any rfl fun ac W hAA hG hDD K hK => ?_
          have h27 := hDD.get 9 27 _ rfl rfl (by kernel_rfl)
          have hgd := hDD.get 3 21 _ rfl rfl (by kernel_rfl)
          have hgd := slot_bool hgd
          simp only [Array.getD_eq_getD_getElem?] at h27
          rw [if_pos (by simp [Region.wanted, yielded, hgd])]
          exact wp_val (v := .bool false) (w' := W) (by simp [execOp, Act.eval, h27, go_sem]) (hK _ _ hG (Below.refl _ _) rfl (fun h => by cases h))
        · refine stepJ_any rfl fun ac W hAA hG hDD K hK => ?_
          have h21 := hDD.get 3 21 _ rfl rfl (by kernel_rfl)
          have h28 := hDD.get 10 28 _ rfl rfl (by kernel_rfl)
          simp only [Array.getD_eq_getD_getElem?] at h21 h28
          rw [if_pos (by rfl)]
          exact wp_val (v := .bool false) (w' := W) (by simp [execOp, Act.eval, h21, h28, go_sem]) (hK _ _ hG (Below.refl _ _) rfl (fun h => by cases h))
      intro fu T W9 hG hF hne hltb
      have e18 : T 18 = .slice (some ⟨b, off, none⟩) N ca := hF 0 _ rfl (by omega)
      have e19 : T 19 = .int .i64 (N : Int) := hF 1 _ rfl (by omega)
      have e20 : T 20 = .bool true := hF 2 _ rfl (by omega)
      have e21 : T 21 = .bool true := hF 3 _ rfl (by omega)
      have e22 : T 22 = .slice B lb.length cb := hF 4 _ rfl (by omega)
      have e23 : T 23 = .slice (some ⟨b, off, none⟩) N ca := hF 5 _ rfl (by omega)
      have e24 : T 24 = .pointer (some ⟨b, off, none⟩) := hF 6 _ rfl (by omega)
      have e25 : T 25 = .pointer (some ⟨b, off, none⟩) := hF 7 _ rfl (by omega)
      have e26 : T 26 = .int .i64 n0 := hF 8 _ rfl (by omega)
      have e27 : T 27 = .bool true := hF 9 _ rfl (by omega)
      have e28 : T 28 = .bool false := hF 10 _ rfl (by omega)
      have e29 : T 29 = .bool false := hF 11 _ rfl (by omega)
      clear hF hne hltb
      simp only [List.take, fillT, List.setIfInBounds_toArray, List.set_cons_zero, List.set_cons_succ, e18, e19, e20, e21, e22, e23, e24, e25, e26, e27, e28, e29]
      clear e18 e19 e20 e21 e22 e23 e24 e25 e26 e27 e28 e29
      refine wpAny_done (by kernel_rfl) ?_ _
      have hx3 := Lib.hid (blk_at hx2.out hG)
      have hcx := cellAt (i := 0) hx3.out rfl
      replace hB := Lib.hid (hB.out.trans (hG.mono hB.out.size))
      clear hG hc0
      go_wp2_with fail
      refine (hfirst.out _ hB.out hx3.out).mono ?_
      rintro e w4 ⟨rfl, hb4⟩
      replace hB := Lib.hid (hB.out.trans (hb4.mono hB.out.size))
      clear hb4
      have hfv : ∀ o, ∃ vi vk, firstV o = #[vi, vk] := fun o => by cases o <;> exact ⟨_, _, rfl⟩
      obtain ⟨vi, vk, hfe⟩ := hfv fd
      rw [hfe] at hp ⊢
      go_wp2_with fail
      go_ret3
      exact ⟨by rw [hp.out]; rfl, hB.out⟩
end Go.Proofs.YtbhpmeljmkoebaaDoor
