/- ChainBuilt. -/
import Derived.Test.YtbhpmeljmkoebaaDoorVm
namespace Go.Proofs.YtbhpmeljmkoebaaDoor
open Go.RowKit

/-- A list of leaves that is read. -/
def LL (w : World) (B : Nat) (ls : List (List UInt8)) (A : Option Addr) : Prop := 0 < ls.length → ∃ b off, A = some ⟨b, off, none⟩ ∧ b < B ∧ ∀ i (h : i < ls.length), ∃ a c, w.cell? ⟨b, off + i, none⟩ = some (.slice a ls[i].length c) ∧ RBs w B a ls[i] ∧ (a = none → ls[i] = []) ∧ ls[i].length ≤ c
theorem LL.lift {w w' : World} {B B' : Nat} {ls : List (List UInt8)} {A : Option Addr} (h : LL w B ls A) (hb : Below B w w') (hB : B ≤ B') : LL w' B' ls A := fun hp => by
  obtain ⟨b, off, e, hlt, hc⟩ := h hp
  refine ⟨b, off, e, Nat.lt_of_lt_of_le hlt hB, fun i hi => ?_⟩
  obtain ⟨a, c, h1, h2, h3, h4⟩ := hc i hi
  exact ⟨a, c, (hb.cell (p := ⟨b, off + i, none⟩) hlt).trans h1, h2.lift hb hB, h3, h4⟩
theorem LL.nil (w : World) (B : Nat) (A : Option Addr) : LL w B [] A := fun h => absurd h (by simp)
theorem LL.at_ {w : World} {B : Nat} {ls : List (List UInt8)} {A : Option Addr} (h : LL w B ls A) {i : Nat} (hi : i < ls.length) : ∃ b off a c, A = some ⟨b, off, none⟩ ∧ b < B ∧ w.cell? ⟨b, off + i, none⟩ = some (.slice a ls[i].length c) ∧ RBs w B a ls[i] ∧ (a = none → ls[i] = []) ∧ ls[i].length ≤ c := by
  obtain ⟨b, off, e, hlt, hc⟩ := h (by omega)
  obtain ⟨a, c, h1⟩ := hc i hi
  exact ⟨b, off, a, c, e, hlt, h1⟩

/-- What is built of the data, link by link. -/
def builtP (node : Int) (ls : List (List UInt8)) : Nat → List Lk
  | 0 => []
  | k + 1 => builtP node ls k ++ [⟨node, (builtP node ls k).length, headP (builtP node ls k), ls.getD k []⟩]
theorem built_len (node : Int) (ls : List (List UInt8)) : ∀ k, (builtP node ls k).length = k
  | 0 => rfl
  | k + 1 => by rw [builtP, List.length_append, built_len node ls k]; rfl
theorem built_short (node : Int) (ls : List (List UInt8)) : ∀ k, (∀ i, i < k → (ls.getD i []).length ≤ 300) → Short (builtP node ls k)
  | 0, _ => s_short0
  | k + 1, h => fun x hx => by
    rw [builtP] at hx
    rcases List.mem_append.1 hx with hx | hx
    · exact built_short node ls k (fun i hi => h i (by omega)) x hx
    · rw [List.mem_singleton.1 hx]
      have := h k (by omega)
      show (ls.getD k []).length ≤ _
      omega
theorem built_belongs (node : Int) (ls : List (List UInt8)) : ∀ k, belongsP (builtP node ls k) node = true
  | 0 => rfl
  | k + 1 => by
    rw [builtP]
    cases h : builtP node ls k with
    | nil => show (node == node) = true; simp
    | cons x r =>
      have := built_belongs node ls k
      rw [h] at this
      exact this
theorem built_ok {node : Int} (hn : isNodeP node = true) (ls : List (List UInt8)) (k : Nat) (h : (ls.getD k []).length ≤ 300) : addOk (builtP node ls k) node (ls.getD k []).length = true := by
  unfold addOk
  rw [hn, built_belongs, decide_eq_true (by omega)]; rfl
theorem built_chain {node : Int} (hn : isNodeP node = true) (ls : List (List UInt8)) : ∀ k, (∀ i, i < k → (ls.getD i []).length ≤ 300) → chkP (builtP node ls k) = 0
  | 0, _ => s_chk0
  | k + 1, h => by
    rw [builtP]
    exact chain_snoc (built_chain hn ls k fun i hi => h i (by omega)) (add_follows (built_ok hn ls k (h k (by omega))))

set_option maxRecDepth 100000 in
set_option maxHeartbeats 4000000 in
theorem built_law (node : Int) (hn64 : I64 node) (ls : List (List UInt8)) (w : World) (A : Option Addr) (cl : Nat) (hL : LL w w.heap.size ls A) (hKT : KT w) (h0 : 0 < w.heap.size) :
    Calls Tryd.prog 4 #[.int .i64 node, .slice A ls.length cl] w fun e w' => e = .returned (.bool true) ∧ Below w.heap.size w w' := by
  replace hL := Lib.hid hL
  replace hn64 := Lib.hid hn64
  have hK : Hid (∀ W, Below w.heap.size w W → KT W ∧ 0 < W.heap.size) := fun W hW => ⟨hKT.below hW h0, Nat.lt_of_lt_of_le h0 hW.size⟩
  have hS0 := Lib.hid (sane_any w hKT h0)
  clear hKT h0
  by_cases hbad : (12 : Int) < ls.length ∨ node < 0 ∨ 24 ≤ node
  · go_enter Tryd.func4, Tryd.ntmps4
    go_wp2_with fail
    refine hS0.out.mono ?_
    rintro e w1 ⟨rfl, hb1⟩
    have hB := Lib.hid hb1
    clear hS0 hb1
    by_cases h1 : (12 : Int) < ls.length
    · clear hbad
      go_wp2_with fail
      go_ret
      exact ⟨rfl, hB.out⟩
    · by_cases h2 : node < 0
      · clear hbad
        go_wp2_with fail
        go_ret
        exact ⟨rfl, hB.out⟩
      · have h3 : 24 ≤ node := by omega
        clear hbad
        go_wp2_with fail
        go_ret
        exact ⟨rfl, hB.out⟩
  have g1 : ¬ (12 : Int) < ls.length := by omega
  have g2 : ¬ node < 0 := by omega
  have g3 : ¬ 24 ≤ node := by omega
  have hl12 : ls.length ≤ 12 := by omega
  have hnd : Hid (isNodeP node = true) := by show _ = _; unfold isNodeP; exact decide_eq_true (by omega)
  clear hbad
  go_enter Tryd.func4, Tryd.ntmps4
  go_wp2_with fail
  refine hS0.out.mono ?_
  rintro e w1 ⟨rfl, hb1⟩
  have hB := Lib.hid hb1
  clear hS0 hb1
  go_wp2_with fail
  clear g1 g2 g3
  go_loopw [5, 6, 7, 8] (fun x i _ _ wr => ∃ (k : Nat) (ax : Option Addr) (cx : Nat), i = .int .i64 (k : Int) ∧ k ≤ ls.length ∧ x = .slice ax k cx ∧ Hid (QL wr wr.heap.size (builtP node ls k) ax cx) ∧ Hid (Below w.heap.size w wr) ∧ Hid (∀ i, i < k → (ls.getD i []).length ≤ 300)) (fun _ i _ _ _ => ls.length - (intOf i).toNat)
  case atStart => exact ⟨0, none, 0, rfl, by omega, rfl, QL.nil _ _, hB, fun i hi => by omega⟩
  case round =>
    obtain ⟨k, ax, cx, rfl, hk, rfl, hq, hb, hall⟩ := hrel
    by_cases hkl : k < ls.length
    · obtain ⟨bl, ol, dl, el, hA, hblB, hcell, hrd, hnone, hle⟩ := (hL.out.lift hb.out hb.out.size).at_ hkl
      have hgd : ls[k] = ls.getD k [] := by rw [List.getD_eq_getElem?_getD, List.getElem?_eq_getElem hkl]; rfl
      rw [hgd] at hcell hrd hnone hle
      have i0 : (0 : Int) ≤ k := by omega
      have i2 : (k : Int) < ls.length := by omega
      subst hA
      by_cases hbig : (ls.getD k []).length ≤ 300
      case neg =>
        have hbig' : (300 : Int) < (ls.getD k []).length := by omega
        clear hbig hrd hgd hnone hle hall
        generalize ls.getD k [] = bs at *
        go_wp2_with fail
        go_ret
        exact ⟨rfl, hb.out⟩
      have hbig' : ¬ (300 : Int) < (ls.getD k []).length := by omega
      have hbigH := Lib.hid hbig
      have hadd := Lib.hid (Add_good (builtP node ls k) (built_short node ls k hall.out) (by rw [built_len]; omega) node hn64.out (ls.getD k []) (built_chain hnd.out ls k hall.out) (built_ok hnd.out ls k hbig) k _ (built_len node ls k) rfl wr ax dl cx el hq.out hrd (hK.out _ hb.out).1 (hK.out _ hb.out).2)
      have hXn : Hid (builtP node ls (k + 1) = builtP node ls k ++ [⟨node, (builtP node ls k).length, headP (builtP node ls k), ls.getD k []⟩]) := rfl
      have hshort := Lib.hid (built_short node ls k hall.out)
      have hXl := built_len node ls k
      have hallk : Hid (∀ i, i < k + 1 → (ls.getD i []).length ≤ 300) := fun i hi => by
        by_cases e : i = k
        · rw [e]; exact hbig
        · exact hall.out i (by omega)
      clear hbig hgd hall
      generalize hX : builtP node ls k = X at hq hadd hXn hshort hXl
      clear hX
      generalize ls.getD k [] = bs at *
      go_wp2_with fail
      clear hbig'
      refine hadd.out.mono ?_
      rintro e V ⟨⟨a2, c2, rfl, hq2⟩, hbV⟩
      rw [← hXn.out] at hq2
      have hbV2 := Lib.hid (hb.out.trans (hbV.mono hb.out.size))
      replace hq := Lib.hid (hq.out.lift hbV hbV.size)
      have hcellV : V.cell? ⟨bl, ol + k, none⟩ = some (.slice dl bs.length el) := (hbV.cell (p := ⟨bl, ol + k, none⟩) hblB).trans hcell
      have hblV : bl < V.heap.size := Nat.lt_of_lt_of_le hblB hbV.size
      have hrdV := hrd.lift hbV hbV.size
      have hlen2 : (builtP node ls (k + 1)).length = k + 1 := built_len node ls (k + 1)
      have hlenX : (X ++ [(⟨node, X.length, headP X, bs⟩ : Lk)]).length = X.length + 1 := by simp
      have hq3 := hq2
      rw [hXn.out] at hq3
      obtain ⟨b2, o2, d2, e2, rfl, hb2B, hr2, hD2⟩ := hq3.at_ (i := X.length) (by rw [hlenX]; omega)
      have hgl : (X ++ [(⟨node, X.length, headP X, bs⟩ : Lk)])[X.length]'(by rw [hlenX]; omega) = ⟨node, X.length, headP X, bs⟩ := by simp
      rw [hgl] at hr2 hD2
      obtain ⟨n0, n1, n2, n3⟩ := range_parts (headP_len X) hr2
      rw [hXl] at n0 n1 n2 n3
      have hPv : Hid (∀ W, Below V.heap.size V W → W.rangeAt b2 (o2 + k * 35 + 2) (BV (headP X))) := fun W hW j v hv => (hW.cell (p := ⟨b2, o2 + k * 35 + 2 + j, none⟩) hb2B).trans (n2 j v hv)
      have hNd : Hid (∀ W, Below V.heap.size V W → W.cell? ⟨b2, o2 + k * 35, none⟩ = some (.int .i64 node)) := fun W hW => (hW.cell (p := ⟨b2, o2 + k * 35, none⟩) hb2B).trans n0
      have hNo : Hid (∀ W, Below V.heap.size V W → W.cell? ⟨b2, o2 + k * 35 + 1, none⟩ = some (.int .i64 (k : Int))) := fun W hW => (hW.cell (p := ⟨b2, o2 + k * 35 + 1, none⟩) hb2B).trans n1
      have hDa : Hid (∀ W, Below V.heap.size V W → W.cell? ⟨b2, o2 + k * 35 + 34, none⟩ = some (.slice d2 bs.length e2)) := fun W hW => (hW.cell (p := ⟨b2, o2 + k * 35 + 34, none⟩) hb2B).trans n3
      have hDl : Hid (∀ W, Below V.heap.size V W → W.cell? ⟨bl, ol + k, none⟩ = some (.slice dl bs.length el)) := fun W hW => (hW.cell (p := ⟨bl, ol + k, none⟩) hblV).trans hcellV
      have hcv1 : Hid (∀ W, Below V.heap.size V W → (convert 23 9 (.slice d2 bs.length e2)).run Tryd.prog W = .ok (.string ⟨bs.toArray⟩) W) := fun W hW => conv_str (c := e2) (hD2.read.lift hW hW.size)
      have hcv2 : Hid (∀ W, Below V.heap.size V W → (convert 23 9 (.slice dl bs.length el)).run Tryd.prog W = .ok (.string ⟨bs.toArray⟩) W) := fun W hW => conv_str (c := el) (hrdV.lift hW hW.size)
      have hHd : Hid (∀ W, Below V.heap.size V W → Calls Tryd.prog 15 #[.slice ax k cx] W fun e w' => e = .returned (.agg (BV (headP X)).toArray) ∧ Below W.heap.size W w') := fun W hW => by
        have hb' := hbV2.out.trans (hW.mono hbV2.out.size)
        exact Head_list (l := X) rfl hshort.out (by omega) k hXl W ax cx (hq.out.lift hW hW.size) (hK.out _ hb').1 (hK.out _ hb').2
      have hSm : Hid (∀ W, Below V.heap.size V W → Calls Tryd.prog 14 #[.slice (some ⟨b2, o2, none⟩) k c2, .slice ax k cx] W fun e w' => e = .returned (.bool true) ∧ Below W.heap.size W w') := fun W hW => by
        have h3 := (hq3.lift hW hW.size).cut (a' := some ⟨b2, o2, none⟩) (k := k) (c' := c2) (by rw [hlenX]; omega) (Nat.le_trans (by rw [hlenX]; omega) hq3.1) (Nat.le_refl _) id (.inl rfl)
        rw [← hXl, List.take_left] at h3
        have := Same_any X X (by omega) W _ ax c2 cx h3 (hq.out.lift hW hW.size)
        rw [sameLs_iff.2 rfl, hXl] at this
        exact this
      have hs1 : Hid (∀ W, (Instr.slice 22 (.slice (some ⟨b2, o2, none⟩) (k + 1) c2) none (some (.int .i64 (k : Int))) none).run Tryd.prog W = .ok (.slice (some ⟨b2, o2, none⟩) k c2) W) := fun W => slice_to _ (k + 1) c2 k (Nat.le_trans (by rw [hlenX]; omega) hq3.1) W
      have hqH : Hid (∀ W, (Op.equalIn 10000 35 (.agg (BV (headP X)).toArray) (.agg (BV (headP X)).toArray)).run Tryd.prog W = .ok true W) := fun W => by
        have h := eq_digest (headP X) (headP X) (headP_len X) (headP_len X) W
        rwa [beq_self_eq_true] at h
      have hszH := Lib.hid (show (Tryd.prog.info? 35).map (·.size) = some (BV (headP X)).length by rw [Tryd.iD, BV_length, headP_len])
      have i1 : (k : Int) < (k : Int) + 1 := by omega
      have hk1 : ((k + 1 : Nat) : Int) = (k : Int) + 1 := by omega
      have hw1 : IntKind.i64.wrap ((k : Int) + 1) = (k : Int) + 1 := IntWalk.i64_in _ (by omega)
      replace hq2 := Lib.hid hq2
      clear hXn hXl hlenX hgl hq3 hr2 hD2 n0 n1 n2 n3 hcellV hrdV hbV hcell hrd hnone hle hblB hblV hb2B hadd hshort hq hlen2 hb
      go_wp2_with fail
      refine wp_region_pre 59 0 (fun W => Below V.heap.size V W) (fun W W' => Below W.heap.size W W')
        (fun i v W => match i with
          | 0 => v = .int .i64 0
          | 1 => v = .bool false
          | 2 => v = .bool false
          | 3 => v = .slice (some ⟨b2, o2, none⟩) (k + 1) c2
          | 4 => v = .int .i64 ((k : Int) + 1)
          | 5 => v = .int .i64 (k : Int)
          | 6 => v = .int .i64 ((k : Int) + 1)
          | 7 => v = .bool false
          | 8 => v = .bool false
          | 9 => v = .bool false
          | 10 => v = .slice (some ⟨b2, o2, none⟩) (k + 1) c2
          | 11 => v = .int .i64 (k : Int)
          | 12 => v = .slice (some ⟨b2, o2, none⟩) k c2
          | 13 => v = .slice ax k cx
          | 14 => v = .bool true
          | 15 => v = .bool false
          | 16 => v = .bool false
          | 17 => v = .bool false
          | 18 => v = .slice (some ⟨b2, o2, none⟩) (k + 1) c2
          | 19 => v = .int .i64 (k : Int)
          | 20 => v = .pointer (some ⟨b2, o2 + k * 35, none⟩)
          | 21 => v = .pointer (some ⟨b2, o2 + k * 35 + 2, none⟩)
          | 22 => v = .agg (BV (headP X)).toArray
          | 23 => v = .slice ax k cx
          | 24 => v = .agg (BV (headP X)).toArray
          | 25 => v = .bool false
          | 26 => v = .bool false
          | 27 => v = .bool false
          | 28 => v = .slice (some ⟨b2, o2, none⟩) (k + 1) c2
          | 29 => v = .int .i64 (k : Int)
          | 30 => v = .pointer (some ⟨b2, o2 + k * 35, none⟩)
          | 31 => v = .pointer (some ⟨b2, o2 + k * 35 + 1, none⟩)
          | 32 => v = .int .i64 (k : Int)
          | 33 => v = .int .i64 (k : Int)
          | 34 => v = .bool false
          | 35 => v = .bool false
          | 36 => v = .bool false
          | 37 => v = .slice (some ⟨b2, o2, none⟩) (k + 1) c2
          | 38 => v = .int .i64 (k : Int)
          | 39 => v = .pointer (some ⟨b2, o2 + k * 35, none⟩)
          | 40 => v = .pointer (some ⟨b2, o2 + k * 35, none⟩)
          | 41 => v = .int .i64 node
          | 42 => v = .int .i64 node
          | 43 => v = .bool false
          | 44 => v = .bool false
          | 45 => v = .bool false
          | 46 => v = .slice (some ⟨b2, o2, none⟩) (k + 1) c2
          | 47 => v = .int .i64 (k : Int)
          | 48 => v = .pointer (some ⟨b2, o2 + k * 35, none⟩)
          | 49 => v = .pointer (some ⟨b2, o2 + k * 35 + 34, none⟩)
          | 50 => v = .slice d2 bs.length e2
          | 51 => v = .string ⟨bs.toArray⟩
          | 52 => v = .slice (some ⟨bl, ol, none⟩) ls.length cl
          | 53 => v = .int .i64 (k : Int)
          | 54 => v = .pointer (some ⟨bl, ol + k, none⟩)
          | 55 => v = .slice dl bs.length el
          | 56 => v = .string ⟨bs.toArray⟩
          | 57 => v = .bool false
          | 58 => v = .bool false
          | _ => True) (fun _ => false)
        (by kernel_rfl) (by kernel_rfl) (by kernel_rfl) (by kernel_rfl) (by kernel_rfl) (by kernel_rfl) (by kernel_rfl) ?_ (fun _ _ h => h.size) (dN (Below.refl _ _) 1) ?_ ?_
      · intro i v W W' hb hF
        match i, hF with
        | 0, h => exact h
        | 1, h => exact h
        | 2, h => exact h
        | 3, h => exact h
        | 4, h => exact h
        | 5, h => exact h
        | 6, h => exact h
        | 7, h => exact h
        | 8, h => exact h
        | 9, h => exact h
        | 10, h => exact h
        | 11, h => exact h
        | 12, h => exact h
        | 13, h => exact h
        | 14, h => exact h
        | 15, h => exact h
        | 16, h => exact h
        | 17, h => exact h
        | 18, h => exact h
        | 19, h => exact h
        | 20, h => exact h
        | 21, h => exact h
        | 22, h => exact h
        | 23, h => exact h
        | 24, h => exact h
        | 25, h => exact h
        | 26, h => exact h
        | 27, h => exact h
        | 28, h => exact h
        | 29, h => exact h
        | 30, h => exact h
        | 31, h => exact h
        | 32, h => exact h
        | 33, h => exact h
        | 34, h => exact h
        | 35, h => exact h
        | 36, h => exact h
        | 37, h => exact h
        | 38, h => exact h
        | 39, h => exact h
        | 40, h => exact h
        | 41, h => exact h
        | 42, h => exact h
        | 43, h => exact h
        | 44, h => exact h
        | 45, h => exact h
        | 46, h => exact h
        | 47, h => exact h
        | 48, h => exact h
        | 49, h => exact h
        | 50, h => exact h
        | 51, h => exact h
        | 52, h => exact h
        | 53, h => exact h
        | 54, h => exact h
        | 55, h => exact h
        | 56, h => exact h
        | 57, h => exact h
        | 58, h => exact h
        | _ + 59, _ => trivial
      · refine ⟨?_, ?_, ?_, ?_, ?_, ?_, ?_, ?_, ?_, ?_, ?_, ?_, ?_, ?_, ?_, ?_, ?_, ?_, ?_, ?_, ?_, ?_, ?_, ?_, ?_, ?_, ?_, ?_, ?_, ?_, ?_, ?_, ?_, ?_, ?_, ?_, ?_, ?_, ?_, ?_, ?_, ?_, ?_, ?_, ?_, ?_, ?_, ?_, ?_, ?_, ?_, ?_, ?_, ?_, ?_, ?_, ?_, ?_, ?_, trivial⟩
        · refine stepJ_any rfl fun ac W hAA hG hDD K hK => ?_
          have h8 := hAA.getD (t := 8) (by kernel_rfl)
          simp only [Array.getD_eq_getD_getElem?] at h8
          rw [if_pos (by rfl)]
          exact wp_val (v := .int .i64 0) (w' := W) (by simp [execOp, Act.eval, h8, go_sem]) (hK _ _ hG (Below.refl _ _) rfl (fun h => by cases h))
        · refine stepJ_any rfl fun ac W hAA hG hDD K hK => ?_
          have h45 := hDD.get 0 45 _ rfl rfl (by kernel_rfl)
          simp only [Array.getD_eq_getD_getElem?] at h45
          rw [if_pos (by rfl)]
          exact wp_val (v := .bool false) (w' := W) (by simp [execOp, Act.eval, h45, go_sem]) (hK _ _ hG (Below.refl _ _) rfl (fun h => by cases h))
        · refine stepJ_any rfl fun ac W hAA hG hDD K hK => ?_
          have h46 := hDD.get 1 46 _ rfl rfl (by kernel_rfl)
          simp only [Array.getD_eq_getD_getElem?] at h46
          rw [if_pos (by rfl)]
          exact wp_val (v := .bool false) (w' := W) (by simp [execOp, Act.eval, h46, go_sem]) (hK _ _ hG (Below.refl _ _) rfl (fun h => by cases h))
        · refine stepJ_any rfl fun ac W hAA hG hDD K hK => ?_
          have h7 := hAA.getD (t := 7) (by kernel_rfl)
          have hgd := hDD.get 2 47 _ rfl rfl (by kernel_rfl)
          have hgd := slot_bool hgd
          simp only [Array.getD_eq_getD_getElem?] at h7
          rw [if_pos (by simp [Region.wanted, yielded, hgd])]
          exact wp_val (v := .slice (some ⟨b2, o2, none⟩) (k + 1) c2) (w' := W) (by simp [execOp, Act.eval, h7, go_sem]) (hK _ _ hG (Below.refl _ _) rfl (fun h => by cases h))
        · refine stepJ_any rfl fun ac W hAA hG hDD K hK => ?_
          have h48 := hDD.get 3 48 _ rfl rfl (by kernel_rfl)
          have hgd := hDD.get 2 47 _ rfl rfl (by kernel_rfl)
          have hgd := slot_bool hgd
          simp only [Array.getD_eq_getD_getElem?] at h48
          rw [if_pos (by simp [Region.wanted, yielded, hgd])]
          exact wp_val (v := .int .i64 ((k : Int) + 1)) (w' := W) (by simp [execOp, Act.eval, h48, go_sem, hk1]) (hK _ _ hG (Below.refl _ _) rfl (fun h => by cases h))
        · refine stepJ_any rfl fun ac W hAA hG hDD K hK => ?_
          have h6 := hAA.getD (t := 6) (by kernel_rfl)
          have hgd := hDD.get 2 47 _ rfl rfl (by kernel_rfl)
          have hgd := slot_bool hgd
          simp only [Array.getD_eq_getD_getElem?] at h6
          rw [if_pos (by simp [Region.wanted, yielded, hgd])]
          exact wp_val (v := .int .i64 (k : Int)) (w' := W) (by simp [execOp, Act.eval, h6, go_sem]) (hK _ _ hG (Below.refl _ _) rfl (fun h => by cases h))
        · refine stepJ_any rfl fun ac W hAA hG hDD K hK => ?_
          have h50 := hDD.get 5 50 _ rfl rfl (by kernel_rfl)
          have hgd := hDD.get 2 47 _ rfl rfl (by kernel_rfl)
          have hgd := slot_bool hgd
          simp only [Array.getD_eq_getD_getElem?] at h50
          rw [if_pos (by simp [Region.wanted, yielded, hgd])]
          exact wp_val (v := .int .i64 ((k : Int) + 1)) (w' := W) (by simp [execOp, Act.eval, h50, go_sem, hw1]) (hK _ _ hG (Below.refl _ _) rfl (fun h => by cases h))
        · refine stepJ_any rfl fun ac W hAA hG hDD K hK => ?_
          have h49 := hDD.get 4 49 _ rfl rfl (by kernel_rfl)
          have h51 := hDD.get 6 51 _ rfl rfl (by kernel_rfl)
          have hgd := hDD.get 2 47 _ rfl rfl (by kernel_rfl)
          have hgd := slot_bool hgd
          simp only [Array.getD_eq_getD_getElem?] at h49 h51
          rw [if_pos (by simp [Region.wanted, yielded, hgd])]
          exact wp_val (v := .bool false) (w' := W) (by simp [execOp, Act.eval, h49, h51, go_sem]) (hK _ _ hG (Below.refl _ _) rfl (fun h => by cases h))
        · refine stepJ_any rfl fun ac W hAA hG hDD K hK => ?_
          have h47 := hDD.get 2 47 _ rfl rfl (by kernel_rfl)
          have h52 := hDD.get 7 52 _ rfl rfl (by kernel_rfl)
          simp only [Array.getD_eq_getD_getElem?] at h47 h52
          rw [if_pos (by rfl)]
          exact wp_val (v := .bool false) (w' := W) (by simp [execOp, Act.eval, h47, h52, go_sem]) (hK _ _ hG (Below.refl _ _) rfl (fun h => by cases h))
        · refine stepJ_any rfl fun ac W hAA hG hDD K hK => ?_
          have h53 := hDD.get 8 53 _ rfl rfl (by kernel_rfl)
          simp only [Array.getD_eq_getD_getElem?] at h53
          rw [if_pos (by rfl)]
          exact wp_val (v := .bool false) (w' := W) (by simp [execOp, Act.eval, h53, go_sem]) (hK _ _ hG (Below.refl _ _) rfl (fun h => by cases h))
        · refine stepJ_any rfl fun ac W hAA hG hDD K hK => ?_
          have h7 := hAA.getD (t := 7) (by kernel_rfl)
          have hgd := hDD.get 9 54 _ rfl rfl (by kernel_rfl)
          have hgd := slot_bool hgd
          simp only [Array.getD_eq_getD_getElem?] at h7
          rw [if_pos (by simp [Region.wanted, yielded, hgd])]
          exact wp_val (v := .slice (some ⟨b2, o2, none⟩) (k + 1) c2) (w' := W) (by simp [execOp, Act.eval, h7, go_sem]) (hK _ _ hG (Below.refl _ _) rfl (fun h => by cases h))
        · refine stepJ_any rfl fun ac W hAA hG hDD K hK => ?_
          have h6 := hAA.getD (t := 6) (by kernel_rfl)
          have hgd := hDD.get 9 54 _ rfl rfl (by kernel_rfl)
          have hgd := slot_bool hgd
          simp only [Array.getD_eq_getD_getElem?] at h6
          rw [if_pos (by simp [Region.wanted, yielded, hgd])]
          exact wp_val (v := .int .i64 (k : Int)) (w' := W) (by simp [execOp, Act.eval, h6, go_sem]) (hK _ _ hG (Below.refl _ _) rfl (fun h => by cases h))
        · refine stepJ_any rfl fun ac W hAA hG hDD K hK => ?_
          have h55 := hDD.get 10 55 _ rfl rfl (by kernel_rfl)
          have h56 := hDD.get 11 56 _ rfl rfl (by kernel_rfl)
          have hgd := hDD.get 9 54 _ rfl rfl (by kernel_rfl)
          have hgd := slot_bool hgd
          simp only [Array.getD_eq_getD_getElem?] at h55 h56
          have hs := hs1.out W
          rw [if_pos (by simp [Region.wanted, yielded, hgd])]
          exact wp_val (v := .slice (some ⟨b2, o2, none⟩) k c2) (w' := W) (by simp [execOp, Act.eval, h55, h56, go_sem, hs]) (hK _ _ hG (Below.refl _ _) rfl (fun h => by cases h))
        · refine stepJ_any rfl fun ac W hAA hG hDD K hK => ?_
          have h5 := hAA.getD (t := 5) (by kernel_rfl)
          have hgd := hDD.get 9 54 _ rfl rfl (by kernel_rfl)
          have hgd := slot_bool hgd
          simp only [Array.getD_eq_getD_getElem?] at h5
          rw [if_pos (by simp [Region.wanted, yielded, hgd])]
          exact wp_val (v := .slice ax k cx) (w' := W) (by simp [execOp, Act.eval, h5, go_sem]) (hK _ _ hG (Below.refl _ _) rfl (fun h => by cases h))
        · refine stepJ_any rfl fun ac W hAA hG hDD K hK => ?_
          have h57 := hDD.get 12 57 _ rfl rfl (by kernel_rfl)
          have h58 := hDD.get 13 58 _ rfl rfl (by kernel_rfl)
          have hgd := hDD.get 9 54 _ rfl rfl (by kernel_rfl)
          have hgd := slot_bool hgd
          simp only [Array.getD_eq_getD_getElem?] at h57 h58
          rw [if_pos (by simp [Region.wanted, yielded, hgd])]
          refine wp_call (f := 14) (args := #[.slice (some ⟨b2, o2, none⟩) k c2, .slice ax k cx]) (by simp [execOp, Act.eval, h57, h58, go_sem]) ((hSm.out W hG).mono fun e W9 he => ?_)
          obtain ⟨rfl, hbw⟩ := he
          exact hK _ _ (hG.trans (hbw.mono hG.size)) hbw rfl (fun h => by cases h)
        · refine stepJ_any rfl fun ac W hAA hG hDD K hK => ?_
          have h59 := hDD.get 14 59 _ rfl rfl (by kernel_rfl)
          have hgd := hDD.get 9 54 _ rfl rfl (by kernel_rfl)
          have hgd := slot_bool hgd
          simp only [Array.getD_eq_getD_getElem?] at h59
          rw [if_pos (by simp [Region.wanted, yielded, hgd])]
          exact wp_val (v := .bool false) (w' := W) (by simp [execOp, Act.eval, h59, go_sem]) (hK _ _ hG (Below.refl _ _) rfl (fun h => by cases h))
        · refine stepJ_any rfl fun ac W hAA hG hDD K hK => ?_
          have h54 := hDD.get 9 54 _ rfl rfl (by kernel_rfl)
          have h60 := hDD.get 15 60 _ rfl rfl (by kernel_rfl)
          simp only [Array.getD_eq_getD_getElem?] at h54 h60
          rw [if_pos (by rfl)]
          exact wp_val (v := .bool false) (w' := W) (by simp [execOp, Act.eval, h54, h60, go_sem]) (hK _ _ hG (Below.refl _ _) rfl (fun h => by cases h))
        · refine stepJ_any rfl fun ac W hAA hG hDD K hK => ?_
          have h61 := hDD.get 16 61 _ rfl rfl (by kernel_rfl)
          simp only [Array.getD_eq_getD_getElem?] at h61
          rw [if_pos (by rfl)]
          exact wp_val (v := .bool false) (w' := W) (by simp [execOp, Act.eval, h61, go_sem]) (hK _ _ hG (Below.refl _ _) rfl (fun h => by cases h))
        · refine stepJ_any rfl fun ac W hAA hG hDD K hK => ?_
          have h7 := hAA.getD (t := 7) (by kernel_rfl)
          have hgd := hDD.get 17 62 _ rfl rfl (by kernel_rfl)
          have hgd := slot_bool hgd
          simp only [Array.getD_eq_getD_getElem?] at h7
          rw [if_pos (by simp [Region.wanted, yielded, hgd])]
          exact wp_val (v := .slice (some ⟨b2, o2, none⟩) (k + 1) c2) (w' := W) (by simp [execOp, Act.eval, h7, go_sem]) (hK _ _ hG (Below.refl _ _) rfl (fun h => by cases h))
        · refine stepJ_any rfl fun ac W hAA hG hDD K hK => ?_
          have h6 := hAA.getD (t := 6) (by kernel_rfl)
          have hgd := hDD.get 17 62 _ rfl rfl (by kernel_rfl)
          have hgd := slot_bool hgd
          simp only [Array.getD_eq_getD_getElem?] at h6
          rw [if_pos (by simp [Region.wanted, yielded, hgd])]
          exact wp_val (v := .int .i64 (k : Int)) (w' := W) (by simp [execOp, Act.eval, h6, go_sem]) (hK _ _ hG (Below.refl _ _) rfl (fun h => by cases h))
        · refine stepJ_any rfl fun ac W hAA hG hDD K hK => ?_
          have h63 := hDD.get 18 63 _ rfl rfl (by kernel_rfl)
          have h64 := hDD.get 19 64 _ rfl rfl (by kernel_rfl)
          have hgd := hDD.get 17 62 _ rfl rfl (by kernel_rfl)
          have hgd := slot_bool hgd
          simp only [Array.getD_eq_getD_getElem?] at h63 h64
          rw [if_pos (by simp [Region.wanted, yielded, hgd])]
          exact wp_val (v := .pointer (some ⟨b2, o2 + k * 35, none⟩)) (w' := W) (by simp [execOp, Act.eval, h63, h64, go_sem, i0, i1]) (hK _ _ hG (Below.refl _ _) rfl (fun h => by cases h))
        · refine stepJ_any rfl fun ac W hAA hG hDD K hK => ?_
          have h65 := hDD.get 20 65 _ rfl rfl (by kernel_rfl)
          have hgd := hDD.get 17 62 _ rfl rfl (by kernel_rfl)
          have hgd := slot_bool hgd
          simp only [Array.getD_eq_getD_getElem?] at h65
          rw [if_pos (by simp [Region.wanted, yielded, hgd])]
          exact wp_val (v := .pointer (some ⟨b2, o2 + k * 35 + 2, none⟩)) (w' := W) (by simp [execOp, Act.eval, h65, go_sem]) (hK _ _ hG (Below.refl _ _) rfl (fun h => by cases h))
        · refine stepJ_any rfl fun ac W hAA hG hDD K hK => ?_
          have h66 := hDD.get 21 66 _ rfl rfl (by kernel_rfl)
          have hgd := hDD.get 17 62 _ rfl rfl (by kernel_rfl)
          have hgd := slot_bool hgd
          rw [if_pos (by simp [Region.wanted, yielded, hgd])]
          exact wp_load_mid 35 _ rfl b2 (o2 + k * 35 + 2) h66 (BV (headP X)) _ (hPv.out W hG) Tryd.uD rfl hszH.out (hK _ _ hG (Below.refl _ _) rfl (fun h => by cases h))
        · refine stepJ_any rfl fun ac W hAA hG hDD K hK => ?_
          have h5 := hAA.getD (t := 5) (by kernel_rfl)
          have hgd := hDD.get 17 62 _ rfl rfl (by kernel_rfl)
          have hgd := slot_bool hgd
          simp only [Array.getD_eq_getD_getElem?] at h5
          rw [if_pos (by simp [Region.wanted, yielded, hgd])]
          exact wp_val (v := .slice ax k cx) (w' := W) (by simp [execOp, Act.eval, h5, go_sem]) (hK _ _ hG (Below.refl _ _) rfl (fun h => by cases h))
        · refine stepJ_any rfl fun ac W hAA hG hDD K hK => ?_
          have h68 := hDD.get 23 68 _ rfl rfl (by kernel_rfl)
          have hgd := hDD.get 17 62 _ rfl rfl (by kernel_rfl)
          have hgd := slot_bool hgd
          simp only [Array.getD_eq_getD_getElem?] at h68
          rw [if_pos (by simp [Region.wanted, yielded, hgd])]
          refine wp_call (f := 15) (args := #[.slice ax k cx]) (by simp [execOp, Act.eval, h68, go_sem]) ((hHd.out W hG).mono fun e W9 he => ?_)
          obtain ⟨rfl, hbw⟩ := he
          exact hK _ _ (hG.trans (hbw.mono hG.size)) hbw rfl (fun h => by cases h)
        · refine stepJ_any rfl fun ac W hAA hG hDD K hK => ?_
          have h67 := hDD.get 22 67 _ rfl rfl (by kernel_rfl)
          have h69 := hDD.get 24 69 _ rfl rfl (by kernel_rfl)
          have hgd := hDD.get 17 62 _ rfl rfl (by kernel_rfl)
          have hgd := slot_bool hgd
          simp only [Array.getD_eq_getD_getElem?] at h67 h69
          have hq := hqH.out W
          rw [if_pos (by simp [Region.wanted, yielded, hgd])]
          exact wp_val (v := .bool false) (w' := W) (by simp [execOp, Act.eval, h67, h69, go_sem, hq]) (hK _ _ hG (Below.refl _ _) rfl (fun h => by cases h))
        · refine stepJ_any rfl fun ac W hAA hG hDD K hK => ?_
          have h62 := hDD.get 17 62 _ rfl rfl (by kernel_rfl)
          have h70 := hDD.get 25 70 _ rfl rfl (by kernel_rfl)
          simp only [Array.getD_eq_getD_getElem?] at h62 h70
          rw [if_pos (by rfl)]
          exact wp_val (v := .bool false) (w' := W) (by simp [execOp, Act.eval, h62, h70, go_sem]) (hK _ _ hG (Below.refl _ _) rfl (fun h => by cases h))
        · refine stepJ_any rfl fun ac W hAA hG hDD K hK => ?_
          have h71 := hDD.get 26 71 _ rfl rfl (by kernel_rfl)
          simp only [Array.getD_eq_getD_getElem?] at h71
          rw [if_pos (by rfl)]
          exact wp_val (v := .bool false) (w' := W) (by simp [execOp, Act.eval, h71, go_sem]) (hK _ _ hG (Below.refl _ _) rfl (fun h => by cases h))
        · refine stepJ_any rfl fun ac W hAA hG hDD K hK => ?_
          have h7 := hAA.getD (t := 7) (by kernel_rfl)
          have hgd := hDD.get 27 72 _ rfl rfl (by kernel_rfl)
          have hgd := slot_bool hgd
          simp only [Array.getD_eq_getD_getElem?] at h7
          rw [if_pos (by simp [Region.wanted, yielded, hgd])]
          exact wp_val (v := .slice (some ⟨b2, o2, none⟩) (k + 1) c2) (w' := W) (by simp [execOp, Act.eval, h7, go_sem]) (hK _ _ hG (Below.refl _ _) rfl (fun h => by cases h))
        · refine stepJ_any rfl fun ac W hAA hG hDD K hK => ?_
          have h6 := hAA.getD (t := 6) (by kernel_rfl)
          have hgd := hDD.get 27 72 _ rfl rfl (by kernel_rfl)
          have hgd := slot_bool hgd
          simp only [Array.getD_eq_getD_getElem?] at h6
          rw [if_pos (by simp [Region.wanted, yielded, hgd])]
          exact wp_val (v := .int .i64 (k : Int)) (w' := W) (by simp [execOp, Act.eval, h6, go_sem]) (hK _ _ hG (Below.refl _ _) rfl (fun h => by cases h))
        · refine stepJ_any rfl fun ac W hAA hG hDD K hK => ?_
          have h73 := hDD.get 28 73 _ rfl rfl (by kernel_rfl)
          have h74 := hDD.get 29 74 _ rfl rfl (by kernel_rfl)
          have hgd := hDD.get 27 72 _ rfl rfl (by kernel_rfl)
          have hgd := slot_bool hgd
          simp only [Array.getD_eq_getD_getElem?] at h73 h74
          rw [if_pos (by simp [Region.wanted, yielded, hgd])]
          exact wp_val (v := .pointer (some ⟨b2, o2 + k * 35, none⟩)) (w' := W) (by simp [execOp, Act.eval, h73, h74, go_sem, i0, i1]) (hK _ _ hG (Below.refl _ _) rfl (fun h => by cases h))
        · refine stepJ_any rfl fun ac W hAA hG hDD K hK => ?_
          have h75 := hDD.get 30 75 _ rfl rfl (by kernel_rfl)
          have hgd := hDD.get 27 72 _ rfl rfl (by kernel_rfl)
          have hgd := slot_bool hgd
          simp only [Array.getD_eq_getD_getElem?] at h75
          rw [if_pos (by simp [Region.wanted, yielded, hgd])]
          exact wp_val (v := .pointer (some ⟨b2, o2 + k * 35 + 1, none⟩)) (w' := W) (by simp [execOp, Act.eval, h75, go_sem]) (hK _ _ hG (Below.refl _ _) rfl (fun h => by cases h))
        · refine stepJ_any rfl fun ac W hAA hG hDD K hK => ?_
          have h76 := hDD.get 31 76 _ rfl rfl (by kernel_rfl)
          have hgd := hDD.get 27 72 _ rfl rfl (by kernel_rfl)
          have hgd := slot_bool hgd
          simp only [Array.getD_eq_getD_getElem?] at h76
          have m1 := hNo.out W hG
          rw [if_pos (by simp [Region.wanted, yielded, hgd])]
          exact wp_val (v := .int .i64 (k : Int)) (w' := W) (by simp [execOp, Act.eval, h76, go_sem, m1]) (hK _ _ hG (Below.refl _ _) rfl (fun h => by cases h))
        · refine stepJ_any rfl fun ac W hAA hG hDD K hK => ?_
          have h6 := hAA.getD (t := 6) (by kernel_rfl)
          have hgd := hDD.get 27 72 _ rfl rfl (by kernel_rfl)
          have hgd := slot_bool hgd
          simp only [Array.getD_eq_getD_getElem?] at h6
          rw [if_pos (by simp [Region.wanted, yielded, hgd])]
          exact wp_val (v := .int .i64 (k : Int)) (w' := W) (by simp [execOp, Act.eval, h6, go_sem]) (hK _ _ hG (Below.refl _ _) rfl (fun h => by cases h))
        · refine stepJ_any rfl fun ac W hAA hG hDD K hK => ?_
          have h77 := hDD.get 32 77 _ rfl rfl (by kernel_rfl)
          have h78 := hDD.get 33 78 _ rfl rfl (by kernel_rfl)
          have hgd := hDD.get 27 72 _ rfl rfl (by kernel_rfl)
          have hgd := slot_bool hgd
          simp only [Array.getD_eq_getD_getElem?] at h77 h78
          rw [if_pos (by simp [Region.wanted, yielded, hgd])]
          exact wp_val (v := .bool false) (w' := W) (by simp [execOp, Act.eval, h77, h78, go_sem]) (hK _ _ hG (Below.refl _ _) rfl (fun h => by cases h))
        · refine stepJ_any rfl fun ac W hAA hG hDD K hK => ?_
          have h72 := hDD.get 27 72 _ rfl rfl (by kernel_rfl)
          have h79 := hDD.get 34 79 _ rfl rfl (by kernel_rfl)
          simp only [Array.getD_eq_getD_getElem?] at h72 h79
          rw [if_pos (by rfl)]
          exact wp_val (v := .bool false) (w' := W) (by simp [execOp, Act.eval, h72, h79, go_sem]) (hK _ _ hG (Below.refl _ _) rfl (fun h => by cases h))
        · refine stepJ_any rfl fun ac W hAA hG hDD K hK => ?_
          have h80 := hDD.get 35 80 _ rfl rfl (by kernel_rfl)
          simp only [Array.getD_eq_getD_getElem?] at h80
          rw [if_pos (by rfl)]
          exact wp_val (v := .bool false) (w' := W) (by simp [execOp, Act.eval, h80, go_sem]) (hK _ _ hG (Below.refl _ _) rfl (fun h => by cases h))
        · refine stepJ_any rfl fun ac W hAA hG hDD K hK => ?_
          have h7 := hAA.getD (t := 7) (by kernel_rfl)
          have hgd := hDD.get 36 81 _ rfl rfl (by kernel_rfl)
          have hgd := slot_bool hgd
          simp only [Array.getD_eq_getD_getElem?] at h7
          rw [if_pos (by simp [Region.wanted, yielded, hgd])]
          exact wp_val (v := .slice (some ⟨b2, o2, none⟩) (k + 1) c2) (w' := W) (by simp [execOp, Act.eval, h7, go_sem]) (hK _ _ hG (Below.refl _ _) rfl (fun h => by cases h))
        · refine stepJ_any rfl fun ac W hAA hG hDD K hK => ?_
          have h6 := hAA.getD (t := 6) (by kernel_rfl)
          have hgd := hDD.get 36 81 _ rfl rfl (by kernel_rfl)
          have hgd := slot_bool hgd
          simp only [Array.getD_eq_getD_getElem?] at h6
          rw [if_pos (by simp [Region.wanted, yielded, hgd])]
          exact wp_val (v := .int .i64 (k : Int)) (w' := W) (by simp [execOp, Act.eval, h6, go_sem]) (hK _ _ hG (Below.refl _ _) rfl (fun h => by cases h))
        · refine stepJ_any rfl fun ac W hAA hG hDD K hK => ?_
          have h82 := hDD.get 37 82 _ rfl rfl (by kernel_rfl)
          have h83 := hDD.get 38 83 _ rfl rfl (by kernel_rfl)
          have hgd := hDD.get 36 81 _ rfl rfl (by kernel_rfl)
          have hgd := slot_bool hgd
          simp only [Array.getD_eq_getD_getElem?] at h82 h83
          rw [if_pos (by simp [Region.wanted, yielded, hgd])]
          exact wp_val (v := .pointer (some ⟨b2, o2 + k * 35, none⟩)) (w' := W) (by simp [execOp, Act.eval, h82, h83, go_sem, i0, i1]) (hK _ _ hG (Below.refl _ _) rfl (fun h => by cases h))
        · refine stepJ_any rfl fun ac W hAA hG hDD K hK => ?_
          have h84 := hDD.get 39 84 _ rfl rfl (by kernel_rfl)
          have hgd := hDD.get 36 81 _ rfl rfl (by kernel_rfl)
          have hgd := slot_bool hgd
          simp only [Array.getD_eq_getD_getElem?] at h84
          rw [if_pos (by simp [Region.wanted, yielded, hgd])]
          exact wp_val (v := .pointer (some ⟨b2, o2 + k * 35, none⟩)) (w' := W) (by simp [execOp, Act.eval, h84, go_sem]) (hK _ _ hG (Below.refl _ _) rfl (fun h => by cases h))
        · refine stepJ_any rfl fun ac W hAA hG hDD K hK => ?_
          have h85 := hDD.get 40 85 _ rfl rfl (by kernel_rfl)
          have hgd := hDD.get 36 81 _ rfl rfl (by kernel_rfl)
          have hgd := slot_bool hgd
          simp only [Array.getD_eq_getD_getElem?] at h85
          have m1 := hNd.out W hG
          rw [if_pos (by simp [Region.wanted, yielded, hgd])]
          exact wp_val (v := .int .i64 node) (w' := W) (by simp [execOp, Act.eval, h85, go_sem, m1]) (hK _ _ hG (Below.refl _ _) rfl (fun h => by cases h))
        · refine stepJ_any rfl fun ac W hAA hG hDD K hK => ?_
          have h0 := hAA.getD (t := 0) (by kernel_rfl)
          have hgd := hDD.get 36 81 _ rfl rfl (by kernel_rfl)
          have hgd := slot_bool hgd
          simp only [Array.getD_eq_getD_getElem?] at h0
          rw [if_pos (by simp [Region.wanted, yielded, hgd])]
          exact wp_val (v := .int .i64 node) (w' := W) (by simp [execOp, Act.eval, h0, go_sem]) (hK _ _ hG (Below.refl _ _) rfl (fun h => by cases h))
        · refine stepJ_any rfl fun ac W hAA hG hDD K hK => ?_
          have h86 := hDD.get 41 86 _ rfl rfl (by kernel_rfl)
          have h87 := hDD.get 42 87 _ rfl rfl (by kernel_rfl)
          have hgd := hDD.get 36 81 _ rfl rfl (by kernel_rfl)
          have hgd := slot_bool hgd
          simp only [Array.getD_eq_getD_getElem?] at h86 h87
          rw [if_pos (by simp [Region.wanted, yielded, hgd])]
          exact wp_val (v := .bool false) (w' := W) (by simp [execOp, Act.eval, h86, h87, go_sem]) (hK _ _ hG (Below.refl _ _) rfl (fun h => by cases h))
        · refine stepJ_any rfl fun ac W hAA hG hDD K hK => ?_
          have h81 := hDD.get 36 81 _ rfl rfl (by kernel_rfl)
          have h88 := hDD.get 43 88 _ rfl rfl (by kernel_rfl)
          simp only [Array.getD_eq_getD_getElem?] at h81 h88
          rw [if_pos (by rfl)]
          exact wp_val (v := .bool false) (w' := W) (by simp [execOp, Act.eval, h81, h88, go_sem]) (hK _ _ hG (Below.refl _ _) rfl (fun h => by cases h))
        · refine stepJ_any rfl fun ac W hAA hG hDD K hK => ?_
          have h89 := hDD.get 44 89 _ rfl rfl (by kernel_rfl)
          simp only [Array.getD_eq_getD_getElem?] at h89
          rw [if_pos (by rfl)]
          exact wp_val (v := .bool false) (w' := W) (by simp [execOp, Act.eval, h89, go_sem]) (hK _ _ hG (Below.refl _ _) rfl (fun h => by cases h))
        · refine stepJ_any rfl fun ac W hAA hG hDD K hK => ?_
          have h7 := hAA.getD (t := 7) (by kernel_rfl)
          have hgd := hDD.get 45 90 _ rfl rfl (by kernel_rfl)
          have hgd := slot_bool hgd
          simp only [Array.getD_eq_getD_getElem?] at h7
          rw [if_pos (by simp [Region.wanted, yielded, hgd])]
          exact wp_val (v := .slice (some ⟨b2, o2, none⟩) (k + 1) c2) (w' := W) (by simp [execOp, Act.eval, h7, go_sem]) (hK _ _ hG (Below.refl _ _) rfl (fun h => by cases h))
        · refine stepJ_any rfl fun ac W hAA hG hDD K hK => ?_
          have h6 := hAA.getD (t := 6) (by kernel_rfl)
          have hgd := hDD.get 45 90 _ rfl rfl (by kernel_rfl)
          have hgd := slot_bool hgd
          simp only [Array.getD_eq_getD_getElem?] at h6
          rw [if_pos (by simp [Region.wanted, yielded, hgd])]
          exact wp_val (v := .int .i64 (k : Int)) (w' := W) (by simp [execOp, Act.eval, h6, go_sem]) (hK _ _ hG (Below.refl _ _) rfl (fun h => by cases h))
        · refine stepJ_any rfl fun ac W hAA hG hDD K hK => ?_
          have h91 := hDD.get 46 91 _ rfl rfl (by kernel_rfl)
          have h92 := hDD.get 47 92 _ rfl rfl (by kernel_rfl)
          have hgd := hDD.get 45 90 _ rfl rfl (by kernel_rfl)
          have hgd := slot_bool hgd
          simp only [Array.getD_eq_getD_getElem?] at h91 h92
          rw [if_pos (by simp [Region.wanted, yielded, hgd])]
          exact wp_val (v := .pointer (some ⟨b2, o2 + k * 35, none⟩)) (w' := W) (by simp [execOp, Act.eval, h91, h92, go_sem, i0, i1]) (hK _ _ hG (Below.refl _ _) rfl (fun h => by cases h))
        · refine stepJ_any rfl fun ac W hAA hG hDD K hK => ?_
          have h93 := hDD.get 48 93 _ rfl rfl (by kernel_rfl)
          have hgd := hDD.get 45 90 _ rfl rfl (by kernel_rfl)
          have hgd := slot_bool hgd
          simp only [Array.getD_eq_getD_getElem?] at h93
          rw [if_pos (by simp [Region.wanted, yielded, hgd])]
          exact wp_val (v := .pointer (some ⟨b2, o2 + k * 35 + 34, none⟩)) (w' := W) (by simp [execOp, Act.eval, h93, go_sem]) (hK _ _ hG (Below.refl _ _) rfl (fun h => by cases h))
        · refine stepJ_any rfl fun ac W hAA hG hDD K hK => ?_
          have h94 := hDD.get 49 94 _ rfl rfl (by kernel_rfl)
          have hgd := hDD.get 45 90 _ rfl rfl (by kernel_rfl)
          have hgd := slot_bool hgd
          simp only [Array.getD_eq_getD_getElem?] at h94
          have m1 := hDa.out W hG
          rw [if_pos (by simp [Region.wanted, yielded, hgd])]
          exact wp_val (v := .slice d2 bs.length e2) (w' := W) (by simp [execOp, Act.eval, h94, go_sem, m1]) (hK _ _ hG (Below.refl _ _) rfl (fun h => by cases h))
        · refine stepJ_any rfl fun ac W hAA hG hDD K hK => ?_
          have h95 := hDD.get 50 95 _ rfl rfl (by kernel_rfl)
          have hgd := hDD.get 45 90 _ rfl rfl (by kernel_rfl)
          have hgd := slot_bool hgd
          simp only [Array.getD_eq_getD_getElem?] at h95
          have m1 := hcv1.out W hG
          rw [if_pos (by simp [Region.wanted, yielded, hgd])]
          exact wp_val (v := .string ⟨bs.toArray⟩) (w' := W) (by simp [execOp, Act.eval, h95, go_sem, m1]) (hK _ _ hG (Below.refl _ _) rfl (fun h => by cases h))
        · refine stepJ_any rfl fun ac W hAA hG hDD K hK => ?_
          have h1 := hAA.getD (t := 1) (by kernel_rfl)
          have hgd := hDD.get 45 90 _ rfl rfl (by kernel_rfl)
          have hgd := slot_bool hgd
          simp only [Array.getD_eq_getD_getElem?] at h1
          rw [if_pos (by simp [Region.wanted, yielded, hgd])]
          exact wp_val (v := .slice (some ⟨bl, ol, none⟩) ls.length cl) (w' := W) (by simp [execOp, Act.eval, h1, go_sem]) (hK _ _ hG (Below.refl _ _) rfl (fun h => by cases h))
        · refine stepJ_any rfl fun ac W hAA hG hDD K hK => ?_
          have h6 := hAA.getD (t := 6) (by kernel_rfl)
          have hgd := hDD.get 45 90 _ rfl rfl (by kernel_rfl)
          have hgd := slot_bool hgd
          simp only [Array.getD_eq_getD_getElem?] at h6
          rw [if_pos (by simp [Region.wanted, yielded, hgd])]
          exact wp_val (v := .int .i64 (k : Int)) (w' := W) (by simp [execOp, Act.eval, h6, go_sem]) (hK _ _ hG (Below.refl _ _) rfl (fun h => by cases h))
        · refine stepJ_any rfl fun ac W hAA hG hDD K hK => ?_
          have h97 := hDD.get 52 97 _ rfl rfl (by kernel_rfl)
          have h98 := hDD.get 53 98 _ rfl rfl (by kernel_rfl)
          have hgd := hDD.get 45 90 _ rfl rfl (by kernel_rfl)
          have hgd := slot_bool hgd
          simp only [Array.getD_eq_getD_getElem?] at h97 h98
          rw [if_pos (by simp [Region.wanted, yielded, hgd])]
          exact wp_val (v := .pointer (some ⟨bl, ol + k, none⟩)) (w' := W) (by simp [execOp, Act.eval, h97, h98, go_sem, i0, i2]) (hK _ _ hG (Below.refl _ _) rfl (fun h => by cases h))
        · refine stepJ_any rfl fun ac W hAA hG hDD K hK => ?_
          have h99 := hDD.get 54 99 _ rfl rfl (by kernel_rfl)
          have hgd := hDD.get 45 90 _ rfl rfl (by kernel_rfl)
          have hgd := slot_bool hgd
          simp only [Array.getD_eq_getD_getElem?] at h99
          have m1 := hDl.out W hG
          rw [if_pos (by simp [Region.wanted, yielded, hgd])]
          exact wp_val (v := .slice dl bs.length el) (w' := W) (by simp [execOp, Act.eval, h99, go_sem, m1]) (hK _ _ hG (Below.refl _ _) rfl (fun h => by cases h))
        · refine stepJ_any rfl fun ac W hAA hG hDD K hK => ?_
          have h100 := hDD.get 55 100 _ rfl rfl (by kernel_rfl)
          have hgd := hDD.get 45 90 _ rfl rfl (by kernel_rfl)
          have hgd := slot_bool hgd
          simp only [Array.getD_eq_getD_getElem?] at h100
          have m1 := hcv2.out W hG
          rw [if_pos (by simp [Region.wanted, yielded, hgd])]
          exact wp_val (v := .string ⟨bs.toArray⟩) (w' := W) (by simp [execOp, Act.eval, h100, go_sem, m1]) (hK _ _ hG (Below.refl _ _) rfl (fun h => by cases h))
        · refine stepJ_any rfl fun ac W hAA hG hDD K hK => ?_
          have h96 := hDD.get 51 96 _ rfl rfl (by kernel_rfl)
          have h101 := hDD.get 56 101 _ rfl rfl (by kernel_rfl)
          have hgd := hDD.get 45 90 _ rfl rfl (by kernel_rfl)
          have hgd := slot_bool hgd
          simp only [Array.getD_eq_getD_getElem?] at h96 h101
          rw [if_pos (by simp [Region.wanted, yielded, hgd])]
          exact wp_val (v := .bool false) (w' := W) (by simp [execOp, Act.eval, h96, h101, go_sem]) (hK _ _ hG (Below.refl _ _) rfl (fun h => by cases h))
        · refine stepJ_any rfl fun ac W hAA hG hDD K hK => ?_
          have h90 := hDD.get 45 90 _ rfl rfl (by kernel_rfl)
          have h102 := hDD.get 57 102 _ rfl rfl (by kernel_rfl)
          simp only [Array.getD_eq_getD_getElem?] at h90 h102
          rw [if_pos (by rfl)]
          exact wp_val (v := .bool false) (w' := W) (by simp [execOp, Act.eval, h90, h102, go_sem]) (hK _ _ hG (Below.refl _ _) rfl (fun h => by cases h))
      intro fu T W9 hG hF hne hltb
      have e45 : T 45 = .int .i64 0 := hF 0 _ rfl (by omega)
      have e46 : T 46 = .bool false := hF 1 _ rfl (by omega)
      have e47 : T 47 = .bool false := hF 2 _ rfl (by omega)
      have e48 : T 48 = .slice (some ⟨b2, o2, none⟩) (k + 1) c2 := hF 3 _ rfl (by omega)
      have e49 : T 49 = .int .i64 ((k : Int) + 1) := hF 4 _ rfl (by omega)
      have e50 : T 50 = .int .i64 (k : Int) := hF 5 _ rfl (by omega)
      have e51 : T 51 = .int .i64 ((k : Int) + 1) := hF 6 _ rfl (by omega)
      have e52 : T 52 = .bool false := hF 7 _ rfl (by omega)
      have e53 : T 53 = .bool false := hF 8 _ rfl (by omega)
      have e54 : T 54 = .bool false := hF 9 _ rfl (by omega)
      have e55 : T 55 = .slice (some ⟨b2, o2, none⟩) (k + 1) c2 := hF 10 _ rfl (by omega)
      have e56 : T 56 = .int .i64 (k : Int) := hF 11 _ rfl (by omega)
      have e57 : T 57 = .slice (some ⟨b2, o2, none⟩) k c2 := hF 12 _ rfl (by omega)
      have e58 : T 58 = .slice ax k cx := hF 13 _ rfl (by omega)
      have e59 : T 59 = .bool true := hF 14 _ rfl (by omega)
      have e60 : T 60 = .bool false := hF 15 _ rfl (by omega)
      have e61 : T 61 = .bool false := hF 16 _ rfl (by omega)
      have e62 : T 62 = .bool false := hF 17 _ rfl (by omega)
      have e63 : T 63 = .slice (some ⟨b2, o2, none⟩) (k + 1) c2 := hF 18 _ rfl (by omega)
      have e64 : T 64 = .int .i64 (k : Int) := hF 19 _ rfl (by omega)
      have e65 : T 65 = .pointer (some ⟨b2, o2 + k * 35, none⟩) := hF 20 _ rfl (by omega)
      have e66 : T 66 = .pointer (some ⟨b2, o2 + k * 35 + 2, none⟩) := hF 21 _ rfl (by omega)
      have e67 : T 67 = .agg (BV (headP X)).toArray := hF 22 _ rfl (by omega)
      have e68 : T 68 = .slice ax k cx := hF 23 _ rfl (by omega)
      have e69 : T 69 = .agg (BV (headP X)).toArray := hF 24 _ rfl (by omega)
      have e70 : T 70 = .bool false := hF 25 _ rfl (by omega)
      have e71 : T 71 = .bool false := hF 26 _ rfl (by omega)
      have e72 : T 72 = .bool false := hF 27 _ rfl (by omega)
      have e73 : T 73 = .slice (some ⟨b2, o2, none⟩) (k + 1) c2 := hF 28 _ rfl (by omega)
      have e74 : T 74 = .int .i64 (k : Int) := hF 29 _ rfl (by omega)
      have e75 : T 75 = .pointer (some ⟨b2, o2 + k * 35, none⟩) := hF 30 _ rfl (by omega)
      have e76 : T 76 = .pointer (some ⟨b2, o2 + k * 35 + 1, none⟩) := hF 31 _ rfl (by omega)
      have e77 : T 77 = .int .i64 (k : Int) := hF 32 _ rfl (by omega)
      have e78 : T 78 = .int .i64 (k : Int) := hF 33 _ rfl (by omega)
      have e79 : T 79 = .bool false := hF 34 _ rfl (by omega)
      have e80 : T 80 = .bool false := hF 35 _ rfl (by omega)
      have e81 : T 81 = .bool false := hF 36 _ rfl (by omega)
      have e82 : T 82 = .slice (some ⟨b2, o2, none⟩) (k + 1) c2 := hF 37 _ rfl (by omega)
      have e83 : T 83 = .int .i64 (k : Int) := hF 38 _ rfl (by omega)
      have e84 : T 84 = .pointer (some ⟨b2, o2 + k * 35, none⟩) := hF 39 _ rfl (by omega)
      have e85 : T 85 = .pointer (some ⟨b2, o2 + k * 35, none⟩) := hF 40 _ rfl (by omega)
      have e86 : T 86 = .int .i64 node := hF 41 _ rfl (by omega)
      have e87 : T 87 = .int .i64 node := hF 42 _ rfl (by omega)
      have e88 : T 88 = .bool false := hF 43 _ rfl (by omega)
      have e89 : T 89 = .bool false := hF 44 _ rfl (by omega)
      have e90 : T 90 = .bool false := hF 45 _ rfl (by omega)
      have e91 : T 91 = .slice (some ⟨b2, o2, none⟩) (k + 1) c2 := hF 46 _ rfl (by omega)
      have e92 : T 92 = .int .i64 (k : Int) := hF 47 _ rfl (by omega)
      have e93 : T 93 = .pointer (some ⟨b2, o2 + k * 35, none⟩) := hF 48 _ rfl (by omega)
      have e94 : T 94 = .pointer (some ⟨b2, o2 + k * 35 + 34, none⟩) := hF 49 _ rfl (by omega)
      have e95 : T 95 = .slice d2 bs.length e2 := hF 50 _ rfl (by omega)
      have e96 : T 96 = .string ⟨bs.toArray⟩ := hF 51 _ rfl (by omega)
      have e97 : T 97 = .slice (some ⟨bl, ol, none⟩) ls.length cl := hF 52 _ rfl (by omega)
      have e98 : T 98 = .int .i64 (k : Int) := hF 53 _ rfl (by omega)
      have e99 : T 99 = .pointer (some ⟨bl, ol + k, none⟩) := hF 54 _ rfl (by omega)
      have e100 : T 100 = .slice dl bs.length el := hF 55 _ rfl (by omega)
      have e101 : T 101 = .string ⟨bs.toArray⟩ := hF 56 _ rfl (by omega)
      have e102 : T 102 = .bool false := hF 57 _ rfl (by omega)
      have e103 : T 103 = .bool false := hF 58 _ rfl (by omega)
      clear hF hne hltb
      simp only [List.take, fillT, List.setIfInBounds_toArray, List.set_cons_zero, List.set_cons_succ, e45, e46, e47, e48, e49, e50, e51, e52, e53, e54, e55, e56, e57, e58, e59, e60, e61, e62, e63, e64, e65, e66, e67, e68, e69, e70, e71, e72, e73, e74, e75, e76, e77, e78, e79, e80, e81, e82, e83, e84, e85, e86, e87, e88, e89, e90, e91, e92, e93, e94, e95, e96, e97, e98, e99, e100, e101, e102, e103]
      clear e45 e46 e47 e48 e49 e50 e51 e52 e53 e54 e55 e56 e57 e58 e59 e60 e61 e62 e63 e64 e65 e66 e67 e68 e69 e70 e71 e72 e73 e74 e75 e76 e77 e78 e79 e80 e81 e82 e83 e84 e85 e86 e87 e88 e89 e90 e91 e92 e93 e94 e95 e96 e97 e98 e99 e100 e101 e102 e103
      refine wpAny_done (by kernel_rfl) ?_ _
      have hq9 := Lib.hid (hq2.out.lift hG hG.size)
      have hb9 := Lib.hid (hbV2.out.trans (hG.mono hbV2.out.size))
      clear hG hPv hNd hNo hDa hDl hcv1 hcv2 hHd hSm hs1 hqH hq2 hbV2
      go_wp2_with fail
      go_roundw
      case rel => exact ⟨k + 1, some ⟨b2, o2, none⟩, c2, by go_num, by omega, rfl, hq9, hb9, hallk⟩
      case measure => simp [intOf]; omega
    · obtain rfl : k = ls.length := by omega
      have hkl' : ¬ (ls.length : Int) < ls.length := by omega
      obtain ⟨X, hX⟩ : ∃ X, X = builtP node ls ls.length := ⟨_, rfl⟩
      have hXl : X.length = ls.length := by rw [hX, built_len]
      have hXc : Hid (chkP X = 0) := by show _ = _; rw [hX]; exact built_chain hnd.out ls _ hall.out
      have hXs : Hid (Short X) := by rw [hX]; exact built_short node ls _ hall.out
      rw [← hX] at hq
      clear hX hall
      generalize ls.length = N at *
      go_wp2_with fail
      clear hkl'
      obtain ⟨wq, hwq⟩ : ∃ wq, wq = wr := ⟨_, rfl⟩
      subst hwq
      go_loopw [9] (fun i wr => ∃ j : Nat, i = .int .i64 (j : Int) ∧ j ≤ N + 1 ∧ Hid (Below wq.heap.size wq wr)) (fun i _ => N + 1 - (intOf i).toNat)
      case atStart => exact ⟨0, rfl, by omega, Lib.hid (Below.refl _ _)⟩
      case round =>
        obtain ⟨j, rfl, hj, hbj⟩ := hrel
        by_cases hjl : j ≤ N
        · have hb3 := hb.out.trans (hbj.out.mono hb.out.size)
          have hsj : ∀ W, (Instr.slice 22 (.slice ax N cx) none (some (.int .i64 (j : Int))) none).run Tryd.prog W = .ok (.slice ax j cx) W := fun W => slice_to _ N cx j (Nat.le_trans (by omega) hq.out.1) W
          have hCk := Lib.hid (Check_list (l := X.take j) (chain_take hXc.out j) (hXs.out.take j) (by rw [List.length_take]; omega) j (by rw [List.length_take]; omega) wr ax cx ((hq.out.lift hbj.out hbj.out.size).cut (by omega) (Nat.le_trans (by omega) hq.out.1) (Nat.le_refl _) id (.inl rfl)) (hK.out _ hb3).1 (hK.out _ hb3).2)
          have hjl' : (j : Int) ≤ N := by omega
          clear hb3
          go_wp2_with fail
          refine hCk.out.mono ?_
          rintro e w4 ⟨rfl, hb4⟩
          have hb5 := Lib.hid (hbj.out.trans (hb4.mono hbj.out.size))
          clear hb4 hsj hCk
          go_wp2_with fail
          go_roundw
          case rel => exact ⟨j + 1, by go_num, by omega, hb5⟩
          case measure => simp [intOf]; omega
        · have hjl' : ¬ (j : Int) ≤ N := by omega
          have hb3 := Lib.hid (hb.out.trans (hbj.out.mono hb.out.size))
          go_wp2_with fail
          go_ret
          exact ⟨rfl, hb3.out⟩
end Go.Proofs.YtbhpmeljmkoebaaDoor
