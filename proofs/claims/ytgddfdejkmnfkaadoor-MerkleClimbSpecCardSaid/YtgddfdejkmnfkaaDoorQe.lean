/- The reference's first and next. -/
/- The reference's Root, Prove and Same. -/
import Derived.Test.YtgddfdejkmnfkaaDoorQd
import Derived.Test.YtgddfdejkmnfkaaDoorPr
import Derived.Test.YtgddfdejkmnfkaaDoorMy
namespace Go.Proofs.YtgddfdejkmnfkaaDoor
section
open Go.RowKit

theorem newRow {W : World} {B : Nat} (h : B ≤ W.heap.size) : OD (W.alloc (.cells #[] 30)) B (.slice (some ⟨W.heap.size, 0, none⟩) 0 0) [] := World.ownsRow_lit W #[] 0 h (by unfold maxLen; omega) rfl
theorem rsum_own {W : World} {B : Nat} {v : Value} {l : List UInt8} (ho : OB W B v l) (hp : 0 < l.length) (hl : l.length ≤ 1000000) :
    Calls Tryd.prog 46 #[v] W fun e w' => e = .returned (.agg (BV (sha l)).toArray) ∧ Below W.heap.size W w' := by
  obtain ⟨g, c, rfl, -, -, -⟩ := ho.src hp
  have hre := ho.reads
  exact rSum_any l hl W _ c hre.1 (fun h => by cases h)
set_option maxRecDepth 100000 in
set_option maxHeartbeats 2000000 in
theorem rFirst_any (ls : List (List UInt8)) (hls : ls.length ≤ 100000) (hsm : Small ls) (w : World) (A : Option Addr) (c : Nat) (hr : LL w w.heap.size ls A) :
    Calls Tryd.prog 29 #[.slice A ls.length c] w fun e w' => ∃ v, e = .returned v ∧ OD w' w.heap.size v (firstM ls) ∧ Below w.heap.size w w' := by
  have hrH := Lib.hid hr
  have hsmH := Lib.hid hsm
  clear hr hsm
  go_enter Tryd.func29, Tryd.ntmps29
  go_wp2_with fail
  go_loopw [3, 4] (fun v i wr => ∃ k : Nat, k ≤ ls.length ∧ i = .int .i64 k ∧ (∃ a cz, v = .slice a k cz) ∧ Hid (OD wr w.heap.size v (firstM (ls.take k)) ∧ Below w.heap.size w wr)) (fun _ i _ => ls.length - (intOf i).toNat)
  case atStart => exact ⟨0, Nat.zero_le _, rfl, ⟨_, _, rfl⟩, newRow (Nat.le_refl _), bel1 w _⟩
  case round =>
    obtain ⟨k, hk, rfl, ⟨a, cz, rfl⟩, hI⟩ := hrel
    by_cases hlt : k < ls.length
    · have hlt' : (k : Int) < (ls.length : Int) := by omega
      have hw1 : IntKind.i64.wrap ((k : Int) + 1) = (k : Int) + 1 := IntWalk.i64_in _ (by omega)
      obtain ⟨b, off, a1, c1, rfl, hb, hc, hrb, hn, hcc⟩ := (hrH.out.lift hI.out.2 hI.out.2.size).at_ hlt
      have hx := hsmH.out ls[k] (List.getElem_mem hlt)
      have hT := rText_any leafB (by decide +kernel) ls[k] (by omega) wr a1 c1 hrb hn
      have hlen := leafM_len ls[k]
      have hft := Lib.hid (firstM_take hlt)
      generalize ls[k] = x at *
      replace hT := Lib.hid hT
      clear hrb hn
      go_wp2_with fail
      refine hT.out.mono ?_
      rintro e w2 ⟨v2, rfl, ho2, hb2⟩
      have hB2 := hI.out.2.trans (hb2.mono hI.out.2.size)
      have hS : Hid (Calls Tryd.prog 46 #[v2] w2 fun e w' => e = .returned (.agg (BV (sha (leafM x))).toArray) ∧ Below w2.heap.size w2 w') := Lib.hid (rsum_own (l := leafM x) ho2 (by omega) (by omega))
      have hO2 := hI.out.1.below hb2
      clear hT hc ho2 hb2 hI
      go_wp2_with fail
      refine hS.out.mono ?_
      rintro e w3 ⟨rfl, hb3⟩
      have hB3 := hB2.trans (hb3.mono hB2.size)
      have hO3 := hO2.below hb3
      have hb4 := bel1 w3 (.cells (BV (sha (leafM x))).toArray 30)
      have hO4 := hO3.below hb4
      have hB4 := hB3.trans (hb4.mono hB3.size)
      obtain ⟨a5, c5, W5, hr5, hO5, hg5, -⟩ := hO4.app 25 w3.heap.size (sha (leafM x)) (heap_alloc_new w3 _) (sha_length _) (by rw [firstM_len, List.length_take]; omega) hB4.size
      have hB5 := hB4.trans (hO4.app_below hg5 hB4.size)
      have hl5 : (firstM (ls.take k) ++ [sha (leafM x)]).length = k + 1 := by rw [List.length_append, firstM_len, List.length_take]; simp; omega
      rw [hl5] at hr5 hO5
      have hcells := one_cells (sha_length (leafM x))
      have hsz := DV_size (sha_length (leafM x))
      replace hr5 := Lib.hid hr5
      have hfin := Lib.hid (And.intro hO5 hB5)
      clear hS hb3 hO2 hO3 hO4 hb4 hB2 hB3 hB4 hO5 hB5 hg5 hl5
      go_wp2_with (at_builtin; refine Lib.wpList_append_run _ rfl _ _ _ _ rfl _ _ rfl rfl _ _ hr5.out ?_)
      go_roundw
      case rel => exact ⟨k + 1, by omega, by go_num, ⟨a5, c5, rfl⟩, by rw [hft.out]; exact hfin.out⟩
      case measure => simp [intOf]; omega
    · obtain rfl : k = ls.length := by omega
      have hI' := hI.out
      rw [List.take_length] at hI'
      clear hI
      replace hI' := Lib.hid hI'
      go_wp2_with fail
      go_ret
      exact ⟨_, rfl, hI'.out⟩
set_option maxRecDepth 100000 in
set_option maxHeartbeats 4000000 in
theorem rNext_any (l : List (List UInt8)) (hl0 : 0 < l.length) (hl : l.length ≤ 100000) (w : World) (A : Option Addr) (c : Nat) (hR : RD w w.heap.size l A c) :
    Calls Tryd.prog 30 #[.slice A l.length c] w fun e w' => ∃ v, e = .returned v ∧ OD w' w.heap.size v (nextM l) ∧ Below w.heap.size w w' := by
  obtain ⟨b, off, rfl, hbl, -⟩ := hR.at_ (i := 0) hl0
  have h32 := Lib.hid hR.2.2.1
  have hcap := hR.1
  have hu := Lib.hid (show Tryd.prog.underlying 30 = some (.array 32 5) by kernel_rfl)
  have hi := Lib.hid (show (Tryd.prog.info? 30).map (·.size) = some 32 by kernel_rfl)
  have hRH := Lib.hid hR
  clear hR
  go_enter Tryd.func30, Tryd.ntmps30
  go_wp2_with fail
  go_loopw [3, 4] (fun v i wr => ∃ k e : Nat, 2 * k = e ∧ k ≤ (l.length + 1) / 2 ∧ i = .int .i64 e ∧ (∃ a cz, v = .slice a k cz) ∧ Hid (OD wr w.heap.size v (nextTo l k) ∧ Below w.heap.size w wr)) (fun _ i _ => l.length + 2 - (intOf i).toNat)
  case atStart => exact ⟨0, 0, rfl, Nat.zero_le _, rfl, ⟨_, _, rfl⟩, newRow (Nat.le_refl _), bel1 w _⟩
  case round =>
    obtain ⟨k, e, hke2, hk, rfl, ⟨a, cz, rfl⟩, hI⟩ := hrel
    have hO := Lib.hid hI.out.1
    have hB := Lib.hid hI.out.2
    clear hI
    by_cases hlt : e < l.length
    · have hd1 : decide ((e : Int) < (l.length : Int)) = true := decide_eq_true (by omega)
      obtain ⟨f, hef⟩ : ∃ f, e + 1 = f := ⟨_, rfl⟩
      have hw1 : IntKind.i64.wrap ((e : Int) + 1) = (f : Int) := by rw [IntWalk.i64_in _ (by omega)]; omega
      have hw2 : IntKind.i64.wrap ((e : Int) + 2) = (e : Int) + 2 := IntWalk.i64_in _ (by omega)
      have hRw := hRH.out.under hB.out hB.out.size
      obtain ⟨b', off', e', hbw0, hrx0⟩ := hRw.at_ hlt
      injection e' with e'
      injection e' with e1 e2
      subst e1 e2
      have hbw : Hid (b < wr.heap.size) := Lib.hid hbw0
      have hlx := Lib.hid (h32.out l[e] (List.getElem_mem hlt))
      have hgx : l.getD e [] = l[e] := by rw [List.getD_eq_getElem?_getD, List.getElem?_eq_getElem hlt]; rfl
      have hke := Lib.hid hlt
      have hns := nextTo_succ l k
      rw [hke2] at hns
      by_cases hlf : f < l.length
      · have hd2 : decide ((f : Int) < (l.length : Int)) = true := decide_eq_true (by omega)
        obtain ⟨b', off', e', -, hry0⟩ := hRw.at_ hlf
        injection e' with e'
        injection e' with e1 e2
        subst e1 e2
        have hly := Lib.hid (h32.out l[f] (List.getElem_mem hlf))
        have hgy : l.getD f [] = l[f] := by rw [List.getD_eq_getElem?_getD, List.getElem?_eq_getElem hlf]; rfl
        have hch : joinM ((l.drop e).take 2) = sha (nodeM l[e] l[f]) := by
          rw [drop_two (by omega), hgx, hef, hgy]; rfl
        rw [hch] at hns
        have hrx := Lib.hid hrx0
        have hry := Lib.hid hry0
        clear hRw hrx0 hry0 hgx hgy hch
        generalize l[e] = x at *
        generalize l[f] = y at *
        have hkf := Lib.hid hlf
        have hwf := Lib.hid hw1
        have hszj := Lib.hid (DV_size (sha_length (nodeM x y)))
        go_upto_region 6 with fail
        refine wp_region_pre 13 2 (fun W => Below wr.heap.size wr W) (fun W W' => Below W.heap.size W W')
          (fun i v W => match i with
            | 0 => v = .slice a k cz
            | 1 => v = .slice (some ⟨b, off, none⟩) l.length c
            | 2 => v = .int .i64 (e : Int)
            | 3 => v = .pointer (some ⟨b, off + e * 32, none⟩)
            | 4 => v = .agg (BV x).toArray
            | 5 => v = .slice (some ⟨b, off, none⟩) l.length c
            | 6 => v = .int .i64 (e : Int)
            | 7 => v = .int .i64 (f : Int)
            | 8 => v = .pointer (some ⟨b, off + f * 32, none⟩)
            | 9 => v = .agg (BV y).toArray
            | 10 => ∃ u, v = u ∧ OB W wr.heap.size u (nodeM x y)
            | 11 => v = .agg (BV (sha (nodeM x y))).toArray
            | 12 => ∃ g, v = .slice (some ⟨g, 0, none⟩) 1 1 ∧ DB W g 30 (sha (nodeM x y))
            | _ => True) (fun _ => false)
          (by kernel_rfl) (by kernel_rfl) (by kernel_rfl) (by kernel_rfl) (by kernel_rfl) (by kernel_rfl) (by kernel_rfl) ?_ (fun _ _ h => h.size) (dN (Below.refl _ _) 1) ?_ ?_
        · intro i v W W' hb hF
          match i, hF with
          | 0, h => exact h
          | 1, h => exact h
          | 2, h => exact h
          | 3, h => exact h
          | 4, h => exact h
          | 5, h => exact h
          | 6, h => exact h
          | 7, h => exact h
          | 8, h => exact h
          | 9, h => exact h
          | 10, ⟨u, h1, h2⟩ => exact ⟨u, h1, h2.below hb⟩
          | 11, h => exact h
          | 12, ⟨g, h1, h2⟩ => exact ⟨g, h1, blk_at h2 hb⟩
          | _ + 13, _ => trivial
        · refine ⟨?_, ?_, ?_, ?_, ?_, ?_, ?_, ?_, ?_, ?_, ?_, ?_, ?_, trivial⟩
          · refine stepJ_any rfl fun ac W hAA hG hDD K hK => ?_
            have h3 := hAA.getD (t := 3) (by kernel_rfl)
            simp only [Array.getD_eq_getD_getElem?] at h3
            rw [if_pos (by rfl)]
            exact wp_val (v := .slice a k cz) (w' := W) (by simp [execOp, Act.eval, h3, go_sem]) (hK _ _ hG (Below.refl _ _) rfl (fun h => by cases h))
          · refine stepJ_any rfl fun ac W hAA hG hDD K hK => ?_
            have h0 := hAA.getD (t := 0) (by kernel_rfl)
            simp only [Array.getD_eq_getD_getElem?] at h0
            rw [if_pos (by rfl)]
            exact wp_val (v := .slice (some ⟨b, off, none⟩) l.length c) (w' := W) (by simp [execOp, Act.eval, h0, go_sem]) (hK _ _ hG (Below.refl _ _) rfl (fun h => by cases h))
          · refine stepJ_any rfl fun ac W hAA hG hDD K hK => ?_
            have h4 := hAA.getD (t := 4) (by kernel_rfl)
            simp only [Array.getD_eq_getD_getElem?] at h4
            rw [if_pos (by rfl)]
            exact wp_val (v := .int .i64 (e : Int)) (w' := W) (by simp [execOp, Act.eval, h4, go_sem]) (hK _ _ hG (Below.refl _ _) rfl (fun h => by cases h))
          · refine stepJ_any rfl fun ac W hAA hG hDD K hK => ?_
            have h18 := hDD.get 1 18 _ rfl rfl (by kernel_rfl)
            have h19 := hDD.get 2 19 _ rfl rfl (by kernel_rfl)
            simp only [Array.getD_eq_getD_getElem?] at h18 h19
            have hke := hke.out
            rw [if_pos (by rfl)]
            exact wp_val (v := .pointer (some ⟨b, off + e * 32, none⟩)) (w' := W) (by simp [execOp, Act.eval, h18, h19, go_sem, hke]) (hK _ _ hG (Below.refl _ _) rfl (fun h => by cases h))
          · refine stepJ_any rfl fun ac W hAA hG hDD K hK => ?_
            have h20 := hDD.get 3 20 _ rfl rfl (by kernel_rfl)
            rw [if_pos (by rfl)]
            exact wp_load_mid 30 _ rfl b (off + e * 32) h20 (BV x) _ (fun j v hv => ((hG.cell (p := ⟨b, off + e * 32 + j, none⟩) hbw.out).trans (hrx.out j v hv))) hu.out rfl (by rw [hi.out, BV_length, hlx.out]) (hK _ _ hG (Below.refl _ _) rfl (fun h => by cases h))
          · refine stepJ_any rfl fun ac W hAA hG hDD K hK => ?_
            have h0 := hAA.getD (t := 0) (by kernel_rfl)
            simp only [Array.getD_eq_getD_getElem?] at h0
            rw [if_pos (by rfl)]
            exact wp_val (v := .slice (some ⟨b, off, none⟩) l.length c) (w' := W) (by simp [execOp, Act.eval, h0, go_sem]) (hK _ _ hG (Below.refl _ _) rfl (fun h => by cases h))
          · refine stepJ_any rfl fun ac W hAA hG hDD K hK => ?_
            have h4 := hAA.getD (t := 4) (by kernel_rfl)
            simp only [Array.getD_eq_getD_getElem?] at h4
            rw [if_pos (by rfl)]
            exact wp_val (v := .int .i64 (e : Int)) (w' := W) (by simp [execOp, Act.eval, h4, go_sem]) (hK _ _ hG (Below.refl _ _) rfl (fun h => by cases h))
          · refine stepJ_any rfl fun ac W hAA hG hDD K hK => ?_
            have h23 := hDD.get 6 23 _ rfl rfl (by kernel_rfl)
            simp only [Array.getD_eq_getD_getElem?] at h23
            have hwf := hwf.out
            rw [if_pos (by rfl)]
            exact wp_val (v := .int .i64 (f : Int)) (w' := W) (by simp [execOp, Act.eval, h23, go_sem, hwf]) (hK _ _ hG (Below.refl _ _) rfl (fun h => by cases h))
          · refine stepJ_any rfl fun ac W hAA hG hDD K hK => ?_
            have h22 := hDD.get 5 22 _ rfl rfl (by kernel_rfl)
            have h24 := hDD.get 7 24 _ rfl rfl (by kernel_rfl)
            simp only [Array.getD_eq_getD_getElem?] at h22 h24
            have hkf := hkf.out
            rw [if_pos (by rfl)]
            exact wp_val (v := .pointer (some ⟨b, off + f * 32, none⟩)) (w' := W) (by simp [execOp, Act.eval, h22, h24, go_sem, hkf]) (hK _ _ hG (Below.refl _ _) rfl (fun h => by cases h))
          · refine stepJ_any rfl fun ac W hAA hG hDD K hK => ?_
            have h25 := hDD.get 8 25 _ rfl rfl (by kernel_rfl)
            rw [if_pos (by rfl)]
            exact wp_load_mid 30 _ rfl b (off + f * 32) h25 (BV y) _ (fun j v hv => ((hG.cell (p := ⟨b, off + f * 32 + j, none⟩) hbw.out).trans (hry.out j v hv))) hu.out rfl (by rw [hi.out, BV_length, hly.out]) (hK _ _ hG (Below.refl _ _) rfl (fun h => by cases h))
          · refine stepJ_any rfl fun ac W hAA hG hDD K hK => ?_
            have h21 := hDD.get 4 21 _ rfl rfl (by kernel_rfl)
            have h26 := hDD.get 9 26 _ rfl rfl (by kernel_rfl)
            rw [if_pos (by rfl)]
            simp only [Array.getD_eq_getD_getElem?] at h21 h26
            refine wp_call (f := 48) (args := #[.agg (BV x).toArray, .agg (BV y).toArray]) (by simp [execOp, Act.eval, h21, h26, go_sem]) ((rTwo_any x y hlx.out hly.out W).mono fun e W9 he => ?_)
            obtain ⟨u, rfl, ho, hbw9⟩ := he
            exact hK _ _ (hG.trans (hbw9.mono hG.size)) hbw9 ⟨u, rfl, ho.mono hG.size⟩ (fun h => by cases h)
          · refine stepJ_any rfl fun ac W hAA hG hDD K hK => ?_
            obtain ⟨u10, h27, ho10⟩ := hDD.get 10 27 _ rfl rfl (by kernel_rfl)
            rw [if_pos (by rfl)]
            simp only [Array.getD_eq_getD_getElem?] at h27
            refine wp_call (f := 46) (args := #[u10]) (by simp [execOp, Act.eval, h27, go_sem]) ((rsum_own ho10 (by rw [nodeM_len hlx.out hly.out]; omega) (by rw [nodeM_len hlx.out hly.out]; omega)).mono fun e W9 he => ?_)
            obtain ⟨rfl, hbw9⟩ := he
            exact hK _ _ (hG.trans (hbw9.mono hG.size)) hbw9 rfl (fun h => by cases h)
          · refine stepJ_any rfl fun ac W hAA hG hDD K hK => ?_
            have h28 := hDD.get 11 28 _ rfl rfl (by kernel_rfl)
            rw [if_pos (by rfl)]
            simp only [Array.getD_eq_getD_getElem?] at h28
            exact wp_val (v := .slice (some ⟨W.heap.size, 0, none⟩) 1 1) (w' := W.alloc (.cells (BV (sha (nodeM x y))).toArray 30)) (by simp [execOp, Act.eval, h28, hszj.out, go_sem]; rw [one_cells (sha_length _)]) (hK _ _ (hG.alloc hG.size _) (bel1 W _) ⟨_, rfl, heap_alloc_new W _⟩ (fun h => by cases h))
        intro fu T w9 hG hF hne hltb
        have e17 : T 17 = .slice a k cz := hF 0 _ rfl (by omega)
        have e18 : T 18 = .slice (some ⟨b, off, none⟩) l.length c := hF 1 _ rfl (by omega)
        have e19 : T 19 = .int .i64 (e : Int) := hF 2 _ rfl (by omega)
        have e20 : T 20 = .pointer (some ⟨b, off + e * 32, none⟩) := hF 3 _ rfl (by omega)
        have e21 : T 21 = .agg (BV x).toArray := hF 4 _ rfl (by omega)
        have e22 : T 22 = .slice (some ⟨b, off, none⟩) l.length c := hF 5 _ rfl (by omega)
        have e23 : T 23 = .int .i64 (e : Int) := hF 6 _ rfl (by omega)
        have e24 : T 24 = .int .i64 (f : Int) := hF 7 _ rfl (by omega)
        have e25 : T 25 = .pointer (some ⟨b, off + f * 32, none⟩) := hF 8 _ rfl (by omega)
        have e26 : T 26 = .agg (BV y).toArray := hF 9 _ rfl (by omega)
        obtain ⟨u10, e27, -⟩ := hF 10 _ rfl (by omega)
        replace e27 : T 27 = _ := e27
        have e28 : T 28 = .agg (BV (sha (nodeM x y))).toArray := hF 11 _ rfl (by omega)
        obtain ⟨g4, e29, hg4⟩ := hF 12 _ rfl (by omega)
        replace e29 : T 29 = _ := e29
        clear hF hne hltb
        simp only [List.take, fillT, List.setIfInBounds_toArray, List.set_cons_zero, List.set_cons_succ, e17, e18, e19, e20, e21, e22, e23, e24, e25, e26, e27, e28, e29]
        clear e17 e18 e19 e20 e21 e22 e23 e24 e25 e26 e27 e28 e29
        have hO9 := hO.out.below hG
        obtain ⟨a5, c5, W5, hr5, hO5, hg5, -⟩ := hO9.app 25 g4 _ hg4 (sha_length _) (by rw [nextTo_len]; omega) (by have := hG.size; have := hB.out.size; omega)
        have hB5 := Lib.hid ((hB.out.trans (hG.mono hB.out.size)).trans ((hO9.app_below hg5 (by have := hG.size; have := hB.out.size; omega)).mono (by omega)))
        have hl5 : (nextTo l k ++ [sha (nodeM x y)]).length = k + 1 := by rw [List.length_append, nextTo_len]; rfl
        rw [hl5] at hr5 hO5
        rw [← hns] at hO5
        replace hO5 := Lib.hid hO5
        clear hO9 hg5 hl5
        refine wpAny_ready (rs := [13]) (by kernel_rfl) (by simp) (AllReady.cons (o := ⟨(some 30), (Op.call { callee := (Callee.builtin Builtin.append), args := #[(Operand.tmp 17), (Operand.tmp 29)], argTypes := #[25, 25] }), _, _, _, none⟩) rfl (fun K1 hK1 => ?_) AllReady.nil)
        rw [if_pos (by rfl)]
        refine Lib.wp_append_run w9 (.tmp 17) (.tmp 29) 25 25 rfl _ _ rfl rfl _ W5 hr5 ?_
        refine hK1 _ _ ?_
        clear hK1 K1 hr5
        refine wpAny_ready (rs := [14]) (by kernel_rfl) (by simp) (AllReady.cons (o := ⟨(some 3), (Op.assign (Operand.tmp 30)), _, _, _, none⟩) rfl (fun K1 hK1 => ?_) AllReady.nil)
        rw [if_pos (by rfl)]
        refine wp_val (v := .slice a5 (k + 1) c5) (w' := W5) (by simp [execOp, Act.eval, go_sem]) ?_
        refine hK1 _ _ ?_
        clear hK1 K1
        refine wpAny_done (by kernel_rfl) ?_ _
        simp only [Act.put, List.setIfInBounds_toArray, List.set_cons_zero, List.set_cons_succ]
        go_wp2_with fail
        go_roundw
        case rel => exact ⟨k + 1, e + 2, by omega, by omega, by go_num, ⟨a5, c5, rfl⟩, hO5.out, hB5.out⟩
        case measure => simp [intOf]; omega
      · have hd2 : decide ((f : Int) < (l.length : Int)) = false := decide_eq_false (by omega)
        have hch : joinM ((l.drop e).take 2) = l[e] := by
          rw [drop_last (by omega), hgx]; rfl
        rw [hch] at hns
        have hrx := Lib.hid hrx0
        clear hRw hrx0 hgx hch
        generalize l[e] = x at *
        have hi' := hi.out
        have hlxx := hlx.out
        have hb4 := bel1 wr (.cells (BV x).toArray 30)
        have hO4 := hO.out.below hb4
        have hB4 := hB.out.trans (hb4.mono hB.out.size)
        obtain ⟨a5, c5, W5, hr5, hO5, hg5, -⟩ := hO4.app 25 wr.heap.size x (heap_alloc_new wr _) hlxx (by rw [nextTo_len]; omega) hB4.size
        have hB5 := hB4.trans (hO4.app_below hg5 hB4.size)
        have hl5 : (nextTo l k ++ [x]).length = k + 1 := by rw [List.length_append, nextTo_len]; rfl
        rw [hl5] at hr5 hO5
        rw [← hns] at hO5
        have hcells := one_cells hlxx
        have hsz := DV_size hlxx
        replace hr5 := Lib.hid hr5
        have hfin := Lib.hid (And.intro hO5 hB5)
        clear hO4 hb4 hB4 hO5 hB5 hg5 hl5
        go_wp2_with (first
          | (refine wpList_load_mid rfl 30 _ rfl b (off + e * 32) rfl _ _ hrx.out hu.out rfl ?ca ?_; case ca => rw [hi', BV_length, hlxx])
          | (at_builtin; refine Lib.wpList_append_run _ rfl _ _ _ _ rfl _ _ rfl rfl _ _ hr5.out ?_))
        go_roundw
        case rel => exact ⟨k + 1, e + 2, by omega, by omega, by go_num, ⟨a5, c5, rfl⟩, hfin.out⟩
        case measure => simp [intOf]; omega
    · have hd1 : decide ((e : Int) < (l.length : Int)) = false := decide_eq_false (by omega)
      obtain rfl : k = (l.length + 1) / 2 := by omega
      go_wp2_with fail
      go_ret
      exact ⟨_, rfl, hO.out, hB.out⟩
end
section
open Go.RowKit

set_option maxRecDepth 100000 in
set_option maxHeartbeats 2000000 in
theorem rRoot_nil (w : World) (A : Option Addr) (c : Nat) :
    Calls Tryd.prog 15 #[.slice A 0 c] w fun e w' => e = .returned (.agg (BV (rootM [])).toArray) ∧ Below w.heap.size w w' := by
  have hb1 := bel1 w (.cells #[.int .u8 0, .int .u8 0, .int .u8 0, .int .u8 0, .int .u8 0, .int .u8 0, .int .u8 0, .int .u8 0, .int .u8 0, .int .u8 0, .int .u8 0, .int .u8 0, .int .u8 0, .int .u8 0, .int .u8 0, .int .u8 0, .int .u8 0, .int .u8 0, .int .u8 0, .int .u8 0, .int .u8 0, .int .u8 0, .int .u8 0, .int .u8 0, .int .u8 0, .int .u8 0, .int .u8 0, .int .u8 0, .int .u8 0, .int .u8 0, .int .u8 0, .int .u8 0] 30)
  have hd := heap_alloc_new w (.cells #[.int .u8 0, .int .u8 0, .int .u8 0, .int .u8 0, .int .u8 0, .int .u8 0, .int .u8 0, .int .u8 0, .int .u8 0, .int .u8 0, .int .u8 0, .int .u8 0, .int .u8 0, .int .u8 0, .int .u8 0, .int .u8 0, .int .u8 0, .int .u8 0, .int .u8 0, .int .u8 0, .int .u8 0, .int .u8 0, .int .u8 0, .int .u8 0, .int .u8 0, .int .u8 0, .int .u8 0, .int .u8 0, .int .u8 0, .int .u8 0, .int .u8 0, .int .u8 0] 30)
  have hT : Calls Tryd.prog 31 #[.string noneB, .slice none 0 0] (w.alloc (.cells #[.int .u8 0, .int .u8 0, .int .u8 0, .int .u8 0, .int .u8 0, .int .u8 0, .int .u8 0, .int .u8 0, .int .u8 0, .int .u8 0, .int .u8 0, .int .u8 0, .int .u8 0, .int .u8 0, .int .u8 0, .int .u8 0, .int .u8 0, .int .u8 0, .int .u8 0, .int .u8 0, .int .u8 0, .int .u8 0, .int .u8 0, .int .u8 0, .int .u8 0, .int .u8 0, .int .u8 0, .int .u8 0, .int .u8 0, .int .u8 0, .int .u8 0, .int .u8 0] 30)) (fun e w' => e = .returned (.agg (BV (tagH noneB.data.toList [])).toArray) ∧ Below (w.alloc (.cells #[.int .u8 0, .int .u8 0, .int .u8 0, .int .u8 0, .int .u8 0, .int .u8 0, .int .u8 0, .int .u8 0, .int .u8 0, .int .u8 0, .int .u8 0, .int .u8 0, .int .u8 0, .int .u8 0, .int .u8 0, .int .u8 0, .int .u8 0, .int .u8 0, .int .u8 0, .int .u8 0, .int .u8 0, .int .u8 0, .int .u8 0, .int .u8 0, .int .u8 0, .int .u8 0, .int .u8 0, .int .u8 0, .int .u8 0, .int .u8 0, .int .u8 0, .int .u8 0] 30)).heap.size (w.alloc (.cells #[.int .u8 0, .int .u8 0, .int .u8 0, .int .u8 0, .int .u8 0, .int .u8 0, .int .u8 0, .int .u8 0, .int .u8 0, .int .u8 0, .int .u8 0, .int .u8 0, .int .u8 0, .int .u8 0, .int .u8 0, .int .u8 0, .int .u8 0, .int .u8 0, .int .u8 0, .int .u8 0, .int .u8 0, .int .u8 0, .int .u8 0, .int .u8 0, .int .u8 0, .int .u8 0, .int .u8 0, .int .u8 0, .int .u8 0, .int .u8 0, .int .u8 0, .int .u8 0] 30)) w') :=
    rTagged_any noneB (by decide +kernel) [] (by decide) _ none 0 (fun h => by simp at h) (fun _ => rfl)
  unfold noneB at hT
  replace hT := Lib.hid hT
  have hsz := Lib.hid (DV_size (tagH_length noneB.data.toList []))
  unfold noneB at hsz
  have hu : Tryd.prog.underlying 30 = some (.array 32 5) := by kernel_rfl
  have hi : (Tryd.prog.info? 30).map (·.size) = some 32 := by kernel_rfl
  go_enter Tryd.func15, Tryd.ntmps15
  go_wp2_with fail
  refine hT.out.mono ?_
  rintro e w2 ⟨rfl, hb2⟩
  have hd2 := blk_at hd hb2
  have hB2 := hb1.trans (hb2.mono hb1.size)
  clear hT hd hb1 hb2
  go_wp2_with (refine wpList_store_row rfl 30 _ _ rfl w.heap.size _ rfl rfl 30 _ hd2 ?cj ?cl ?ck ?_
               case cj => rw [hi, hsz.out]
               case cl => rw [hsz.out]; rfl
               case ck => exact BV_all _)
  have hrow := setRow_heap w2 w.heap.size _ (BV (tagH noneB.data.toList [])).toArray _ _ hd2
  exact bodyPost_ret (results_cell_row rfl _ _ w.heap.size 30 _ (0, 0) _ rfl hrow hu rfl (by rw [hi]; exact congrArg some hsz.out.symm)) rfl
    ⟨rfl, hB2.grown (grownBy_setRow _ _ _) hB2.size (fun k e => by injection e with e; omega)⟩

set_option maxRecDepth 100000 in
set_option maxHeartbeats 4000000 in
theorem rRoot_some (ls : List (List UInt8)) (hp : 0 < ls.length) (hls : ls.length ≤ 65536) (hsm : Small ls) (w : World) (A : Option Addr) (c : Nat) (hr : LL w w.heap.size ls A) :
    Calls Tryd.prog 15 #[.slice A ls.length c] w fun e w' => e = .returned (.agg (BV (rootM ls)).toArray) ∧ Below w.heap.size w w' := by
  have hb1 := bel1 w (.cells #[.int .u8 0, .int .u8 0, .int .u8 0, .int .u8 0, .int .u8 0, .int .u8 0, .int .u8 0, .int .u8 0, .int .u8 0, .int .u8 0, .int .u8 0, .int .u8 0, .int .u8 0, .int .u8 0, .int .u8 0, .int .u8 0, .int .u8 0, .int .u8 0, .int .u8 0, .int .u8 0, .int .u8 0, .int .u8 0, .int .u8 0, .int .u8 0, .int .u8 0, .int .u8 0, .int .u8 0, .int .u8 0, .int .u8 0, .int .u8 0, .int .u8 0, .int .u8 0] 30)
  have hd := heap_alloc_new w (.cells #[.int .u8 0, .int .u8 0, .int .u8 0, .int .u8 0, .int .u8 0, .int .u8 0, .int .u8 0, .int .u8 0, .int .u8 0, .int .u8 0, .int .u8 0, .int .u8 0, .int .u8 0, .int .u8 0, .int .u8 0, .int .u8 0, .int .u8 0, .int .u8 0, .int .u8 0, .int .u8 0, .int .u8 0, .int .u8 0, .int .u8 0, .int .u8 0, .int .u8 0, .int .u8 0, .int .u8 0, .int .u8 0, .int .u8 0, .int .u8 0, .int .u8 0, .int .u8 0] 30)
  have hF := Lib.hid (rFirst_any ls (by omega) hsm (w.alloc (.cells #[.int .u8 0, .int .u8 0, .int .u8 0, .int .u8 0, .int .u8 0, .int .u8 0, .int .u8 0, .int .u8 0, .int .u8 0, .int .u8 0, .int .u8 0, .int .u8 0, .int .u8 0, .int .u8 0, .int .u8 0, .int .u8 0, .int .u8 0, .int .u8 0, .int .u8 0, .int .u8 0, .int .u8 0, .int .u8 0, .int .u8 0, .int .u8 0, .int .u8 0, .int .u8 0, .int .u8 0, .int .u8 0, .int .u8 0, .int .u8 0, .int .u8 0, .int .u8 0] 30)) A c (hr.lift hb1 hb1.size))
  have hu : Tryd.prog.underlying 30 = some (.array 32 5) := by kernel_rfl
  have hi : (Tryd.prog.info? 30).map (·.size) = some 32 := by kernel_rfl
  have hne : ((ls.length : Int) == 0) = false := by simp only [beq_eq_false_iff_ne, ne_eq]; omega
  have h32 := Lib.hid (firstM_32 ls)
  obtain ⟨F, hFF⟩ : ∃ F, firstM ls = F := ⟨_, rfl⟩
  have hFl : F.length = ls.length := by rw [← hFF, firstM_len]
  have hroot := Lib.hid (show rootM ls = (rowL F (rows ls.length)).getD 0 [] by unfold rootM; rw [if_neg (fun e => by rw [e] at hp; simp at hp), hFF])
  rw [hFF] at hF h32
  clear hFF hr hsm
  replace hFl := Lib.hid hFl
  go_enter Tryd.func15, Tryd.ntmps15
  go_wp2_with fail
  refine hF.out.mono ?_
  rintro e w2 ⟨v2, rfl, ho, hb2⟩
  have hd2 := blk_at hd hb2
  have hB2 := hb1.trans (hb2.mono hb1.size)
  have ho2 := ownsRow_mono ho (show w.heap.size + 1 ≤ _ by simp)
  obtain ⟨a2, c2, rfl⟩ := ho.form
  rw [hFl.out]
  rw [hFl.out] at ho2
  replace ho2 := Lib.hid ho2
  replace hd2 := Lib.hid hd2
  replace hB2 := Lib.hid hB2
  clear hF hd hb1 hb2 ho
  go_wp2_with fail
  go_loopw [3] (fun v wr => ∃ k : Nat, k ≤ rows ls.length ∧ (∃ a c, v = .slice a (rowN ls.length k) c) ∧ Hid (OD wr (w.heap.size + 1) v (rowL F k) ∧ wr.heap[w.heap.size]? = some (.cells #[.int .u8 0, .int .u8 0, .int .u8 0, .int .u8 0, .int .u8 0, .int .u8 0, .int .u8 0, .int .u8 0, .int .u8 0, .int .u8 0, .int .u8 0, .int .u8 0, .int .u8 0, .int .u8 0, .int .u8 0, .int .u8 0, .int .u8 0, .int .u8 0, .int .u8 0, .int .u8 0, .int .u8 0, .int .u8 0, .int .u8 0, .int .u8 0, .int .u8 0, .int .u8 0, .int .u8 0, .int .u8 0, .int .u8 0, .int .u8 0, .int .u8 0, .int .u8 0] 30 (0, 0)) ∧ Below w.heap.size w wr)) (fun v _ => lenS v)
  case atStart => exact ⟨0, Nat.zero_le _, ⟨a2, c2, rfl⟩, ho2.out, hd2.out, hB2.out⟩
  case round =>
    clear ho2 hd2 hB2
    obtain ⟨k, hk, ⟨a, cz, rfl⟩, hI⟩ := hrel
    obtain ⟨hO, hZ, hB⟩ := hI.out
    have hle := rowN_le ls.length k
    have hFl' := hFl.out
    obtain ⟨a', c', e', hRD⟩ := hO.reads (rowL_32 h32.out k)
    rw [rowL_len, hFl'] at e'
    injection e' with e1 e2 e3
    subst e1 e3
    by_cases hlt : k < rows ls.length
    · have hgt := rowN_gt k _ hlt
      have hd1 : decide ((1 : Int) < (rowN ls.length k : Int)) = true := by simp; omega
      have hN := rNext_any (rowL F k) (by rw [rowL_len, hFl']; omega) (by rw [rowL_len, hFl']; omega) wr a cz hRD
      rw [rowL_len, hFl'] at hN
      replace hN := Lib.hid hN
      replace hZ := Lib.hid hZ
      replace hB := Lib.hid hB
      clear hI hO hRD
      go_wp2_with fail
      refine hN.out.mono ?_
      rintro e w3 ⟨v3, rfl, ho3, hb3⟩
      obtain ⟨a3, c3, rfl⟩ := ho3.form
      have hlz := (Array.getElem?_eq_some_iff.1 hZ.out).1
      have ho4 := ownsRow_mono ho3 (show w.heap.size + 1 ≤ _ by omega)
      have hln : (nextM (rowL F k)).length = rowN ls.length (k + 1) := (rowL_len F (k + 1)).trans (by rw [hFl'])
      rw [hln] at ho4 ⊢
      have hI2 := Lib.hid (And.intro (show OD w3 (w.heap.size + 1) _ (rowL F (k + 1)) from ho4) (And.intro (blk_at hZ.out hb3) (hB.out.trans (hb3.mono hB.out.size))))
      clear hN ho3 hb3 ho4 hln
      go_wp2_with fail
      go_roundw
      case rel => exact ⟨k + 1, by omega, ⟨a3, c3, rfl⟩, hI2.out⟩
      case measure => simp only [lenS]; rw [rowN]; omega
    · obtain rfl : k = rows ls.length := by omega
      have hend := rowN_end ls.length
      have hpos := rowN_pos hp (rows ls.length)
      have hone : rowN ls.length (rows ls.length) = 1 := by omega
      rw [hone] at hO ⊢
      obtain ⟨b, off, rfl, hb, hrg⟩ := hRD.at_ (i := 0) (by rw [rowL_len, hFl']; omega)
      have hx : (rowL F (rows ls.length))[0]'(by rw [rowL_len, hFl']; omega) = rootM ls := by
        rw [hroot.out, List.getD_eq_getElem?_getD, List.getElem?_eq_getElem (by rw [rowL_len, hFl']; omega)]; rfl
      rw [hx, Nat.zero_mul, Nat.add_zero] at hrg
      have hlen := Lib.hid (show (BV (rootM ls)).length = 32 by rw [BV_length, rootM_len])
      have hsz := Lib.hid (DV_size (rootM_len ls))
      replace hB := Lib.hid hB
      clear hI hO hRD hx
      go_wp2_with (first
        | (refine wpList_load_mid rfl 30 _ rfl b off rfl _ _ hrg hu rfl ?ca ?_; case ca => rw [hi, hlen.out])
        | (refine wpList_store_row rfl 30 _ _ rfl w.heap.size _ rfl rfl 30 _ hZ ?cj ?cl ?ck ?_
           case cj => rw [hi, hsz.out]
           case cl => rw [hsz.out]; rfl
           case ck => exact BV_all _))
      have hrow := setRow_heap wr w.heap.size _ (BV (rootM ls)).toArray _ _ hZ
      exact bodyPost_ret (results_cell_row rfl _ _ w.heap.size 30 _ (0, 0) _ rfl hrow hu rfl (by rw [hi, hsz.out])) rfl
        ⟨rfl, hB.out.grown (grownBy_setRow _ _ _) hB.out.size (fun k e => by injection e with e; omega)⟩
theorem rRoot_any (ls : List (List UInt8)) (hls : ls.length ≤ 65536) (hsm : Small ls) (w : World) (A : Option Addr) (c : Nat) (hr : LL w w.heap.size ls A) :
    Calls Tryd.prog 15 #[.slice A ls.length c] w fun e w' => e = .returned (.agg (BV (rootM ls)).toArray) ∧ Below w.heap.size w w' := by
  by_cases hp : 0 < ls.length
  · exact rRoot_some ls hp hls hsm w A c hr
  · obtain rfl : ls = [] := List.eq_nil_of_length_eq_zero (by omega)
    exact rRoot_nil w A c
set_option maxRecDepth 100000 in
set_option maxHeartbeats 4000000 in
theorem rProve_any (ls : List (List UInt8)) (i : Int) (hn : ls.length ≤ 65536) (hsm : Small ls) (w : World) (A : Option Addr) (c : Nat) (hr : LL w w.heap.size ls A) :
    Calls Tryd.prog 13 #[.slice A ls.length c, .int .i64 i] w fun e w' => (∃ v, e = .returned (.tuple #[v, .int .i64 (proveP ls i).2]) ∧ OD w' w.heap.size v (proveP ls i).1) ∧ Below w.heap.size w w' := by
  by_cases hg : 0 ≤ i ∧ i < ls.length
  case neg =>
    have hp1 : proveP ls i = ([], 1) := by unfold proveP; rw [if_pos (by rw [Bool.eq_false_iff]; intro h; have := isPl_iff.1 h; omega)]
    rw [hp1]
    have hbad : (decide ((65536 : Int) < (ls.length : Int)) || decide (i < 0) || decide ((ls.length : Int) ≤ i)) = true := by simp; omega
    have hB := Below.refl w.heap.size w
    have hO := OD.nil w w.heap.size
    go_enter Tryd.func13, Tryd.ntmps13
    go_wp2_with fail
    all_goals
      go_ret2
      exact ⟨⟨_, rfl, hO⟩, hB⟩
  obtain ⟨g1, g2⟩ := hg
  obtain ⟨I, rfl⟩ : ∃ I : Nat, i = I := ⟨i.toNat, by omega⟩
  have hIn : I < ls.length := by omega
  have hpr : proveP ls I = (pathP (firstM ls) ls.length I (rows ls.length), 0) := by unfold proveP; rw [if_neg (by rw [show isPl (ls.length : Int) (I : Int) = true from isPl_iff.2 (by omega)]; simp)]; simp
  rw [hpr]
  have hu := Lib.hid (show Tryd.prog.underlying 30 = some (.array 32 5) by kernel_rfl)
  have hi := Lib.hid (show (Tryd.prog.info? 30).map (·.size) = some 32 by kernel_rfl)
  have hb1 := bel1 w (.cells #[] 30)
  have hF := rFirst_any ls (by omega) hsm (w.alloc (.cells #[] 30)) A c (hr.lift hb1 hb1.size)
  have hF32 := Lib.hid (firstM_32 ls)
  obtain ⟨F, hFF⟩ : ∃ F, firstM ls = F := ⟨_, rfl⟩
  have hFl := Lib.hid (show F.length = ls.length by rw [← hFF, firstM_len])
  rw [hFF] at hF hF32 ⊢
  replace hF := Lib.hid hF
  have q1 : decide ((65536 : Int) < (ls.length : Int)) = false := decide_eq_false (by omega)
  have q2 : decide ((I : Int) < 0) = false := decide_eq_false (by omega)
  have q3 : decide ((ls.length : Int) ≤ (I : Int)) = false := decide_eq_false (by omega)
  have q4 : decide (ls.length ≤ I) = false := decide_eq_false (by omega)
  have ho6 := newRow (W := w) (Nat.le_refl w.heap.size)
  clear hFF hpr hsm hr
  go_enter Tryd.func13, Tryd.ntmps13
  go_wp2_with fail
  refine hF.out.mono ?_
  rintro e w2 ⟨v2, rfl, ho, hb2⟩
  obtain ⟨a2, c2, rfl⟩ := ho.form
  rw [hFl.out]
  rw [hFl.out] at ho
  have hst := Lib.hid (And.intro (show OD w2 w.heap.size _ (pathP F ls.length I 0) from ho6.below hb2) (And.intro (show OD w2 w.heap.size _ (rowL F 0) from ownsRow_mono ho hb1.size) (And.intro (show ∀ q, Value.ownBlock (.slice (some ⟨w.heap.size, 0, none⟩) 0 0) = some q → Value.ownBlock (.slice a2 ls.length c2) ≠ some q from fun q hq he => by
    have h2 := (World.ownsRow.lt ho q he).1
    rw [World.size_alloc] at h2
    have hq' : some w.heap.size = some q := hq
    injection hq' with hq'
    omega) (hb1.trans (hb2.mono hb1.size)))))
  clear hF ho6 ho hb1 hb2
  go_wp2_with fail
  go_loopw [1, 6, 7] (fun i p r wr => ∃ k : Nat, k ≤ rows ls.length ∧ i = .int .i64 (rowI I k : Int) ∧ (∃ a c, p = .slice a (used ls.length I k) c) ∧ (∃ a c, r = .slice a (rowN ls.length k) c) ∧ Hid (OD wr w.heap.size p (pathP F ls.length I k) ∧ OD wr w.heap.size r (rowL F k) ∧ (∀ q, p.ownBlock = some q → r.ownBlock ≠ some q) ∧ Below w.heap.size w wr)) (fun _ _ r _ => lenS r)
  case atStart => exact ⟨0, Nat.zero_le _, rfl, ⟨_, _, rfl⟩, ⟨_, _, rfl⟩, hst⟩
  case round =>
    clear hst
    obtain ⟨k, hk, rfl, ⟨ap, cpp, rfl⟩, ⟨ae, ce, rfl⟩, hI⟩ := hrel
    have ho6 := Lib.hid hI.out.1
    have ho7 := Lib.hid hI.out.2.1
    have hne := Lib.hid hI.out.2.2.1
    have hB := Lib.hid hI.out.2.2.2
    clear hI
    have hlt := rowI_lt hIn k
    have hle := rowN_le ls.length k
    have hul := used_le ls.length I k
    have hr16 := rows_16 hn
    by_cases hlt2 : k < rows ls.length
    · have hgt := rowN_gt k _ hlt2
      have hN1 : rowN ls.length (k + 1) = rowN ls.length k - rowN ls.length k / 2 := by rw [rowN]
      have hI1 : rowI I (k + 1) = rowI I k / 2 := by rw [rowI]
      have hlo := lone_at (k := k) hIn
      have hk1 : k + 1 ≤ rows ls.length := hlt2
      have hd1 : decide ((1 : Int) < (rowN ls.length k : Int)) = true := by simp; omega
      by_cases hodd : rowI I k % 2 = 1
      · have hlone : lone ls.length I k = false := by rw [Bool.eq_false_iff]; intro h; have := hlo.1 h; omega
        have hu1 : used ls.length I (k + 1) = used ls.length I k + 1 := by rw [used, if_neg (by rw [hlone]; simp)]
        have hoth : oth (rowI I k) = rowI I k - 1 := by unfold oth; rw [if_neg (by omega)]
        obtain ⟨o, ho⟩ : ∃ o, rowI I k - 1 = o := ⟨_, rfl⟩
        rw [ho] at hoth
        have hko : o < rowN ls.length k := by omega
        have hw1 : IntKind.i64.wrap ((rowI I k : Int) - 1) = (o : Int) := by rw [IntWalk.i64_in _ (by omega)]; omega
        have c1 : ((rowI I k : Int) % 2 == 1) = true := beq_iff_eq.2 (by omega)
        have hRD := ho7.out.reads (rowL_32 hF32.out k)
        obtain ⟨a', c', e', hRD⟩ := hRD
        rw [rowL_len, hFl.out] at e'
        injection e' with e1 e2 e3
        subst e1 e3
        obtain ⟨b, off, rfl, hb, hrg⟩ := hRD.at_ (i := o) (by rw [rowL_len, hFl.out]; exact hko)
        have hgo : (rowL F k).getD o [] = (rowL F k)[o]'(by rw [rowL_len, hFl.out]; exact hko) := by rw [List.getD_eq_getElem?_getD, List.getElem?_eq_getElem (by rw [rowL_len, hFl.out]; exact hko)]; rfl
        rw [← hgo] at hrg
        have hlx := row_elem_32 hF32.out (k := k) (j := o) (by rw [rowL_len, hFl.out]; exact hko)
        have hpa : pathP F ls.length I (k + 1) = pathP F ls.length I k ++ [(rowL F k).getD o []] := by
          rw [pathP, if_neg (by rw [hlone]; simp), hoth]
        replace hrg := Lib.hid hrg
        generalize (rowL F k).getD o [] = x at *
        have hi' := hi.out
        have hb4 := bel1 wr (.cells (BV x).toArray 30)
        have hO4 := ho6.out.below hb4
        have hR4 := ho7.out.below hb4
        have hB4 := hB.out.trans (hb4.mono hB.out.size)
        have hl7 := World.ownsRow.lt ho7.out
        obtain ⟨a5, c5, W5, hr5, hO5, hg5, hv5⟩ := hO4.app 25 wr.heap.size x (heap_alloc_new wr _) hlx (by rw [pathP_len]; omega) hB4.size
        have hB5 := hB4.trans (hO4.app_below hg5 hB4.size)
        have hR5 : OD W5 w.heap.size _ (rowL F k) := World.ownsRow.kept hR4 hg5 (by
          cases he : Value.ownBlock (.slice (some ⟨b, off, none⟩) (rowN ls.length k) ce) with
          | none => exact .inl rfl
          | some q => exact .inr (fun e => hne.out q e.symm he))
        have hl5 : (pathP F ls.length I k ++ [x]).length = used ls.length I k + 1 := by rw [List.length_append, pathP_len]; rfl
        rw [hl5] at hr5 hO5 hv5
        rw [← hpa] at hO5
        have hne5 : Hid (∀ q, Value.ownBlock (.slice a5 (used ls.length I k + 1) c5) = some q → Value.ownBlock (.slice (some ⟨b, off, none⟩) (rowN ls.length k) ce) ≠ some q) := Lib.hid (fun q hq he => by
          rcases hv5 with h | h
          · exact hne.out q (h.symm.trans hq) he
          · rw [h] at hq
            injection hq with hq
            have := (hl7 q he).2
            rw [World.size_alloc] at hq
            omega)
        have hcells := one_cells hlx
        have hsz := DV_size hlx
        replace hr5 := Lib.hid hr5
        replace ho6 := Lib.hid hO5
        replace ho7 := Lib.hid hR5
        replace hB := Lib.hid hB5
        have hRD5 := (hR5.reads (rowL_32 hF32.out k))
        obtain ⟨a'', c'', e'', hRD5⟩ := hRD5
        rw [rowL_len, hFl.out] at e''
        injection e'' with e1 e2 e3
        subst e1 e3
        have hN := rNext_any (rowL F k) (by rw [rowL_len, hFl.out]; omega) (by rw [rowL_len, hFl.out]; omega) W5 (some ⟨b, off, none⟩) ce hRD5
        rw [rowL_len, hFl.out] at hN
        replace hN := Lib.hid hN
        clear hO4 hR4 hb4 hB4 hO5 hB5 hg5 hl5 hv5 hR5 hRD hRD5 hne hgo hpa hl7
        generalize rowN ls.length k = m at *
        generalize rowI I k = j at *
        go_wp2_with (first
          | (refine wpList_load_mid rfl 30 _ rfl b (off + o * 32) rfl _ _ hrg.out hu.out rfl ?ca ?_; case ca => rw [hi', BV_length, hlx])
          | (at_builtin; refine Lib.wpList_append_run _ rfl _ _ _ _ rfl _ _ rfl rfl _ _ hr5.out ?_))
        refine hN.out.mono ?_
        rintro e w3 ⟨v3, rfl, ho3, hb3⟩
        obtain ⟨a3, c3, rfl⟩ := ho3.form
        have hln : (nextM (rowL F k)).length = rowN ls.length (k + 1) := (rowL_len F (k + 1)).trans (by rw [hFl.out])
        rw [hN1] at hln
        rw [hln] at ho3 ⊢
        have hfin := Lib.hid (And.intro (show OD w3 w.heap.size _ (pathP F ls.length I (k + 1)) from ho6.out.below hb3) (And.intro (show OD w3 w.heap.size _ (rowL F (k + 1)) from ownsRow_mono ho3 hB.out.size) (And.intro (fun q hq he => (show False by
          have h1 := (World.ownsRow.lt ho6.out q hq).2
          have h2 := (World.ownsRow.lt ho3 q he).1
          omega)) (hB.out.trans (hb3.mono hB.out.size)))))
        clear hN ho3 hb3 hln ho6 ho7 hB
        go_wp2_with fail
        go_roundw
        case rel => exact ⟨k + 1, hk1, congrArg (Value.int .i64) (by rw [hI1]; omega), ⟨_, _, by rw [hu1]⟩, ⟨a3, c3, by rw [hN1]⟩, hfin.out⟩
        case measure => simp only [lenS]; omega
      · have c1 : ((rowI I k : Int) % 2 == 1) = false := beq_eq_false_iff_ne.2 (by omega)
        obtain ⟨o, ho⟩ : ∃ o, rowI I k + 1 = o := ⟨_, rfl⟩
        have hw1 : IntKind.i64.wrap ((rowI I k : Int) + 1) = (o : Int) := by rw [IntWalk.i64_in _ (by omega)]; omega
        by_cases hko : o < rowN ls.length k
        · have hlone : lone ls.length I k = false := by rw [Bool.eq_false_iff]; intro h; have := hlo.1 h; omega
          have hu1 : used ls.length I (k + 1) = used ls.length I k + 1 := by rw [used, if_neg (by rw [hlone]; simp)]
          have hoth : oth (rowI I k) = o := by unfold oth; rw [if_pos (by omega)]; exact ho
          have hd2 : decide ((o : Int) < (rowN ls.length k : Int)) = true := decide_eq_true (by omega)
          have hRD := ho7.out.reads (rowL_32 hF32.out k)
          obtain ⟨a', c', e', hRD⟩ := hRD
          rw [rowL_len, hFl.out] at e'
          injection e' with e1 e2 e3
          subst e1 e3
          obtain ⟨b, off, rfl, hb, hrg⟩ := hRD.at_ (i := o) (by rw [rowL_len, hFl.out]; exact hko)
          have hgo : (rowL F k).getD o [] = (rowL F k)[o]'(by rw [rowL_len, hFl.out]; exact hko) := by rw [List.getD_eq_getElem?_getD, List.getElem?_eq_getElem (by rw [rowL_len, hFl.out]; exact hko)]; rfl
          rw [← hgo] at hrg
          have hlx := row_elem_32 hF32.out (k := k) (j := o) (by rw [rowL_len, hFl.out]; exact hko)
          have hpa : pathP F ls.length I (k + 1) = pathP F ls.length I k ++ [(rowL F k).getD o []] := by
            rw [pathP, if_neg (by rw [hlone]; simp), hoth]
          replace hrg := Lib.hid hrg
          generalize (rowL F k).getD o [] = x at *
          have hi' := hi.out
          have hb4 := bel1 wr (.cells (BV x).toArray 30)
          have hO4 := ho6.out.below hb4
          have hR4 := ho7.out.below hb4
          have hB4 := hB.out.trans (hb4.mono hB.out.size)
          have hl7 := World.ownsRow.lt ho7.out
          obtain ⟨a5, c5, W5, hr5, hO5, hg5, hv5⟩ := hO4.app 25 wr.heap.size x (heap_alloc_new wr _) hlx (by rw [pathP_len]; omega) hB4.size
          have hB5 := hB4.trans (hO4.app_below hg5 hB4.size)
          have hR5 : OD W5 w.heap.size _ (rowL F k) := World.ownsRow.kept hR4 hg5 (by
            cases he : Value.ownBlock (.slice (some ⟨b, off, none⟩) (rowN ls.length k) ce) with
            | none => exact .inl rfl
            | some q => exact .inr (fun e => hne.out q e.symm he))
          have hl5 : (pathP F ls.length I k ++ [x]).length = used ls.length I k + 1 := by rw [List.length_append, pathP_len]; rfl
          rw [hl5] at hr5 hO5 hv5
          rw [← hpa] at hO5
          have hne5 : Hid (∀ q, Value.ownBlock (.slice a5 (used ls.length I k + 1) c5) = some q → Value.ownBlock (.slice (some ⟨b, off, none⟩) (rowN ls.length k) ce) ≠ some q) := Lib.hid (fun q hq he => by
            rcases hv5 with h | h
            · exact hne.out q (h.symm.trans hq) he
            · rw [h] at hq
              injection hq with hq
              have := (hl7 q he).2
              rw [World.size_alloc] at hq
              omega)
          have hcells := one_cells hlx
          have hsz := DV_size hlx
          replace hr5 := Lib.hid hr5
          replace ho6 := Lib.hid hO5
          replace ho7 := Lib.hid hR5
          replace hB := Lib.hid hB5
          have hRD5 := (hR5.reads (rowL_32 hF32.out k))
          obtain ⟨a'', c'', e'', hRD5⟩ := hRD5
          rw [rowL_len, hFl.out] at e''
          injection e'' with e1 e2 e3
          subst e1 e3
          have hN := rNext_any (rowL F k) (by rw [rowL_len, hFl.out]; omega) (by rw [rowL_len, hFl.out]; omega) W5 (some ⟨b, off, none⟩) ce hRD5
          rw [rowL_len, hFl.out] at hN
          replace hN := Lib.hid hN
          clear hO4 hR4 hb4 hB4 hO5 hB5 hg5 hl5 hv5 hR5 hRD hRD5 hne hgo hpa hl7
          generalize rowN ls.length k = m at *
          generalize rowI I k = j at *
          go_wp2_with (first
            | (refine wpList_load_mid rfl 30 _ rfl b (off + o * 32) rfl _ _ hrg.out hu.out rfl ?ca ?_; case ca => rw [hi', BV_length, hlx])
            | (at_builtin; refine Lib.wpList_append_run _ rfl _ _ _ _ rfl _ _ rfl rfl _ _ hr5.out ?_))
          refine hN.out.mono ?_
          rintro e w3 ⟨v3, rfl, ho3, hb3⟩
          obtain ⟨a3, c3, rfl⟩ := ho3.form
          have hln : (nextM (rowL F k)).length = rowN ls.length (k + 1) := (rowL_len F (k + 1)).trans (by rw [hFl.out])
          rw [hN1] at hln
          rw [hln] at ho3 ⊢
          have hfin := Lib.hid (And.intro (show OD w3 w.heap.size _ (pathP F ls.length I (k + 1)) from ho6.out.below hb3) (And.intro (show OD w3 w.heap.size _ (rowL F (k + 1)) from ownsRow_mono ho3 hB.out.size) (And.intro (fun q hq he => (show False by
            have h1 := (World.ownsRow.lt ho6.out q hq).2
            have h2 := (World.ownsRow.lt ho3 q he).1
            omega)) (hB.out.trans (hb3.mono hB.out.size)))))
          clear hN ho3 hb3 hln ho6 ho7 hB
          go_wp2_with fail
          go_roundw
          case rel => exact ⟨k + 1, hk1, congrArg (Value.int .i64) (by rw [hI1]; omega), ⟨_, _, by rw [hu1]⟩, ⟨a3, c3, by rw [hN1]⟩, hfin.out⟩
          case measure => simp only [lenS]; omega
        · have hlone : lone ls.length I k = true := hlo.2 (by omega)
          have hu1 : used ls.length I (k + 1) = used ls.length I k := by rw [used, if_pos hlone]
          have hpa : pathP F ls.length I (k + 1) = pathP F ls.length I k := by rw [pathP, if_pos hlone]
          have hd2 : decide ((o : Int) < (rowN ls.length k : Int)) = false := decide_eq_false (by omega)
          obtain ⟨a', c', e', hRD⟩ := ho7.out.reads (rowL_32 hF32.out k)
          rw [rowL_len, hFl.out] at e'
          injection e' with e1 e2 e3
          subst e1 e3
          have hN := rNext_any (rowL F k) (by rw [rowL_len, hFl.out]; omega) (by rw [rowL_len, hFl.out]; omega) wr ae ce hRD
          rw [rowL_len, hFl.out] at hN
          replace hN := Lib.hid hN
          rw [← hpa] at ho6
          clear hRD hpa
          generalize rowN ls.length k = m at *
          generalize rowI I k = j at *
          go_wp2_with fail
          refine hN.out.mono ?_
          rintro e w3 ⟨v3, rfl, ho3, hb3⟩
          obtain ⟨a3, c3, rfl⟩ := ho3.form
          have hln : (nextM (rowL F k)).length = rowN ls.length (k + 1) := (rowL_len F (k + 1)).trans (by rw [hFl.out])
          rw [hN1] at hln
          rw [hln] at ho3 ⊢
          have hfin := Lib.hid (And.intro (show OD w3 w.heap.size _ (pathP F ls.length I (k + 1)) from ho6.out.below hb3) (And.intro (show OD w3 w.heap.size _ (rowL F (k + 1)) from ownsRow_mono ho3 hB.out.size) (And.intro (fun q hq he => (show False by
            have h1 := (World.ownsRow.lt ho6.out q hq).2
            have h2 := (World.ownsRow.lt ho3 q he).1
            omega)) (hB.out.trans (hb3.mono hB.out.size)))))
          clear hN ho3 hb3 hln ho6 ho7 hB
          go_wp2_with fail
          go_roundw
          case rel => exact ⟨k + 1, hk1, congrArg (Value.int .i64) (by rw [hI1]; omega), ⟨_, _, by rw [hu1]⟩, ⟨a3, c3, by rw [hN1]⟩, hfin.out⟩
          case measure => simp only [lenS]; omega
    · obtain rfl : k = rows ls.length := by omega
      have hend := rowN_end ls.length
      have hd1 : decide ((1 : Int) < (rowN ls.length (rows ls.length) : Int)) = false := by simp; omega
      go_wp2_with fail
      go_ret2
      exact ⟨⟨_, rfl, ho6.out⟩, hB.out⟩
set_option maxRecDepth 100000 in
set_option maxHeartbeats 4000000 in
theorem rSame_any (p : List (List UInt8)) (w : World) (A B : Option Addr) (c d : Nat) (hA : RD w w.heap.size p A c) (hB : RD w w.heap.size p B d) :
    Calls Tryd.prog 16 #[.slice A p.length c, .slice B p.length d] w fun e w' => e = .returned (.bool true) ∧ Below w.heap.size w w' := by
  have hu := Lib.hid (show Tryd.prog.underlying 30 = some (.array 32 5) by kernel_rfl)
  have hi := Lib.hid (show (Tryd.prog.info? 30).map (·.size) = some 32 by kernel_rfl)
  have hcA := hA.1
  have hcB := hA.2.1
  have h32 := Lib.hid hA.2.2.1
  have hAH := Lib.hid hA
  have hBH := Lib.hid hB
  clear hA hB
  go_enter Tryd.func16, Tryd.ntmps16
  go_wp2_with fail
  go_loopw [5] (fun i wr => ∃ k : Nat, k ≤ p.length ∧ i = .int .i64 k ∧ Hid (Below w.heap.size w wr)) (fun i _ => p.length - (intOf i).toNat)
  case atStart => exact ⟨0, Nat.zero_le _, rfl, Below.refl _ _⟩
  case round =>
    obtain ⟨k, hk, rfl, hW⟩ := hrel
    by_cases hlt : k < p.length
    · have hd1 : decide ((k : Int) < (p.length : Int)) = true := decide_eq_true (by omega)
      have hw1 : IntKind.i64.wrap ((k : Int) + 1) = (k : Int) + 1 := IntWalk.i64_in _ (by omega)
      obtain ⟨b, off, rfl, hb, hrx⟩ := (hAH.out.under hW.out hW.out.size).at_ hlt
      obtain ⟨b2, off2, rfl, hb2, hry⟩ := (hBH.out.under hW.out hW.out.size).at_ hlt
      have hlx := Lib.hid (h32.out p[k] (List.getElem_mem hlt))
      replace hrx := Lib.hid hrx
      replace hry := Lib.hid hry
      replace hb := Lib.hid hb
      replace hb2 := Lib.hid hb2
      have hkl := Lib.hid hlt
      generalize p[k] = x at *
      have eq1 : Hid (∀ W, (Op.equalIn 10000 30 (.agg (BV x).toArray) (.agg (BV x).toArray)).run Tryd.prog W = .ok true W) := Lib.hid (fun W => by
        have h := eq_digest x x hlx.out hlx.out W
        rwa [beq_self_eq_true] at h)
      go_upto_region 6 with fail
      refine wp_region_pre 9 0 (fun W => Below wr.heap.size wr W) (fun W W' => Below W.heap.size W W')
        (fun i v W => match i with
          | 0 => v = .slice (some ⟨b, off, none⟩) p.length c
          | 1 => v = .int .i64 (k : Int)
          | 2 => v = .pointer (some ⟨b, off + k * 32, none⟩)
          | 3 => v = .agg (BV x).toArray
          | 4 => v = .slice (some ⟨b2, off2, none⟩) p.length d
          | 5 => v = .int .i64 (k : Int)
          | 6 => v = .pointer (some ⟨b2, off2 + k * 32, none⟩)
          | 7 => v = .agg (BV x).toArray
          | 8 => v = .bool false
          | _ => True) (fun _ => false)
        (by kernel_rfl) (by kernel_rfl) (by kernel_rfl) (by kernel_rfl) (by kernel_rfl) (by kernel_rfl) (by kernel_rfl) ?_ (fun _ _ h => h.size) (dN (Below.refl _ _) 1) ?_ ?_
      · intro i v W W' hb hF
        match i, hF with
        | 0, h => exact h
        | 1, h => exact h
        | 2, h => exact h
        | 3, h => exact h
        | 4, h => exact h
        | 5, h => exact h
        | 6, h => exact h
        | 7, h => exact h
        | 8, h => exact h
        | _ + 9, _ => trivial
      · refine ⟨?_, ?_, ?_, ?_, ?_, ?_, ?_, ?_, ?_, trivial⟩
        · refine stepJ_any rfl fun ac W hAA hG hDD K hK => ?_
          have h0 := hAA.getD (t := 0) (by kernel_rfl)
          simp only [Array.getD_eq_getD_getElem?] at h0
          rw [if_pos (by rfl)]
          exact wp_val (v := .slice (some ⟨b, off, none⟩) p.length c) (w' := W) (by simp [execOp, Act.eval, h0, go_sem]) (hK _ _ hG (Below.refl _ _) rfl (fun h => by cases h))
        · refine stepJ_any rfl fun ac W hAA hG hDD K hK => ?_
          have h5 := hAA.getD (t := 5) (by kernel_rfl)
          simp only [Array.getD_eq_getD_getElem?] at h5
          rw [if_pos (by rfl)]
          exact wp_val (v := .int .i64 (k : Int)) (w' := W) (by simp [execOp, Act.eval, h5, go_sem]) (hK _ _ hG (Below.refl _ _) rfl (fun h => by cases h))
        · refine stepJ_any rfl fun ac W hAA hG hDD K hK => ?_
          have h17 := hDD.get 0 17 _ rfl rfl (by kernel_rfl)
          have h18 := hDD.get 1 18 _ rfl rfl (by kernel_rfl)
          simp only [Array.getD_eq_getD_getElem?] at h17 h18
          have hkl := hkl.out
          rw [if_pos (by rfl)]
          exact wp_val (v := .pointer (some ⟨b, off + k * 32, none⟩)) (w' := W) (by simp [execOp, Act.eval, h17, h18, go_sem, hkl]) (hK _ _ hG (Below.refl _ _) rfl (fun h => by cases h))
        · refine stepJ_any rfl fun ac W hAA hG hDD K hK => ?_
          have h19 := hDD.get 2 19 _ rfl rfl (by kernel_rfl)
          rw [if_pos (by rfl)]
          exact wp_load_mid 30 _ rfl b (off + k * 32) h19 (BV x) _ (fun j v hv => ((hG.cell (p := ⟨b, off + k * 32 + j, none⟩) hb.out).trans (hrx.out j v hv))) hu.out rfl (by rw [hi.out, BV_length, hlx.out]) (hK _ _ hG (Below.refl _ _) rfl (fun h => by cases h))
        · refine stepJ_any rfl fun ac W hAA hG hDD K hK => ?_
          have h1 := hAA.getD (t := 1) (by kernel_rfl)
          simp only [Array.getD_eq_getD_getElem?] at h1
          rw [if_pos (by rfl)]
          exact wp_val (v := .slice (some ⟨b2, off2, none⟩) p.length d) (w' := W) (by simp [execOp, Act.eval, h1, go_sem]) (hK _ _ hG (Below.refl _ _) rfl (fun h => by cases h))
        · refine stepJ_any rfl fun ac W hAA hG hDD K hK => ?_
          have h5 := hAA.getD (t := 5) (by kernel_rfl)
          simp only [Array.getD_eq_getD_getElem?] at h5
          rw [if_pos (by rfl)]
          exact wp_val (v := .int .i64 (k : Int)) (w' := W) (by simp [execOp, Act.eval, h5, go_sem]) (hK _ _ hG (Below.refl _ _) rfl (fun h => by cases h))
        · refine stepJ_any rfl fun ac W hAA hG hDD K hK => ?_
          have h21 := hDD.get 4 21 _ rfl rfl (by kernel_rfl)
          have h22 := hDD.get 5 22 _ rfl rfl (by kernel_rfl)
          simp only [Array.getD_eq_getD_getElem?] at h21 h22
          have hkl := hkl.out
          rw [if_pos (by rfl)]
          exact wp_val (v := .pointer (some ⟨b2, off2 + k * 32, none⟩)) (w' := W) (by simp [execOp, Act.eval, h21, h22, go_sem, hkl]) (hK _ _ hG (Below.refl _ _) rfl (fun h => by cases h))
        · refine stepJ_any rfl fun ac W hAA hG hDD K hK => ?_
          have h23 := hDD.get 6 23 _ rfl rfl (by kernel_rfl)
          rw [if_pos (by rfl)]
          exact wp_load_mid 30 _ rfl b2 (off2 + k * 32) h23 (BV x) _ (fun j v hv => ((hG.cell (p := ⟨b2, off2 + k * 32 + j, none⟩) hb2.out).trans (hry.out j v hv))) hu.out rfl (by rw [hi.out, BV_length, hlx.out]) (hK _ _ hG (Below.refl _ _) rfl (fun h => by cases h))
        · refine stepJ_any rfl fun ac W hAA hG hDD K hK => ?_
          have h20 := hDD.get 3 20 _ rfl rfl (by kernel_rfl)
          have h24 := hDD.get 7 24 _ rfl rfl (by kernel_rfl)
          simp only [Array.getD_eq_getD_getElem?] at h20 h24
          have eq1 := eq1.out
          rw [if_pos (by rfl)]
          exact wp_val (v := .bool false) (w' := W) (by simp [execOp, Act.eval, h20, h24, go_sem, eq1]) (hK _ _ hG (Below.refl _ _) rfl (fun h => by cases h))
      intro fu T w9 hG hF hne hltb
      have e17 : T 17 = .slice (some ⟨b, off, none⟩) p.length c := hF 0 _ rfl (by omega)
      have e18 : T 18 = .int .i64 (k : Int) := hF 1 _ rfl (by omega)
      have e19 : T 19 = .pointer (some ⟨b, off + k * 32, none⟩) := hF 2 _ rfl (by omega)
      have e20 : T 20 = .agg (BV x).toArray := hF 3 _ rfl (by omega)
      have e21 : T 21 = .slice (some ⟨b2, off2, none⟩) p.length d := hF 4 _ rfl (by omega)
      have e22 : T 22 = .int .i64 (k : Int) := hF 5 _ rfl (by omega)
      have e23 : T 23 = .pointer (some ⟨b2, off2 + k * 32, none⟩) := hF 6 _ rfl (by omega)
      have e24 : T 24 = .agg (BV x).toArray := hF 7 _ rfl (by omega)
      have e25 : T 25 = .bool false := hF 8 _ rfl (by omega)
      clear hF hne hltb
      simp only [List.take, fillT, List.setIfInBounds_toArray, List.set_cons_zero, List.set_cons_succ, e17, e18, e19, e20, e21, e22, e23, e24, e25]
      clear e17 e18 e19 e20 e21 e22 e23 e24 e25
      refine wpAny_done (by kernel_rfl) ?_ _
      have hW9 := Lib.hid (hW.out.trans (hG.mono hW.out.size))
      clear hW hG
      go_wp2_with fail
      go_roundw
      case rel => exact ⟨k + 1, by omega, by go_num, hW9.out⟩
      case measure => simp [intOf]; omega
    · have hd1 : decide ((k : Int) < (p.length : Int)) = false := decide_eq_false (by omega)
      go_wp2_with fail
      go_ret
      exact ⟨rfl, hW.out⟩
end
end Go.Proofs.YtgddfdejkmnfkaaDoor
