/- distinct: are the X of points pairwise different? A map of those seen. -/
import Derived.Test.YtfblkkdoijfpfaaFd
import Derived.Maps.OwnSet
import Derived.Maps.AppendAt
import Derived.WalkSpells
import Derived.WalkArith
namespace Go.Proofs.Ytfblkkdoijfpfaa
open Go.RowKit Go.Maps

/-- Does no number before the place k stand for the same number? -/
def newAt (xs : List Int) (k : Nat) : Bool := !(((xs.take k).map md).contains (md (xs.getD k 0)))
def diffB (xs : List Int) : Bool := (List.range xs.length).all (newAt xs)
theorem diffB_no {xs : List Int} {k : Nat} (hk : k < xs.length) (h : newAt xs k = false) : diffB xs = false := by
  unfold diffB
  rw [List.all_eq_false]
  exact ⟨k, List.mem_range.2 hk, by rw [h]; decide⟩
theorem newAt_next {xs : List Int} {k : Nat} (h : (List.range k).all (newAt xs) = true) (h2 : newAt xs k = true) : (List.range (k + 1)).all (newAt xs) = true := by
  rw [List.range_succ, List.all_append, h]; simp [h2]
theorem law3 : Keyed Try.prog 3 := int_keyed Try.underlying3
theorem zero4 (w : World) : (zeroValue 4).run Try.prog w = .ok (.bool false) w := by kernel_rfl
theorem plainElem_bool_inv {H : Type} {P : Program} {e : TypeId} (he : P.underlying e = some .bool) {v : Value} {z : DataW H × List MemPlace} (h : plainElem P e v = some z) : ∃ a, v = .bool a ∧ z = (.lit (.bool a), []) := by
  unfold plainElem at h
  rw [he] at h
  cases v <;> simp at h
  subst h
  exact ⟨_, rfl, rfl⟩
/-- What the map holds: the numbers seen. -/
def SeenD (D : DataW Unit) (xs : List Int) : Prop := IsMap D ∧ ∀ z, D.atKey (.int .i64 z) (.lit (.bool false)) = .lit (.bool (xs.contains z))
theorem SeenD.zero : SeenD (.map []) [] := ⟨isMap_empty, fun _ => rfl⟩
theorem SeenD.put {D : DataW Unit} {xs : List Int} (h : SeenD D xs) (x : Int) : SeenD (D.put (.int .i64 x) (.lit (.bool true))) (xs ++ [x]) := by
  refine ⟨h.1.put _ _, fun z => ?_⟩
  by_cases e : z = x
  · subst e
    rw [atKey_put_same h.1 (show WideAt.IsKeyLit (.int .i64 z) from trivial)]
    simp
  · rw [atKey_put_other (by simpa using e), h.2 z]
    simp [e]

set_option maxRecDepth 100000 in
set_option maxHeartbeats 1000000 in
theorem distinct_any (ls : List (Int × Int)) (hm : ls.length ≤ 1000000) (w : World) (A : Option Addr) (c : Nat) (h : PR w (· < w.heap.size) A ls) :
    Calls Try.prog 23 #[.slice A ls.length c] w fun e w' => e = .returned (.bool (diffB (ls.map Prod.fst))) ∧ Below w.heap.size w w' := by
  have hmm := @run_makeMap Try.prog
  have hh := Lib.hid h
  clear h
  go_enter Try.func23, Try.ntmps23
  go_wp2_with fail
  go_loopw [10] (fun i wr => ∃ k : Nat, k ≤ ls.length ∧ i = .int .i64 k ∧ Hid ((List.range k).all (newAt (ls.map Prod.fst)) = true) ∧ Below w.heap.size w wr ∧ Hid (∃ D : DataW Unit, wr.ownsMap Try.prog 3 (plainElem Try.prog 4) w.heap.size k D ∧ SeenD D (((ls.map Prod.fst).take k).map md))) (fun i _ => ls.length - (intOf i).toNat)
  case atStart => exact ⟨0, Nat.zero_le _, rfl, rfl, (Below.refl _ _).alloc (Nat.le_refl _) _, _, World.ownsMap_made _ _ _ _, SeenD.zero⟩
  case round =>
    obtain ⟨k, hk, rfl, hall, hb, hD⟩ := hrel
    obtain ⟨D, hown, hseen⟩ := hD.out
    clear hD
    by_cases hlt : k < ls.length
    · obtain ⟨b, off, rfl, hs, hc0, hc1, hI⟩ := (hh.out.keep (Kept.below hb)).at_ hlt
      have hkx : k < (ls.map Prod.fst).length := by simpa using hlt
      have hgd : (ls.map Prod.fst).getD k 0 = ls[k].1 := by simp [List.getD, hlt]
      have hn := Lib.hid (fun h2 => newAt_next (xs := ls.map Prod.fst) (k := k) hall.out h2)
      have ho := Lib.hid (diffB_no hkx)
      have htk := Lib.hid (show ((ls.map Prod.fst).take (k + 1)).map md = ((ls.map Prod.fst).take k).map md ++ [md ls[k].1] by
        rw [List.take_succ_eq_append_getElem hkx, List.map_append]; simp)
      have hq := Lib.hid (show newAt (ls.map Prod.fst) k = !(((ls.map Prod.fst).take k).map md).contains (md ls[k].1) by unfold newAt; rw [hgd])
      generalize ls[k].1 = x at *
      generalize ls[k].2 = y at *
      have hw3 : (Lit.int .i64 (md x)).wf = true := WalkArith.wf_i64 (I64.md x)
      have hkey := keyOf_int_mk (P := Try.prog) Try.underlying3 hw3
      have hownV := hown.alloc (.cells #[.int .i64 x, .int .i64 y] 35)
      obtain ⟨v, ps, hrun, hRv⟩ := hownV.lookup (t := 46) (e := 4) law3 Try.underlying46 (zero4 _) (plainElem_bool Try.underlying4 false) hkey
      rw [hseen.2] at hRv
      obtain ⟨v, rfl, hva⟩ := plainElem_bool_inv Try.underlying4 hRv
      simp only [Prod.mk.injEq, DataW.lit.injEq, Lit.bool.injEq] at hva
      have hbV := Lib.hid (hb.trans ((bnew wr (.cells #[.int .i64 x, .int .i64 y] 35)).mono hb.size))
      have hVs := Lib.hid (show w.heap.size ≤ (wr.alloc (.cells #[.int .i64 x, .int .i64 y] 35)).heap.size from Nat.le_trans hb.size (by simp))
      rw [hva.1] at hq
      clear hva hRv hown
      replace hseen := Lib.hid hseen
      cases v with
      | true =>
        go_wp2_with fail
        refine (Mod_any x _).mono ?_
        rintro e w1 ⟨rfl, rfl⟩
        go_wp2_with fail
        go_ret
        exact ⟨retB (by rw [ho.out (by rw [hq.out]; rfl)]), hbV.out⟩
      | false =>
        replace hn := Lib.hid (hn.out (by rw [hq.out]; rfl))
        go_wp2_with fail
        refine (Mod_any x _).mono ?_
        rintro e w1 ⟨rfl, rfl⟩
        go_wp2_with (first
          | (at_mapUpdate; refine wpList_mapUpdate_own _ rfl _ _ _ 46 rfl 3 4 law3 Try.underlying46 (plainElem (H := Unit) Try.prog 4) w.heap.size k _ rfl hownV (by unfold maxLen; omega) _ _ _ rfl rfl hkey _ [] (plainElem_bool Try.underlying4 true) ?_; intro w1 hown1 hgrow1)
          | go_in)
        go_roundw
        case rel => exact ⟨k + 1, by omega, by go_num, hn, hbV.out.grown hgrow1 (hVs.out) (fun j hj => by cases hj; exact Nat.le_refl _), _, hown1, by rw [htk.out]; exact hseen.out.put _⟩
        case measure => simp [intOf]; omega
    · have hle : ¬ ((k : Int) < ls.length) := by omega
      have hkl : k = ls.length := by omega
      have hend := Lib.hid (show diffB (ls.map Prod.fst) = true by unfold diffB; rw [List.length_map, ← hkl]; exact hall.out)
      clear hall hseen hown
      rw [hkl] at hle
      rw [hkl]
      clear hlt hkl
      go_wp2_with fail
      go_ret
      exact ⟨retB hend.out.symm, hb⟩
end Go.Proofs.Ytfblkkdoijfpfaa
