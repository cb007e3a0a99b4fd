/- The first row: hash.first. -/
import Derived.Test.YtgddfdejkmnfkaaDoorMo
namespace Go.Proofs.YtgddfdejkmnfkaaDoor
open Go.RowKit

/-- The first row of a list. -/
def firstM (ls : List (List UInt8)) : List (List UInt8) := ls.map fun x => sha (leafM x)
theorem firstM_len (ls : List (List UInt8)) : (firstM ls).length = ls.length := by simp [firstM]
theorem firstM_32 (ls : List (List UInt8)) : ∀ d ∈ firstM ls, d.length = 32 := fun d hd => by
  obtain ⟨x, -, rfl⟩ := List.mem_map.1 hd
  exact sha_length _
theorem firstM_take {ls : List (List UInt8)} {k : Nat} (h : k < ls.length) : firstM (ls.take (k + 1)) = firstM (ls.take k) ++ [sha (leafM ls[k])] := by
  unfold firstM
  rw [List.take_add_one, List.getElem?_eq_getElem h, List.map_append]
  rfl
theorem leafM_len (l : List UInt8) : (leafM l).length = 32 + l.length := by unfold leafM texM; rw [List.length_append, sha_length]
theorem nodeM_len {a b : List UInt8} (ha : a.length = 32) (hb : b.length = 32) : (nodeM a b).length = 96 := by unfold nodeM texM; rw [List.length_append, List.length_append, sha_length, ha, hb]
/-- The digest of a row of bytes of the call's own. -/
theorem sum_own {W : World} {B : Nat} {v : Value} {l : List UInt8} (ho : OB W B v l) (hp : 0 < l.length) (hl : l.length ≤ 1000000) (hK : KT W) (h0 : 0 < W.heap.size) :
    Calls Tryd.prog 21 #[v] W fun e w' => e = .returned (.agg (BV (sha l)).toArray) ∧ Below W.heap.size W w' := by
  obtain ⟨g, c, rfl, -, -, -⟩ := ho.src hp
  have hre := ho.reads
  exact Sum_any l hl W _ c hre.1 (fun h => by cases h) hre.2.2 hK h0

set_option maxRecDepth 100000 in
set_option maxHeartbeats 2000000 in
theorem first_any (ls : List (List UInt8)) (hls : ls.length ≤ 100000) (hsm : Small ls) (w : World) (A : Option Addr) (c : Nat) (hr : LL w w.heap.size ls A) (hK : KT w) (h0 : 0 < w.heap.size) :
    Calls Tryd.prog 24 #[.func (.func 21) #[] #[], .slice A ls.length c] w fun e w' => ∃ v, e = .returned v ∧ OD w' w.heap.size v (firstM ls) ∧ Below w.heap.size w w' := by
  have hrH := Lib.hid hr
  have hKH := Lib.hid hK
  have hsmH := Lib.hid hsm
  clear hr hK hsm
  go_enter Tryd.func24, Tryd.ntmps24
  go_wp2_with fail
  go_loopw [4, 6, 9] (fun v _ i wr => ∃ k : Nat, k ≤ ls.length ∧ i = .int .i64 k ∧ (∃ a cz, v = .slice a k cz) ∧ Hid (OD wr w.heap.size v (firstM (ls.take k)) ∧ Below w.heap.size w wr)) (fun _ _ i _ => ls.length - (intOf i).toNat)
  case atStart => exact ⟨0, Nat.zero_le _, rfl, ⟨none, 0, rfl⟩, OD.nil _ _, Below.refl _ _⟩
  case round =>
    obtain ⟨k, hk, rfl, ⟨a, cz, rfl⟩, hI⟩ := hrel
    by_cases hlt : k < ls.length
    · have hlt' : (k : Int) < (ls.length : Int) := by omega
      have hw1 : IntKind.i64.wrap ((k : Int) + 1) = (k : Int) + 1 := IntWalk.i64_in _ (by omega)
      obtain ⟨b, off, a1, c1, rfl, hb, hc, hrb, hn, hcc⟩ := (hrH.out.lift hI.out.2 hI.out.2.size).at_ hlt
      have hx := hsmH.out ls[k] (List.getElem_mem hlt)
      have hT := leafText_any ls[k] (by omega) wr a1 c1 hrb hn (hKH.out.below hI.out.2 h0) (Nat.lt_of_lt_of_le h0 hI.out.2.size)
      have hlen := leafM_len ls[k]
      have hft := Lib.hid (firstM_take hlt)
      generalize ls[k] = x at *
      replace hT := Lib.hid hT
      clear hrb hn
      go_wp2_with fail
      refine hT.out.mono ?_
      rintro e w2 ⟨v2, rfl, ho2, hb2⟩
      have hB2 := hI.out.2.trans (hb2.mono hI.out.2.size)
      have hS := Lib.hid (sum_own ho2 (by omega) (by omega) (hKH.out.below hB2 h0) (Nat.lt_of_lt_of_le h0 hB2.size))
      have hO2 := hI.out.1.below hb2
      clear hT hc ho2 hb2 hI
      go_wp2_with fail
      refine hS.out.mono ?_
      rintro e w3 ⟨rfl, hb3⟩
      have hB3 := hB2.trans (hb3.mono hB2.size)
      have hO3 := hO2.below hb3
      have hb4 := bel1 w3 (.cells (BV (sha (leafM x))).toArray 30)
      have hO4 := hO3.below hb4
      have hB4 := hB3.trans (hb4.mono hB3.size)
      obtain ⟨a5, c5, W5, hr5, hO5, hg5, -⟩ := hO4.app 25 w3.heap.size (sha (leafM x)) (heap_alloc_new w3 _) (sha_length _) (by rw [firstM_len, List.length_take]; omega) hB4.size
      have hB5 := hB4.trans (hO4.app_below hg5 hB4.size)
      have hl5 : (firstM (ls.take k) ++ [sha (leafM x)]).length = k + 1 := by rw [List.length_append, firstM_len, List.length_take]; simp; omega
      rw [hl5] at hr5 hO5
      have hcells := one_cells (sha_length (leafM x))
      have hsz := DV_size (sha_length (leafM x))
      replace hr5 := Lib.hid hr5
      have hfin := Lib.hid (And.intro hO5 hB5)
      clear hS hb3 hO2 hO3 hO4 hb4 hB2 hB3 hB4 hO5 hB5 hg5 hl5
      go_wp2_with (at_builtin; refine Lib.wpList_append_run _ rfl _ _ _ _ rfl _ _ rfl rfl _ _ hr5.out ?_)
      go_roundw
      case rel => exact ⟨k + 1, by omega, by go_num, ⟨a5, c5, rfl⟩, by rw [hft.out]; exact hfin.out⟩
      case measure => simp [intOf]; omega
    · obtain rfl : k = ls.length := by omega
      have hI' := hI.out
      rw [List.take_length] at hI'
      clear hI
      replace hI' := Lib.hid hI'
      go_wp2_with fail
      go_ret
      exact ⟨_, rfl, hI'.out⟩
end Go.Proofs.YtgddfdejkmnfkaaDoor
