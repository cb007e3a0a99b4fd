/- The reference: a word of four bytes, the numbers K. -/
import Derived.Test.YtalphobaohffnaaDoorTh
import Derived.BigQuiet
namespace Go.Proofs.YtalphobaohffnaaDoor
open Go.RowKit

theorem or_add (a b i : Nat) (h : b < 2 ^ i) : a * 2 ^ i ||| b = a * 2 ^ i + b := by
  rw [Nat.mul_comm]; exact (Nat.two_pow_add_eq_or_of_lt h a).symm
theorem wacc_four (b : List UInt8) (t : Nat) : (wacc b t 4).toNat = (((b.getD (4 * t) 0).toNat * 256 + (b.getD (4 * t + 1) 0).toNat) * 256 + (b.getD (4 * t + 2) 0).toNat) * 256 + (b.getD (4 * t + 3) 0).toNat := by
  have h0 := (b.getD (4 * t) 0).toNat_lt
  have h1 := (b.getD (4 * t + 1) 0).toNat_lt
  have h2 := (b.getD (4 * t + 2) 0).toNat_lt
  have h3 := (b.getD (4 * t + 3) 0).toNat_lt
  have e1 : (wacc b t 1).toNat = (b.getD (4 * t) 0).toNat := by
    simp only [wacc, UInt32.toNat_or, UInt32.toNat_ofNat', Nat.add_zero]
    simp
  have step : ∀ i m, (wacc b t i).toNat = m → m < 16777216 → (wacc b t (i + 1)).toNat = m * 256 + (b.getD (4 * t + i) 0).toNat := fun i m hm hlt => by
    have hb := (b.getD (4 * t + i) 0).toNat_lt
    rw [wacc, UInt32.toNat_or, UInt32.toNat_ofNat', UInt32.toNat_ofNat', hm, Nat.mod_eq_of_lt (show m * 2 ^ 8 < 2 ^ 32 by omega), Nat.mod_eq_of_lt (show (b.getD (4 * t + i) 0).toNat < 2 ^ 32 by omega), or_add _ _ 8 (by omega)]
  have e2 := step 1 _ e1 (by omega)
  have e3 := step 2 _ e2 (by omega)
  have e4 := step 3 _ e3 (by omega)
  exact e4

theorem or_nat (a b : Nat) (ha : a < 4294967296) (hb : b < 4294967296) : bits .or .u32 (a : Int) (b : Int) = ((a ||| b : Nat) : Int) := by
  have := u32_or (a : Int) (b : Int) (by omega) (by omega) (by omega) (by omega)
  rw [this]; simp
set_option maxRecDepth 100000 in
theorem or_word (x0 x1 x2 x3 : Nat) (l0 : x0 < 2 ^ 8) (l1 : x1 < 2 ^ 8) (l2 : x2 < 2 ^ 8) (l3 : x3 < 2 ^ 8) :
    bits .or .u32 (bits .or .u32 (bits .or .u32 ((x0 : Int) * 16777216) ((x1 : Int) * 65536)) ((x2 : Int) * 256)) (x3 : Int) = ((((x0 * 256 + x1) * 256 + x2) * 256 + x3 : Nat) : Int) := by
  have e1 : bits .or .u32 ((x0 : Int) * 16777216) ((x1 : Int) * 65536) = ((x0 * 16777216 + x1 * 65536 : Nat) : Int) := by
    have h := or_nat (x0 * 16777216) (x1 * 65536) (by omega) (by omega)
    rw [show x0 * 16777216 = x0 * 2 ^ 24 by omega, or_add x0 (x1 * 65536) 24 (by omega)] at h
    rw [← show x0 * 16777216 = x0 * 2 ^ 24 by omega] at h
    simpa using h
  have e2 : bits .or .u32 ((x0 * 16777216 + x1 * 65536 : Nat) : Int) ((x2 : Int) * 256) = ((x0 * 16777216 + x1 * 65536 + x2 * 256 : Nat) : Int) := by
    have h := or_nat (x0 * 16777216 + x1 * 65536) (x2 * 256) (by omega) (by omega)
    rw [show x0 * 16777216 + x1 * 65536 = (x0 * 256 + x1) * 2 ^ 16 by omega, or_add _ (x2 * 256) 16 (by omega)] at h
    rw [← show x0 * 16777216 + x1 * 65536 = (x0 * 256 + x1) * 2 ^ 16 by omega] at h
    simpa using h
  have e3 : bits .or .u32 ((x0 * 16777216 + x1 * 65536 + x2 * 256 : Nat) : Int) (x3 : Int) = ((x0 * 16777216 + x1 * 65536 + x2 * 256 + x3 : Nat) : Int) := by
    have h := or_nat (x0 * 16777216 + x1 * 65536 + x2 * 256) x3 (by omega) (by omega)
    rw [show x0 * 16777216 + x1 * 65536 + x2 * 256 = ((x0 * 256 + x1) * 256 + x2) * 2 ^ 8 by omega, or_add _ x3 8 (by omega)] at h
    rw [← show x0 * 16777216 + x1 * 65536 + x2 * 256 = ((x0 * 256 + x1) * 256 + x2) * 2 ^ 8 by omega] at h
    simpa using h
  rw [e1, e2, e3, show x0 * 16777216 + x1 * 65536 + x2 * 256 + x3 = ((x0 * 256 + x1) * 256 + x2) * 256 + x3 by omega]

set_option maxRecDepth 100000 in
set_option maxHeartbeats 1000000 in
theorem word_any (bs : List UInt8) (t : Nat) (w : World) (b off c : Nat) (h : ∀ j, j < 4 → w.cell? ⟨b, off + j, none⟩ = some (.int .u8 ((bs.getD (4 * t + j) 0).toNat : Int))) : Calls Tryd.prog 42 #[.slice (some ⟨b, off, none⟩) 4 c] w fun e w' => e = .returned (.int .u32 (U (wacc bs t 4))) ∧ ∃ k, w' = w.drewN k := by
  have hv : U (wacc bs t 4) = (((((bs.getD (4 * t) 0).toNat * 256 + (bs.getD (4 * t + 1) 0).toNat) * 256 + (bs.getD (4 * t + 2) 0).toNat) * 256 + (bs.getD (4 * t + 3) 0).toNat : Nat) : Int) := by unfold U; rw [wacc_four]
  have h0 := h 0 (by omega)
  have h1 := h 1 (by omega)
  have h2 := h 2 (by omega)
  have h3 := h 3 (by omega)
  have l0 := (bs.getD (4 * t) 0).toNat_lt
  have l1 := (bs.getD (4 * t + 1) 0).toNat_lt
  have l2 := (bs.getD (4 * t + 2) 0).toNat_lt
  have l3 := (bs.getD (4 * t + 3) 0).toNat_lt
  rw [Nat.add_zero, Nat.add_zero] at h0
  generalize (bs.getD (4 * t) 0).toNat = x0 at *
  generalize (bs.getD (4 * t + 1) 0).toNat = x1 at *
  generalize (bs.getD (4 * t + 2) 0).toNat = x2 at *
  generalize (bs.getD (4 * t + 3) 0).toNat = x3 at *
  have c0 : ∀ n, (w.drewN n).cell? ⟨b, off, none⟩ = some (.int .u8 (x0 : Int)) := fun _ => h0
  have c1 : ∀ n, (w.drewN n).cell? ⟨b, off + 1, none⟩ = some (.int .u8 (x1 : Int)) := fun _ => h1
  have c2 : ∀ n, (w.drewN n).cell? ⟨b, off + 2, none⟩ = some (.int .u8 (x2 : Int)) := fun _ => h2
  have c3 : ∀ n, (w.drewN n).cell? ⟨b, off + 3, none⟩ = some (.int .u8 (x3 : Int)) := fun _ => h3
  have hv' := Lib.hid hv
  clear h hv h0 h1 h2 h3
  go_enter Tryd.func42, Tryd.ntmps42
  go_wp2_with fail
  go_quiet (fail)
  go_wp2_with fail
  go_ret
  exact ⟨by rw [hv'.out, or_word x0 x1 x2 x3 l0 l1 l2 l3]; rfl, nq, rfl⟩

theorem WV_K : WV Ktab = [.int .u32 1116352408, .int .u32 1899447441, .int .u32 3049323471, .int .u32 3921009573, .int .u32 961987163, .int .u32 1508970993, .int .u32 2453635748, .int .u32 2870763221, .int .u32 3624381080, .int .u32 310598401, .int .u32 607225278, .int .u32 1426881987, .int .u32 1925078388, .int .u32 2162078206, .int .u32 2614888103, .int .u32 3248222580, .int .u32 3835390401, .int .u32 4022224774, .int .u32 264347078, .int .u32 604807628, .int .u32 770255983, .int .u32 1249150122, .int .u32 1555081692, .int .u32 1996064986, .int .u32 2554220882, .int .u32 2821834349, .int .u32 2952996808, .int .u32 3210313671, .int .u32 3336571891, .int .u32 3584528711, .int .u32 113926993, .int .u32 338241895, .int .u32 666307205, .int .u32 773529912, .int .u32 1294757372, .int .u32 1396182291, .int .u32 1695183700, .int .u32 1986661051, .int .u32 2177026350, .int .u32 2456956037, .int .u32 2730485921, .int .u32 2820302411, .int .u32 3259730800, .int .u32 3345764771, .int .u32 3516065817, .int .u32 3600352804, .int .u32 4094571909, .int .u32 275423344, .int .u32 430227734, .int .u32 506948616, .int .u32 659060556, .int .u32 883997877, .int .u32 958139571, .int .u32 1322822218, .int .u32 1537002063, .int .u32 1747873779, .int .u32 1955562222, .int .u32 2024104815, .int .u32 2227730452, .int .u32 2361852424, .int .u32 2428436474, .int .u32 2756734187, .int .u32 3204031479, .int .u32 3329325298] := by
  unfold WV Ktab
  simp only [List.map_cons, List.map_nil]
  rfl
set_option maxRecDepth 100000 in
set_option maxHeartbeats 1000000 in
theorem numbers_any (w : World) : Calls Tryd.prog 44 #[] w fun e w' => e = .returned (.agg (WV Ktab).toArray) ∧ Below w.heap.size w w' := by
  have hu : Tryd.prog.underlying 58 = some (.array 64 41) := by kernel_rfl
  have hi : (Tryd.prog.info? 58).map (·.size) = some 64 := by kernel_rfl
  have hz := heap_alloc_new w (.cells #[.int .u32 0, .int .u32 0, .int .u32 0, .int .u32 0, .int .u32 0, .int .u32 0, .int .u32 0, .int .u32 0, .int .u32 0, .int .u32 0, .int .u32 0, .int .u32 0, .int .u32 0, .int .u32 0, .int .u32 0, .int .u32 0, .int .u32 0, .int .u32 0, .int .u32 0, .int .u32 0, .int .u32 0, .int .u32 0, .int .u32 0, .int .u32 0, .int .u32 0, .int .u32 0, .int .u32 0, .int .u32 0, .int .u32 0, .int .u32 0, .int .u32 0, .int .u32 0, .int .u32 0, .int .u32 0, .int .u32 0, .int .u32 0, .int .u32 0, .int .u32 0, .int .u32 0, .int .u32 0, .int .u32 0, .int .u32 0, .int .u32 0, .int .u32 0, .int .u32 0, .int .u32 0, .int .u32 0, .int .u32 0, .int .u32 0, .int .u32 0, .int .u32 0, .int .u32 0, .int .u32 0, .int .u32 0, .int .u32 0, .int .u32 0, .int .u32 0, .int .u32 0, .int .u32 0, .int .u32 0, .int .u32 0, .int .u32 0, .int .u32 0, .int .u32 0] 58)
  rw [WV_K]
  go_enter Tryd.func44, Tryd.ntmps44
  go_wp2_with (refine wpList_store_row rfl 58 _ _ rfl w.heap.size _ rfl rfl 58 _ hz ?cj ?cl ?ck ?_
               case cj => rw [hi]; rfl
               case cl => rfl
               case ck => kernel_rfl)
  generalize hL : (#[.int .u32 1116352408, .int .u32 1899447441, .int .u32 3049323471, .int .u32 3921009573, .int .u32 961987163, .int .u32 1508970993, .int .u32 2453635748, .int .u32 2870763221, .int .u32 3624381080, .int .u32 310598401, .int .u32 607225278, .int .u32 1426881987, .int .u32 1925078388, .int .u32 2162078206, .int .u32 2614888103, .int .u32 3248222580, .int .u32 3835390401, .int .u32 4022224774, .int .u32 264347078, .int .u32 604807628, .int .u32 770255983, .int .u32 1249150122, .int .u32 1555081692, .int .u32 1996064986, .int .u32 2554220882, .int .u32 2821834349, .int .u32 2952996808, .int .u32 3210313671, .int .u32 3336571891, .int .u32 3584528711, .int .u32 113926993, .int .u32 338241895, .int .u32 666307205, .int .u32 773529912, .int .u32 1294757372, .int .u32 1396182291, .int .u32 1695183700, .int .u32 1986661051, .int .u32 2177026350, .int .u32 2456956037, .int .u32 2730485921, .int .u32 2820302411, .int .u32 3259730800, .int .u32 3345764771, .int .u32 3516065817, .int .u32 3600352804, .int .u32 4094571909, .int .u32 275423344, .int .u32 430227734, .int .u32 506948616, .int .u32 659060556, .int .u32 883997877, .int .u32 958139571, .int .u32 1322822218, .int .u32 1537002063, .int .u32 1747873779, .int .u32 1955562222, .int .u32 2024104815, .int .u32 2227730452, .int .u32 2361852424, .int .u32 2428436474, .int .u32 2756734187, .int .u32 3204031479, .int .u32 3329325298] : Array Value) = L
  have hsz : L.size = 64 := by rw [← hL]; rfl
  have hrow := setRow_heap (w.alloc (.cells #[.int .u32 0, .int .u32 0, .int .u32 0, .int .u32 0, .int .u32 0, .int .u32 0, .int .u32 0, .int .u32 0, .int .u32 0, .int .u32 0, .int .u32 0, .int .u32 0, .int .u32 0, .int .u32 0, .int .u32 0, .int .u32 0, .int .u32 0, .int .u32 0, .int .u32 0, .int .u32 0, .int .u32 0, .int .u32 0, .int .u32 0, .int .u32 0, .int .u32 0, .int .u32 0, .int .u32 0, .int .u32 0, .int .u32 0, .int .u32 0, .int .u32 0, .int .u32 0, .int .u32 0, .int .u32 0, .int .u32 0, .int .u32 0, .int .u32 0, .int .u32 0, .int .u32 0, .int .u32 0, .int .u32 0, .int .u32 0, .int .u32 0, .int .u32 0, .int .u32 0, .int .u32 0, .int .u32 0, .int .u32 0, .int .u32 0, .int .u32 0, .int .u32 0, .int .u32 0, .int .u32 0, .int .u32 0, .int .u32 0, .int .u32 0, .int .u32 0, .int .u32 0, .int .u32 0, .int .u32 0, .int .u32 0, .int .u32 0, .int .u32 0, .int .u32 0] 58)) w.heap.size _ L _ _ hz
  refine bodyPost_ret (results_cell_row rfl _ _ w.heap.size 58 _ (0, 0) _ rfl hrow hu rfl (by rw [hi, hsz])) rfl ⟨?_, below_row ((Below.refl _ _).alloc (Nat.le_refl _) _) _ (Nat.le_refl _) (by simp)⟩
  rw [← hL]
end Go.Proofs.YtalphobaohffnaaDoor
