/- The lists of digests that the laws speak of: digestsOf; a row of digests of the call's own. -/
import Derived.Test.YtjfoihlelkfaoaaDoorCl
namespace Go.Proofs.YtjfoihlelkfaoaaDoor
open Go.RowKit

/-- A row of digests of the call's own. -/
def OD (w : World) (B : Nat) (v : Value) (l : List (List UInt8)) : Prop := w.ownsRow B 24 32 v l.length (l.flatMap BV)
theorem Tryd.infoD : (Tryd.prog.info? 24).map (fun i => (i.zero, i.size, i.bytes)) = some (some (.agg #[.int .u8 0, .int .u8 0, .int .u8 0, .int .u8 0, .int .u8 0, .int .u8 0, .int .u8 0, .int .u8 0, .int .u8 0, .int .u8 0, .int .u8 0, .int .u8 0, .int .u8 0, .int .u8 0, .int .u8 0, .int .u8 0, .int .u8 0, .int .u8 0, .int .u8 0, .int .u8 0, .int .u8 0, .int .u8 0, .int .u8 0, .int .u8 0, .int .u8 0, .int .u8 0, .int .u8 0, .int .u8 0, .int .u8 0, .int .u8 0, .int .u8 0, .int .u8 0]), 32, 32) := by kernel_rfl
theorem OD.nil (w : World) (B : Nat) : OD w B (.slice none 0 0) [] := World.ownsRow_nil w B _ 32
theorem flat_length (l : List (List UInt8)) (h : ∀ d ∈ l, d.length = 32) : (l.flatMap BV).length = l.length * 32 := by
  induction l with
  | nil => rfl
  | cons d r ih => rw [List.flatMap_cons, List.length_append, ih (fun x hx => h x (by simp [hx])), BV_length, h d (by simp), List.length_cons]; omega
theorem flat_get (l : List (List UInt8)) (h : ∀ d ∈ l, d.length = 32) : ∀ (i : Nat) (hi : i < l.length) (j : Nat), j < 32 → (l.flatMap BV)[i * 32 + j]? = (BV l[i])[j]? := by
  induction l with
  | nil => intro i hi; simp at hi
  | cons d r ih =>
    intro i hi j hj
    have hd : (BV d).length = 32 := by rw [BV_length, h d (by simp)]
    rw [List.flatMap_cons]
    cases i with
    | zero => rw [List.getElem?_append_left (by omega)]; simp
    | succ i =>
      rw [List.getElem?_append_right (by omega), show (i + 1) * 32 + j - (BV d).length = i * 32 + j by omega]
      simpa using ih (fun x hx => h x (by simp [hx])) i (by simpa using hi) j hj
theorem OD.reads {w : World} {B : Nat} {v : Value} {l : List (List UInt8)} (h : OD w B v l) (h32 : ∀ d ∈ l, d.length = 32) : ∃ a cap, v = .slice a l.length cap ∧ RD w w.heap.size l a cap := by
  rcases h.2 with ⟨rfl, h0⟩ | ⟨g, cap, cur, rfl, hb, hg, hnc, hcm, hcs, ht⟩
  · have hl : l = [] := List.eq_nil_of_length_eq_zero h0
    subst hl
    exact ⟨none, 0, rfl, Nat.le_refl _, by omega, h32, fun _ => rfl, 0, 0, fun h => by simp at h, fun i hi => by simp at hi⟩
  · have hlt : g < w.heap.size := (Array.getElem?_eq_some_iff.1 hg).1
    refine ⟨_, cap, rfl, hnc, by unfold maxLen at hcm; omega, h32, fun h => (by cases h), g, 0, fun _ => ⟨rfl, hlt⟩, fun i hi j u hu => ?_⟩
    have hj : j < 32 := by
      have := (List.getElem?_eq_some_iff.1 hu).1
      rwa [BV_length, h32 _ (List.getElem_mem hi)] at this
    rw [cell_of_row w g _ _ _ _ hg, Nat.zero_add, ← hu, ← flat_get l h32 i hi j hj, ← ht, List.getElem?_take_of_lt (by omega), Array.getElem?_toList]
theorem ownsRow_mono {w : World} {B B' : Nat} {v : Value} {l : List (List UInt8)} (h : OD w B v l) (hB : B' ≤ B) : OD w B' v l := by
  refine ⟨h.1, ?_⟩
  rcases h.2 with h' | ⟨g, cap, cur, e, hb, r⟩
  · exact .inl h'
  · exact .inr ⟨g, cap, cur, e, Nat.le_trans hB hb, r⟩
theorem OD.below {w w' : World} {B : Nat} {v : Value} {l : List (List UInt8)} (h : OD w B v l) (hb : Below w.heap.size w w') : OD w' B v l :=
  World.ownsRow.kept (row := none) h ⟨hb.os, hb.tape, hb.output, hb.size, fun k hk _ => hb.block k hk⟩ (by cases hv : v.ownBlock <;> simp)

theorem RBs.under {w w' : World} {B : Nat} {A : Option Addr} {bs : List UInt8} (h : RBs w B A bs) (hb : Below B w w') : RBs w' B A bs := by
  intro hp
  obtain ⟨b, off, e, hlt, hc⟩ := h hp
  exact ⟨b, off, e, hlt, fun j hj => by rw [hb.cell (p := ⟨b, off + j, none⟩) hlt]; exact hc j hj⟩
def dig (x : UInt8) (i : Nat) : List UInt8 := x % 4 :: UInt8.ofNat (i / 8) :: List.replicate 30 0
theorem BV_dig (x : UInt8) (k : Nat) (hk : k < 24) : BV (dig x k) = [.int .u8 ((x.toNat : Int) % 4), .int .u8 ((k : Int) / 8), .int .u8 0, .int .u8 0, .int .u8 0, .int .u8 0, .int .u8 0, .int .u8 0, .int .u8 0, .int .u8 0, .int .u8 0, .int .u8 0, .int .u8 0, .int .u8 0, .int .u8 0, .int .u8 0, .int .u8 0, .int .u8 0, .int .u8 0, .int .u8 0, .int .u8 0, .int .u8 0, .int .u8 0, .int .u8 0, .int .u8 0, .int .u8 0, .int .u8 0, .int .u8 0, .int .u8 0, .int .u8 0, .int .u8 0, .int .u8 0] := by
  have h1 : ((x % 4).toNat : Int) = (x.toNat : Int) % 4 := by rw [UInt8.toNat_mod]; simp
  have h2 : ((UInt8.ofNat (k / 8)).toNat : Int) = (k : Int) / 8 := by rw [UInt8.toNat_ofNat', Nat.mod_eq_of_lt (by omega)]; simp
  unfold BV dig
  rw [List.map_cons, List.map_cons, h1, h2]
  rfl
theorem dig_length (x : UInt8) (i : Nat) : (dig x i).length = 32 := by simp [dig]
def dsOf (s : List UInt8) : List (List UInt8) := (List.range (min s.length 24)).map fun i => dig (s.getD i 0) i
def dsTo (s : List UInt8) (k : Nat) : List (List UInt8) := (List.range k).map fun i => dig (s.getD i 0) i
theorem dsTo_length (s : List UInt8) (k : Nat) : (dsTo s k).length = k := by simp [dsTo]
theorem dsTo_succ (s : List UInt8) (k : Nat) : dsTo s (k + 1) = dsTo s k ++ [dig (s.getD k 0) k] := by simp [dsTo, List.range_succ]
theorem dsTo_32 (s : List UInt8) (k : Nat) : ∀ d ∈ dsTo s k, d.length = 32 := fun d hd => by
  simp only [dsTo, List.mem_map] at hd
  obtain ⟨i, -, rfl⟩ := hd
  exact dig_length _ _
theorem dsOf_eq (s : List UInt8) : dsOf s = dsTo s (min s.length 24) := rfl
theorem dsOf_length (s : List UInt8) : (dsOf s).length = min s.length 24 := dsTo_length _ _

set_option maxRecDepth 100000 in
set_option maxHeartbeats 4000000 in
theorem digestsOf_any (s : List UInt8) (w : World) (A : Option Addr) (c : Nat) (hr : RBs w w.heap.size A s) (hs : s.length ≤ 9223372036854775807) : Calls Tryd.prog 7 #[.slice A s.length c] w fun e w' => ∃ v, e = .returned v ∧ OD w' w.heap.size v (dsOf s) ∧ Below w.heap.size w w' := by
  obtain ⟨i0, hi0, hz0, hz1, hz2⟩ := info_parts Tryd.infoD
  have hrH := Lib.hid hr
  clear hr
  go_enter Tryd.func7, Tryd.ntmps7
  go_wp2_with fail
  go_loopw [3, 4] (fun v i wr => ∃ k : Nat, i = .int .i64 k ∧ k ≤ min s.length 24 ∧ wr.ownsRow w.heap.size 24 32 v k ((dsTo s k).flatMap BV) ∧ Below w.heap.size w wr) (fun _ i _ => 24 - (intOf i).toNat)
  case atStart => exact ⟨0, rfl, by omega, World.ownsRow_lit w #[] 0 (Nat.le_refl _) (by unfold maxLen; omega) rfl, (Below.refl _ _).alloc (Nat.le_refl _) _⟩
  case round =>
    obtain ⟨k, rfl, hk, hob, hb⟩ := hrel
    by_cases hk2 : k < s.length ∧ k < 24
    · obtain ⟨h1, h2⟩ := hk2
      obtain ⟨b, off, rfl, hlt, hc⟩ := RBs.under hrH.out hb (by omega)
      have hcell := hc k h1
      have hz := hb.size
      have hd := BV_dig s[k] k h2
      have hgd : s.getD k 0 = s[k] := by rw [List.getD_eq_getElem?_getD, List.getElem?_eq_getElem h1]; rfl
      have hob' := hob
      have hd' := Lib.hid hd
      clear hd hob
      go_wp2_with (at_builtin; refine wpList_append_lies _ rfl _ _ 26 rfl w.heap.size 24 i0 _ 32 32 Tryd.underlying26 hi0 hz0 hz1 hz2 rfl (by decide) _ k _ rfl (World.ownsRow.alloc hob' _) ⟨wr.heap.size, 0, none⟩ 1 1 [.int .u8 ((s[k].toNat : Int) % 4), .int .u8 ((k : Int) / 8), .int .u8 0, .int .u8 0, .int .u8 0, .int .u8 0, .int .u8 0, .int .u8 0, .int .u8 0, .int .u8 0, .int .u8 0, .int .u8 0, .int .u8 0, .int .u8 0, .int .u8 0, .int .u8 0, .int .u8 0, .int .u8 0, .int .u8 0, .int .u8 0, .int .u8 0, .int .u8 0, .int .u8 0, .int .u8 0, .int .u8 0, .int .u8 0, .int .u8 0, .int .u8 0, .int .u8 0, .int .u8 0, .int .u8 0, .int .u8 0] rfl rfl (World.news_of_block (cs := #[.int .u8 ((s[k].toNat : Int) % 4), .int .u8 ((k : Int) / 8), .int .u8 0, .int .u8 0, .int .u8 0, .int .u8 0, .int .u8 0, .int .u8 0, .int .u8 0, .int .u8 0, .int .u8 0, .int .u8 0, .int .u8 0, .int .u8 0, .int .u8 0, .int .u8 0, .int .u8 0, .int .u8 0, .int .u8 0, .int .u8 0, .int .u8 0, .int .u8 0, .int .u8 0, .int .u8 0, .int .u8 0, .int .u8 0, .int .u8 0, .int .u8 0, .int .u8 0, .int .u8 0, .int .u8 0, .int .u8 0]) (heap_alloc_new wr _)) (by simp [Value.oneCell']) (by omega) (by unfold maxLen; omega) (by omega) (by simp; omega) _ rfl ?_; intro g cz w8 hown hgrow hat hlt8)
      have hB8 := (hb.alloc hb.size (.cells #[.int .u8 ((s[k].toNat : Int) % 4), .int .u8 ((k : Int) / 8), .int .u8 0, .int .u8 0, .int .u8 0, .int .u8 0, .int .u8 0, .int .u8 0, .int .u8 0, .int .u8 0, .int .u8 0, .int .u8 0, .int .u8 0, .int .u8 0, .int .u8 0, .int .u8 0, .int .u8 0, .int .u8 0, .int .u8 0, .int .u8 0, .int .u8 0, .int .u8 0, .int .u8 0, .int .u8 0, .int .u8 0, .int .u8 0, .int .u8 0, .int .u8 0, .int .u8 0, .int .u8 0, .int .u8 0, .int .u8 0] 24)).grown hgrow (by have := hb.size; simp; omega) (fun g' h => (World.ownsRow.lt hob' g' h).1)
      have hown' : w8.ownsRow w.heap.size 24 32 (.slice (some ⟨g, 0, none⟩) (k + 1) cz) (k + 1) ((dsTo s (k + 1)).flatMap BV) := by
        rw [dsTo_succ, List.flatMap_append, hgd, List.flatMap_singleton, hd'.out]
        exact hown
      have hB8' := Lib.hid hB8
      clear hown hgrow hat hlt8 hB8 hd'
      go_wp2_with fail
      go_roundw
      case rel => exact ⟨k + 1, by go_num, by omega, hown', hB8'.out⟩
      case measure => simp [intOf]; omega
    · have hkk : k = min s.length 24 := by omega
      have hcond : (k : Int) < s.length ∧ (k : Int) < 24 → False := by omega
      by_cases h1 : k < s.length
      · have h2 : ¬ ((k : Int) < 24) := by omega
        go_wp2_with fail
        go_ret
        exact ⟨_, rfl, by unfold OD; rw [dsOf_eq, ← hkk, dsTo_length]; exact hob, hb⟩
      · have h2 : ¬ ((k : Int) < s.length) := by omega
        go_wp2_with fail
        go_ret
        exact ⟨_, rfl, by unfold OD; rw [dsOf_eq, ← hkk, dsTo_length]; exact hob, hb⟩
end Go.Proofs.YtjfoihlelkfaoaaDoor
