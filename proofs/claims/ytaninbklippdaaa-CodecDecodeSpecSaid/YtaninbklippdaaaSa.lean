/- sane: the examples. -/
import Derived.Test.YtaninbklippdaaaPl
import Derived.Lib.ConvBytes
namespace Go.Proofs.Ytaninbklippdaaa
open Go.RowKit

def intG (n : Int) : GV := .mk 1 n ⟨#[]⟩ []
def textG (s : ByteArray) : GV := .mk 2 0 s []
def listG (l : List GV) : GV := .mk 3 0 ⟨#[]⟩ l

theorem RV.leaf {w : World} {B : Nat} {k n : Int} {s : ByteArray} (hk : I64 k) (hn : I64 n) (hs : s.size ≤ maxLen) : RV w B (.mk k n s []) (.agg #[.int .i64 k, .int .i64 n, .string s, .slice none 0 0]) :=
  .mk k n s [] none 0 0 0 (fun _ => .nilFunc) hk hn hs (by simp) (by simp [maxLen]) (by simp) (by simp) (fun i h => absurd h (by simp)) (fun i h => absurd h (by simp))
theorem RV.int {w : World} {B : Nat} {n : Int} (hn : I64 n) : RV w B (intG n) (.agg #[.int .i64 1, .int .i64 n, .string ⟨#[]⟩, .slice none 0 0]) := RV.leaf (by unfold I64; omega) hn (by simp [maxLen, ByteArray.size])

theorem empty_toList : (⟨#[]⟩ : ByteArray).toList = [] := by rw [ByteArray.toList_eq]
theorem chk_int (n : Int) : chk (intG n) = 0 := by simp [chk, intG, formed, dep]
theorem enc_int (n : Int) : enc (intG n) = 1 :: digs (uns n).toNat := by rw [intG, enc, if_pos rfl]
theorem big_int (n : Int) : big (intG n) = 1 := by simp [intG, big, bigAll, ByteArray.size]
theorem encB_int (n : Int) : encB (intG n) = 1 :: digs (uns n).toNat := by rw [encB, if_pos (chk_int n), enc_int]

theorem d0 : dec [] = none := rfl
theorem d1 : dec [1, 128, 0] = none := rfl
theorem d2 : dec [1, 5, 0] = none := rfl
theorem d3 : dec [2, 3, 97] = none := rfl

def ab : ByteArray := ⟨#[97, 98]⟩
def exG : GV := listG [intG 100, textG ab]
theorem chk_ex : chk exG = 0 := by simp [chk, exG, listG, intG, textG, formed, formedAll, dep, depAll]
theorem encB_m3 : encB (intG (-3)) = [1, 5] := by
  rw [encB_int]; simp [uns, digs_small (show 5 < 128 by omega)]
theorem encB_ex : encB exG = [3, 2, 1, 200, 1, 2, 2, 97, 98] := by
  rw [encB, if_pos chk_ex]
  have e1 : digs 200 = [200, 1] := by rw [digs_big (by omega), digs_small (by omega)]; rfl
  have e2 : digs 2 = [2] := by rw [digs_small (by omega)]; rfl
  simp [exG, listG, intG, textG, enc, encAll, uns, e1, e2, ab, ByteArray.size]

/-- A string as bytes. -/
theorem conv_bytes (W : World) (s : ByteArray) : (convert 9 22 (.string s)).run Try.prog W = .ok (.slice (some ⟨W.heap.size, 0, none⟩) s.size (grownCap W s.size 0 5)) (Lib.bytesWorld W 5 s) :=
  Lib.run_convert_string_bytes (P := Try.prog) W 9 22 5 s Try.underlying9 Try.underlying22 Try.underlying5
theorem bytes_below (W : World) (s : ByteArray) : Below W.heap.size W (Lib.bytesWorld W 5 s) :=
  ⟨rfl, rfl, rfl, by rw [Lib.bytesWorld_size]; omega, fun k hk => Lib.bytesWorld_at_old W _ s k hk⟩
theorem bytes_read (W : World) (s : ByteArray) : RBs (Lib.bytesWorld W 5 s) (Lib.bytesWorld W 5 s).heap.size (some ⟨W.heap.size, 0, none⟩) s.data.toList := by
  intro hp
  refine ⟨W.heap.size, 0, rfl, by rw [Lib.bytesWorld_size]; omega, fun j hj => ?_⟩
  have hj' : j < s.size := hj
  rw [Nat.zero_add, Lib.bytesWorld_cell W _ s j hj']
  have e : s.data.toList.getD j 0 = s.data.toList[j] := by rw [List.getD, List.getElem?_eq_getElem hj]; rfl
  rw [e]

theorem OB.reads {w : World} {B : Nat} {a : Option Addr} {n c : Nat} {l : List UInt8} (h : OB w B (.slice a n c) l) : RBs w w.heap.size a l ∧ n = l.length ∧ l.length ≤ c := by
  have hn : n = l.length ∧ l.length ≤ c := by
    rcases h.2 with ⟨e, h0⟩ | ⟨g, cap, cur, e, _, _, hle, _⟩
    · injection e with _ e2 e3; subst e2; subst e3; exact ⟨h0.symm, by omega⟩
    · injection e with _ e2 e3; subst e2; subst e3; exact ⟨rfl, hle⟩
  refine ⟨fun hp => ?_, hn⟩
  obtain ⟨g, cc, e, _, hlt, hc⟩ := h.src hp
  injection e with e1
  subst e1
  refine ⟨g, 0, rfl, hlt, fun j hj => ?_⟩
  have hadd : (⟨g, 0, none⟩ : Addr).add j = ⟨g, j, none⟩ := by unfold Addr.add; split <;> simp_all
  rw [Nat.zero_add, ← hadd]
  exact hc j _ (by simp [BV, hj])

/-- Two values side by side in a block. -/
theorem RV.pair {w : World} {B b : Nat} {s : ByteArray} {n : Int} {t : TypeId} (hn : I64 n) (hs : s.size ≤ maxLen) (hb : b < B)
    (h : w.heap[b]? = some (.cells #[.int .i64 1, .int .i64 n, .string ⟨#[]⟩, .slice none 0 0, .int .i64 2, .int .i64 0, .string s, .slice none 0 0] t (0, 0))) :
    RV w B (listG [intG n, textG s]) (.agg #[.int .i64 3, .int .i64 0, .string ⟨#[]⟩, .slice (some ⟨b, 0, none⟩) 2 2]) := by
  have hc : ∀ o, w.cell? ⟨b, o, none⟩ = (#[.int .i64 1, .int .i64 n, .string ⟨#[]⟩, .slice none 0 0, .int .i64 2, .int .i64 0, .string s, .slice none 0 0] : Array Value)[o]? := fun o => by simp [World.cell?, h]
  refine .mk 3 0 ⟨#[]⟩ [intG n, textG s] (some ⟨b, 0, none⟩) 2 b 0 (fun i => if i = 0 then .agg #[.int .i64 1, .int .i64 n, .string ⟨#[]⟩, .slice none 0 0] else .agg #[.int .i64 2, .int .i64 0, .string s, .slice none 0 0]) (by unfold I64; omega) (by unfold I64; omega) (by simp [maxLen, ByteArray.size]) (by simp) (by simp [maxLen]) (by simp) (fun _ => ⟨rfl, hb⟩) (fun i hi => ?_) (fun i hi => ?_)
  · match i, hi with
    | 0, _ => exact RV.int hn
    | 1, _ => exact RV.leaf (by unfold I64; omega) (by unfold I64; omega) hs
  · match i, hi with
    | 0, _ => exact ⟨_, _, _, _, rfl, by rw [hc]; rfl, by rw [hc]; rfl, by rw [hc]; rfl, by rw [hc]; rfl⟩
    | 1, _ => exact ⟨_, _, _, _, rfl, by rw [hc]; rfl, by rw [hc]; rfl, by rw [hc]; rfl, by rw [hc]; rfl⟩

set_option maxRecDepth 100000 in
set_option maxHeartbeats 3200000 in
theorem sane_any (w : World) : Calls Try.prog 4 #[] w fun e w' => e = .returned (.bool true) ∧ Below w.heap.size w w' := by
  have hi3 : I64 (-3) := by unfold I64; omega
  have hi100 : I64 100 := by unfold I64; omega
  go_enter Try.func4, Try.ntmps4
  go_wp2_with fail
  refine (Int_any (-3) _).mono ?_
  rintro e w1 ⟨rfl, hb1⟩
  go_wp2_with fail
  refine (Encode_any (intG (-3)) (by rw [big_int]; omega) _ 0 _ (Nat.zero_le _) (RV.int hi3)).mono ?_
  rintro e w2 ⟨v2, rfl, ho2, hb2⟩
  have hB2 := hb1.trans (hb2.mono hb1.size)
  obtain ⟨a2, c2, rfl⟩ := ho2.len
  rw [encB_m3, chk_int] at *
  go_wp2_with fail
  refine (Int_any 100 _).mono ?_
  rintro e w3 ⟨rfl, hb3⟩
  have hB3 := hB2.trans (hb3.mono hB2.size)
  go_wp2_with fail
  refine (Text_any _ _).mono ?_
  rintro e w4 ⟨rfl, hb4⟩
  have hB4 := hB3.trans (hb4.mono hB3.size)
  go_wp2_with fail
  refine (List_any _ _ _ _).mono ?_
  rintro e w5 ⟨rfl, hb5⟩
  go_wp2_with fail
  have hz4 := hB4.size
  have hz5 := hb5.size
  simp only [World.size_alloc] at hz5
  have hrow : w5.heap[w4.heap.size]? = some (.cells #[.int .i64 1, .int .i64 100, .string ⟨#[]⟩, .slice none 0 0, .int .i64 2, .int .i64 0, .string ⟨#[97, 98]⟩, .slice none 0 0] 26 (0, 0)) := by
    rw [hb5.block _ (by simp)]; exact heap_alloc_new w4 _
  have hB5 := (hB4.alloc hz4 _).trans (hb5.mono (by simp; omega))
  have hv5 : RV w5 w5.heap.size exG _ := RV.pair hi100 (by show 2 ≤ maxLen; unfold maxLen; omega) (by omega) hrow
  have ho5 := ho2.mono (Nat.zero_le _)
  have ho5 := (((ho5.below hb3).below hb4).alloc _).below hb5
  clear hrow
  have hbig : big exG ≤ 1000000 := by simp [exG, listG, intG, textG, big, bigAll, ab, ByteArray.size]
  have hv6 := hv5.alloc (Nat.le_refl _) (.cells #[.int .i64 3, .int .i64 0, .string ⟨#[]⟩, .slice (some ⟨w4.heap.size, 0, none⟩) 2 2] 26)
  refine (Encode_any exG hbig _ _ _ (by simp) hv6).mono ?_
  rintro e w7 ⟨v7, rfl, ho7, hb7⟩
  obtain ⟨a7, c7, rfl⟩ := ho7.len
  have hc6 : (w5.alloc (.cells #[.int .i64 3, .int .i64 0, .string ⟨#[]⟩, .slice (some ⟨w4.heap.size, 0, none⟩) 2 2] 26)).heap.size = w5.heap.size + 1 := by simp
  rw [hc6] at hb7
  have hx7 := box4 hb7
  have hv7 := hv6.under hb7 (by omega)
  have ho7' := (ho5.alloc (.cells #[.int .i64 3, .int .i64 0, .string ⟨#[]⟩, .slice (some ⟨w4.heap.size, 0, none⟩) 2 2] 26)).below (by rw [hc6]; exact hb7)
  have hB7 := hB5.trans ((unbox hb7).mono hB5.size)
  rw [encB_ex] at ho7
  rw [chk_ex, encB_ex]
  go_wp2_with fail
  refine (Decode_any [3, 2, 1, 200, 1, 2, 2, 97, 98] (by simp) _ a7 c7 ho7.reads.2.2 ho7.reads.1).mono ?_
  rintro e w8 hpost
  have hdec : dec [3, 2, 1, 200, 1, 2, 2, 97, 98] = some exG := by
    have h := dec_enc hbig hv5.nums chk_ex
    rw [← show encB exG = enc exG from by rw [encB, if_pos chk_ex], encB_ex] at h
    exact h
  rw [DecPost, hdec] at hpost
  obtain ⟨v8, rfl, hv8, hb8⟩ := hpost
  obtain ⟨a8, c8, h8, -⟩ := hv8.parts
  have h8' : v8 = .agg #[.int .i64 3, .int .i64 0, .string ⟨#[]⟩, .slice a8 2 c8] := h8
  subst h8'
  have hz7 := hb7.size
  rw [hc6] at hz7
  have hx8 := keep4 (w' := w8) (fun o => hb8.cell (p := ⟨w5.heap.size, o, none⟩) (by show w5.heap.size < _; omega)) hx7
  have hz8 := hb8.size
  have hl8 : w5.heap.size < w8.heap.size := by omega
  have hn8 : w5.heap.size ≠ w8.heap.size := by omega
  have hv8' := (hv7.under hb8 (by omega)).alloc (by omega) (.cells #[.int .i64 3, .int .i64 0, .string ⟨#[]⟩, .slice a8 2 c8] 26)
  have hw8 := hv8.alloc (Nat.le_refl _) (.cells #[.int .i64 3, .int .i64 0, .string ⟨#[]⟩, .slice a8 2 c8] 26)
  have hoa := (ho7'.below hb8).alloc (.cells #[.int .i64 3, .int .i64 0, .string ⟨#[]⟩, .slice a8 2 c8] 26)
  have hob := ((ho7.mono (Nat.zero_le _)).below hb8).alloc (.cells #[.int .i64 3, .int .i64 0, .string ⟨#[]⟩, .slice a8 2 c8] 26)
  have hB8 := (hB7.trans (hb8.mono hB7.size)).alloc (by have := hB7.size; omega) (.cells #[.int .i64 3, .int .i64 0, .string ⟨#[]⟩, .slice a8 2 c8] 26)
  obtain ⟨hx80, hx81, hx82, hx83⟩ := hx8
  clear hx7 ho7 ho7' ho5 hv5 hv6 hv7 hv8 ho2 hb1 hb2 hb3 hb4 hb5 hB2 hB3 hB4 hB5 hB7 h8
  go_wp2_with fail
  refine (Size_any exG hbig _ _ _ (by simp; omega) hv8').mono ?_
  rintro e w9 ⟨rfl, hb9⟩
  rw [encB_ex, chk_ex]
  have hc8 : (w8.alloc (.cells #[.int .i64 3, .int .i64 0, .string ⟨#[]⟩, .slice a8 2 c8] 26)).heap.size = w8.heap.size + 1 := by simp
  have hx9 := box4 (by rw [hc8] at hb9; exact hb9)
  have hy9 := keep4 (w' := w9) (w := w8) (g := w5.heap.size) (fun o => by rw [hb9.cell (p := ⟨w5.heap.size, o, none⟩) (by simp; omega)]; exact World.cell?_alloc_lt w8 _ _ hl8) ⟨hx80, hx81, hx82, hx83⟩
  have hoa9 := hoa.below hb9
  have hob9 := hob.below hb9
  have hva9 := hv8'.under hb9 (by simp; omega)
  have hvb9 := hw8.under hb9 (by simp)
  have hca := conv_str (c := c2) hoa9.reads.1
  have hcb := conv_str (c := c7) hob9.reads.1
  have hB9 := hB8.trans (hb9.mono hB8.size)
  have hz9 := hb9.size
  rw [hc8] at hz9
  have hz09 := hB9.size
  simp only [List.length_cons, List.length_nil, Nat.zero_add, Nat.reduceAdd] at hca hcb
  obtain ⟨hx90, hx91, hx92, hx93⟩ := hx9
  obtain ⟨hy90, hy91, hy92, hy93⟩ := hy9
  have hoaH := Lib.hid hoa9
  clear hx80 hx81 hx82 hx83 hv8' hw8 hoa hob hB8 hb9 hoa9 hob9 hb7 hb8
  go_wp2_with fail
  refine (Same_any exG exG w9 w9.heap.size _ _ (Nat.le_refl _) (hva9.mono (by omega)) (hvb9.mono (by omega))).mono ?_
  rintro e w10 ⟨rfl, hb10⟩
  rw [same_refl]
  have hB10 := hB9.trans (hb10.mono hz09)
  go_wp2_with fail
  refine (Text_any _ _).mono ?_
  rintro e w11 ⟨rfl, hb11⟩
  have hB11 := hB10.trans (hb11.mono hB10.size)
  go_wp2_with fail
  refine (List_any _ _ _ _).mono ?_
  rintro e w12 ⟨rfl, hb12⟩
  have hB12 := hB11.trans (hb12.mono hB11.size)
  go_wp2_with fail
  have hst : same (textG ⟨#[]⟩) (listG []) = false := by rw [textG, listG, same]; simp
  have hrt : RV w12 0 (textG ⟨#[]⟩) (.agg #[.int .i64 2, .int .i64 0, .string ⟨#[]⟩, .slice none 0 0]) := RV.leaf (by unfold I64; omega) (by unfold I64; omega) (by simp [maxLen, ByteArray.size])
  have hrl : RV w12 0 (listG []) (.agg #[.int .i64 3, .int .i64 0, .string ⟨#[]⟩, .slice none 0 0]) := RV.leaf (by unfold I64; omega) (by unfold I64; omega) (by simp [maxLen, ByteArray.size])
  refine (Same_any (textG ⟨#[]⟩) (listG []) w12 0 _ _ (Nat.zero_le _) hrt hrl).mono ?_
  rintro e w13 ⟨rfl, hb13⟩
  rw [hst]
  have hB13 := hB12.trans (hb13.mono hB12.size)
  clear hb10 hb11 hb12 hb13 hB9 hB10 hB11 hB12 hca hcb hva9 hvb9 hx90 hx91 hx92 hx93 hy90 hy91 hy92 hy93 hrt hrl hst
  have hz13 := hB13.size
  go_wp2_with fail
  go_loopw [79] (fun i wr => ∃ k : Nat, k ≤ 4 ∧ i = .int .i64 k ∧ Below (w13.heap.size + 1) (w13.alloc (.cells #[.string ⟨#[]⟩, .string ⟨#[1, 128, 0]⟩, .string ⟨#[1, 5, 0]⟩, .string ⟨#[2, 3, 97]⟩] 9)) wr) (fun i _ => 4 - (intOf i).toNat)
  case atStart => exact ⟨0, by omega, rfl, Below.refl _ _⟩
  case round =>
    obtain ⟨k, hk, rfl, hb⟩ := hrel
    obtain ⟨s0, s1, s2, s3⟩ := box4 hb
    have hzr := hb.size
    simp only [World.size_alloc] at hzr
    by_cases hlt : k < 4
    · have hk4 : k = 0 ∨ k = 1 ∨ k = 2 ∨ k = 3 := by omega
      rcases hk4 with rfl | rfl | rfl | rfl
      · have hdec : dec (⟨#[]⟩ : ByteArray).data.toList = none := d0
        have hbe := (unbox hb).trans ((bytes_below wr ⟨#[]⟩).mono (by omega))
        have hbe2 := hb.trans ((bytes_below wr ⟨#[]⟩).mono hzr)
        have hD := Decode_any (⟨#[]⟩ : ByteArray).data.toList (by simp) (Lib.bytesWorld wr 5 ⟨#[]⟩) (some ⟨wr.heap.size, 0, none⟩) (grownCap wr 0 0 5) (grownCap_ge wr 0 0 5) (bytes_read wr ⟨#[]⟩)
        have hD' := Lib.hid hD
        have hcs := conv_bytes wr ⟨#[]⟩
        clear hD
        go_wp2_with fail
        refine hD'.out.mono ?_
        intro e w14 hpost
        rw [DecPost, hdec] at hpost
        obtain ⟨rfl, hb14⟩ := hpost
        have hb15 := hbe2.trans (hb14.mono (by simpa using hbe2.size))
        unfold zeroV
        go_wp2_with fail
        go_roundw
        case rel => exact ⟨1, by omega, by go_num, hb15.alloc (by simpa using hb15.size) _⟩
        case measure => simp [intOf]
      · have hdec : dec (⟨#[1, 128, 0]⟩ : ByteArray).data.toList = none := d1
        have hbe := (unbox hb).trans ((bytes_below wr ⟨#[1, 128, 0]⟩).mono (by omega))
        have hbe2 := hb.trans ((bytes_below wr ⟨#[1, 128, 0]⟩).mono hzr)
        have hD := Decode_any (⟨#[1, 128, 0]⟩ : ByteArray).data.toList (by simp) (Lib.bytesWorld wr 5 ⟨#[1, 128, 0]⟩) (some ⟨wr.heap.size, 0, none⟩) (grownCap wr 3 0 5) (grownCap_ge wr 3 0 5) (bytes_read wr ⟨#[1, 128, 0]⟩)
        have hD' := Lib.hid hD
        have hcs := conv_bytes wr ⟨#[1, 128, 0]⟩
        clear hD
        go_wp2_with fail
        refine hD'.out.mono ?_
        intro e w14 hpost
        rw [DecPost, hdec] at hpost
        obtain ⟨rfl, hb14⟩ := hpost
        have hb15 := hbe2.trans (hb14.mono (by simpa using hbe2.size))
        unfold zeroV
        go_wp2_with fail
        go_roundw
        case rel => exact ⟨2, by omega, by go_num, hb15.alloc (by simpa using hb15.size) _⟩
        case measure => simp [intOf]
      · have hdec : dec (⟨#[1, 5, 0]⟩ : ByteArray).data.toList = none := d2
        have hbe := (unbox hb).trans ((bytes_below wr ⟨#[1, 5, 0]⟩).mono (by omega))
        have hbe2 := hb.trans ((bytes_below wr ⟨#[1, 5, 0]⟩).mono hzr)
        have hD := Decode_any (⟨#[1, 5, 0]⟩ : ByteArray).data.toList (by simp) (Lib.bytesWorld wr 5 ⟨#[1, 5, 0]⟩) (some ⟨wr.heap.size, 0, none⟩) (grownCap wr 3 0 5) (grownCap_ge wr 3 0 5) (bytes_read wr ⟨#[1, 5, 0]⟩)
        have hD' := Lib.hid hD
        have hcs := conv_bytes wr ⟨#[1, 5, 0]⟩
        clear hD
        go_wp2_with fail
        refine hD'.out.mono ?_
        intro e w14 hpost
        rw [DecPost, hdec] at hpost
        obtain ⟨rfl, hb14⟩ := hpost
        have hb15 := hbe2.trans (hb14.mono (by simpa using hbe2.size))
        unfold zeroV
        go_wp2_with fail
        go_roundw
        case rel => exact ⟨3, by omega, by go_num, hb15.alloc (by simpa using hb15.size) _⟩
        case measure => simp [intOf]
      · have hdec : dec (⟨#[2, 3, 97]⟩ : ByteArray).data.toList = none := d3
        have hbe := (unbox hb).trans ((bytes_below wr ⟨#[2, 3, 97]⟩).mono (by omega))
        have hbe2 := hb.trans ((bytes_below wr ⟨#[2, 3, 97]⟩).mono hzr)
        have hD := Decode_any (⟨#[2, 3, 97]⟩ : ByteArray).data.toList (by simp) (Lib.bytesWorld wr 5 ⟨#[2, 3, 97]⟩) (some ⟨wr.heap.size, 0, none⟩) (grownCap wr 3 0 5) (grownCap_ge wr 3 0 5) (bytes_read wr ⟨#[2, 3, 97]⟩)
        have hD' := Lib.hid hD
        have hcs := conv_bytes wr ⟨#[2, 3, 97]⟩
        clear hD
        go_wp2_with fail
        refine hD'.out.mono ?_
        intro e w14 hpost
        rw [DecPost, hdec] at hpost
        obtain ⟨rfl, hb14⟩ := hpost
        have hb15 := hbe2.trans (hb14.mono (by simpa using hbe2.size))
        unfold zeroV
        go_wp2_with fail
        go_roundw
        case rel => exact ⟨4, by omega, by go_num, hb15.alloc (by simpa using hb15.size) _⟩
        case measure => simp [intOf]
    · have hk4 : k = 4 := by omega
      subst hk4
      have hchk : chk (.mk 0 0 ⟨#[]⟩ []) = 1 := by simp [chk, formed]
      have hbg : big (.mk 0 0 ⟨#[]⟩ []) ≤ 1000000 := by simp [big, bigAll, ByteArray.size]
      go_wp2_with fail
      refine (check_any (.mk 0 0 ⟨#[]⟩ []) hbg _ 0 _ (Nat.zero_le _) (RV.leaf (by unfold I64; omega) (by unfold I64; omega) (by simp [maxLen, ByteArray.size]))).mono ?_
      rintro e w15 ⟨rfl, hb15⟩
      rw [hchk]
      go_wp2_with fail
      go_ret
      exact ⟨rfl, hB13.trans (((unbox hb).trans (hb15.mono (by omega))).mono hz13)⟩
end Go.Proofs.Ytaninbklippdaaa
