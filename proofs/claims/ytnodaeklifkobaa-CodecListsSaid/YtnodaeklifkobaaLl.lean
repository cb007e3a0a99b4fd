/- CodecLists: the law. -/
import Derived.Test.YtnodaeklifkobaaLp
namespace Go.Proofs.Ytnodaeklifkobaa
open Go.RowKit

def zCells : List Value := [.int .i64 1, .int .i64 0, .string ⟨#[]⟩, .slice none 0 0]
def zFlat : Nat → List Value
  | 0 => []
  | k + 1 => zFlat k ++ zCells
/-- A row of k zeros of the law's own. -/
def ZS (w : World) (N : Nat) (v : Value) (k : Nat) : Prop := w.ownsRow N 24 4 v k (zFlat k)

theorem ZS.below {w w' : World} {N k : Nat} {v : Value} (h : ZS w N v k) (hb : Below w.heap.size w w') : ZS w' N v k :=
  World.ownsRow.kept (row := none) h ⟨hb.os, hb.tape, hb.output, hb.size, fun k hk _ => hb.block k hk⟩ (by cases hv : v.ownBlock <;> simp)

theorem bigAll_le {l : List GV} {m : Nat} (h : ∀ x ∈ l, big x ≤ m) : bigAll l ≤ l.length * m := by
  induction l with
  | nil => simp [bigAll]
  | cons y r ih =>
    have h1 := h y (by simp)
    have h2 := ih fun x hx => h x (by simp [hx])
    rw [bigAll, List.length_cons, Nat.succ_mul]
    omega
theorem RL.list {w : World} {B : Nat} {l : List GV} {a : Option Addr} {cap : Nat} (h : RL w B l a cap) : RV w B (listG l) (.agg #[.int .i64 3, .int .i64 0, .string ⟨#[]⟩, .slice a l.length cap]) := by
  obtain ⟨h1, h2, b, off, V, ha, hV, hc⟩ := h
  have h3 := h2
  unfold maxLen at h3
  exact .mk 3 0 ⟨#[]⟩ l a cap b off V (by unfold I64; omega) (by unfold I64; omega) (by simp [maxLen, ByteArray.size]) h1 h2 (by omega) ha hV hc
theorem enc_length' (x : GV) (h : Nums x) (hb : big x ≤ 40000) : (enc x).length ≤ 480000 := by
  have := encAll_length [x] (fun y hy => by simp at hy; rw [hy]; exact h) (by simp [bigAll]; omega)
  simp [encAll, bigAll] at this
  omega
theorem RL.takeNums {w : World} {B : Nat} {l : List GV} {a : Option Addr} {cap : Nat} (h : RL w B l a cap) (k : Nat) (hb : ∀ x ∈ l, big x ≤ 40000) (hl : l.length ≤ 20) : (encAll (l.take k)).length ≤ 9600000 := by
  have hsub : ∀ x ∈ l.take k, x ∈ l := fun x hx => List.mem_of_mem_take hx
  have h1 := bigAll_le (l := l.take k) fun x hx => hb x (hsub x hx)
  have h2 : (l.take k).length ≤ 20 := by rw [List.length_take]; omega
  have h3 : (l.take k).length * 40000 ≤ 20 * 40000 := Nat.mul_le_mul_right _ h2
  have h4 := encAll_length (l.take k) (fun x hx => by obtain ⟨v, hv⟩ := h.of_mem (hsub x hx); exact hv.nums) (by omega)
  omega
theorem big_list {l : List GV} (h : ∀ x ∈ l, big x ≤ 40000) (hl : l.length ≤ 20) : big (listG l) ≤ 1000000 := by
  have h1 := bigAll_le h
  have h2 : l.length * 40000 ≤ 20 * 40000 := Nat.mul_le_mul_right _ hl
  rw [listG, big]
  have : (⟨#[]⟩ : ByteArray).size = 0 := rfl
  omega

def zV : Value := .agg #[.int .i64 1, .int .i64 0, .string ⟨#[]⟩, .slice none 0 0]
theorem zFlat_eq (k : Nat) : zFlat k = (List.replicate k zV).flatMap fun x => x.cells.toList := by
  induction k with
  | zero => rfl
  | succ k ih => rw [zFlat, List.replicate_succ', List.flatMap_append, ih]; rfl
theorem ZS.ls {w : World} {N k : Nat} {v : Value} (h : ZS w N v k) : LS w N v (List.replicate k (intG 0)) := by
  refine ⟨List.replicate k zV, by simp, ?_, fun i hi hi' => ?_⟩
  · rw [← zFlat_eq, List.length_replicate]; exact h
  · rw [List.getElem_replicate, List.getElem_replicate]
    exact RVS.leaf (by unfold I64; omega) (by unfold I64; omega) (by simp [maxLen, ByteArray.size])
theorem ZS.val {w : World} {N k : Nat} {v : Value} (h : ZS w N v k) (hk : k ≤ 20) : ∃ a cap, v = .slice a k cap ∧ RV w w.heap.size (listG (List.replicate k (intG 0))) (.agg #[.int .i64 3, .int .i64 0, .string ⟨#[]⟩, .slice a k cap]) := by
  obtain ⟨a, cap, e, hr⟩ := h.ls.val (by simp; omega)
  rw [List.length_replicate] at e hr
  exact ⟨a, cap, e, hr.lt fun b hb => hb.2⟩
theorem big_zeros (k : Nat) : big (listG (List.replicate k (intG 0))) = 1 + k := by
  rw [listG, big, bigAll_zeros]
  have : (⟨#[]⟩ : ByteArray).size = 0 := rfl
  omega
theorem Try.size8 : ∀ w, (Go.sizeOf 5).run Try.prog w = .ok 1 w := fun _ => by kernel_rfl
/-- 'c[m:]' of bytes, its value and the string that it is. -/
theorem OB.tail {w : World} {B : Nat} {a : Option Addr} {p q c : Nat} {P E : List UInt8} (h : OB w B (.slice a (p + q) c) (P ++ E)) (hp : P.length = p) (hE : E.length = q) : ∃ A, (∀ W, (Instr.slice 27 (.slice a (p + q) c) (some (.int .i64 (p : Int))) none none).run Try.prog W = .ok (.slice A q (c - p)) W) ∧
    ∀ n, (convert 27 9 (.slice A q (c - p))).run Try.prog (w.drewN n) = .ok (.string ⟨E.toArray⟩) (w.drewN n) := by
  have ht : Try.prog.underlying 27 = some (.slice (Try.prog.elem 27)) := by kernel_rfl
  have he : Try.prog.elem 27 = 5 := by kernel_rfl
  obtain ⟨h1, -, h3⟩ := h.reads
  rw [List.length_append, hp, hE] at h3
  refine ⟨if c = p then a else a.map (·.add p), fun W => ?_, fun n => ?_⟩
  · rw [run_slice_l W _ _ _ _ ht .i64 _ (by omega) (by omega), he, Try.size8]
    simp [Result.andThen, sliced]
  · have hr : RBs (w.drewN n) w.heap.size (if c = p then a else a.map (·.add p)) E := by
      split
      · rename_i hc
        have : E = [] := List.eq_nil_of_length_eq_zero (by omega)
        rw [this]; exact RBs.nil _ _ _
      · have := h1.drop (n := p) (w' := w.drewN n) fun _ _ _ => rfl
        rwa [← hp, List.drop_left, hp] at this
    have := conv_str (c := c - p) hr
    rwa [hE] at this

set_option maxRecDepth 100000 in
set_option maxHeartbeats 3200000 in
theorem lists_any (l : List GV) (w : World) (a : Option Addr) (cap : Nat) (hl : RL w w.heap.size l a cap) :
    Calls Try.prog 8 #[.slice a l.length cap] w fun e w' => e = .returned (.bool true) ∧ Below w.heap.size w w' := by
  have hmx : l.length ≤ 9223372036854775807 := Nat.le_trans hl.1 (Nat.le_trans hl.2.1 (by decide))
  have hlen : (20 : Int) < l.length ∨ l.length ≤ 20 := by omega
  have hl' := Lib.hid hl
  clear hl
  go_enter Try.func8, Try.ntmps8
  go_wp2_with fail
  refine (sane_any _).mono ?_
  rintro e w1 ⟨rfl, hb1⟩
  go_wp2_with fail
  refine (few_any l _ w.heap.size _ _ hb1.size (hl'.out.under hb1 (Nat.le_refl _)) hmx).mono ?_
  rintro e w3 ⟨b, rfl, hf, hb3⟩
  have hB3 := hb1.trans (hb3.mono hb1.size)
  have hf' := Lib.hid hf
  clear hb3 hb1 hf
  cases b with
  | false =>
    go_wp2_with fail
    go_ret
    exact ⟨rfl, hB3⟩
  | true =>
    rcases hlen with hlen | hlen
    · go_wp2_with fail
      go_ret
      exact ⟨rfl, hB3⟩
    · have hlen2 : ¬ ((20 : Int) < l.length) := by omega
      have hbig := Lib.hid (hf'.out rfl)
      go_wp2_with fail
      go_loopw [3, 4, 5, 31] (fun lv zv sv i wr => ∃ k : Nat, k ≤ l.length ∧ i = .int .i64 k ∧ sv = .int .i64 ((encAll (l.take k)).length : Nat) ∧ Hid (∀ x ∈ l.take k, chk x = 0) ∧ OB wr w.heap.size lv (encAll (l.take k)) ∧ ZS wr w.heap.size zv k ∧
        Hid (∀ g, lv.ownBlock = some g → zv.ownBlock ≠ some g) ∧ Below w.heap.size w wr) (fun _ _ _ i _ => l.length - (intOf i).toNat)
      case atStart => exact ⟨0, Nat.zero_le _, rfl, rfl, (fun x h => by simp at h), OB.nil _ _, World.ownsRow_nil _ _ _ 4, (fun g h => by cases h), hB3⟩
      case round =>
        obtain ⟨k, hk, rfl, rfl, hg, hob, hzs, hne, hb⟩ := hrel
        by_cases hlt : k < l.length
        · obtain ⟨b, off, a', c', rfl, hbB, hv, c0, c1, c2, c3⟩ := (hl'.out.under hb (Nat.le_refl _)).at_ hlt
          have hx := hbig.out l[k] (List.getElem_mem hlt)
          have hz := hb.size
          have hva := hv.alloc hz (.cells #[.int .i64 l[k].kind, .int .i64 l[k].num, .string l[k].str, .slice a' l[k].els.length c'] 24)
          clear hv
          go_wp2_with fail
          refine (Encode_any l[k] (by omega) _ w.heap.size _ (by simp; omega) hva).mono ?_
          rintro e w4 ⟨v4, rfl, ho4, hb4⟩
          obtain ⟨a4, n4, rfl⟩ := ho4.len
          simp only [World.size_alloc] at hb4 ho4
          have hz4 : wr.heap.size + 1 ≤ w4.heap.size := by simpa using hb4.size
          clear c0 c1 c2 c3
          obtain ⟨d0, d1, d2, d3⟩ := box4 hb4
          go_wp2_with fail
          refine (Size_any l[k] (by omega) _ w.heap.size _ (by omega) (hva.under hb4 (by omega))).mono ?_
          rintro e w5 ⟨rfl, hb5⟩
          have ho5 := ho4.below hb5
          have hbw : Below wr.heap.size wr w5 := (unbox hb4).trans (hb5.mono (by omega))
          have hB5 := hb.trans (hbw.mono hz)
          have hob5 := hob.below hbw
          have hzs5 := hzs.below hbw
          clear d0 d1 d2 d3 ho4 hob hzs hb4 hb5
          by_cases hc : chk l[k] = 0
          · have he : encB l[k] = enc l[k] := by unfold encB; rw [if_pos hc]
            have hpos : 0 < (enc l[k]).length := enc_pos l[k]
            obtain ⟨g5, c5, e5, hg5, hlt5, hcell5⟩ := ho5.src (by rw [he]; exact hpos)
            injection e5 with e1 _ e3
            subst e1 e3
            rw [he] at hcell5
            rw [he, hc]
            have hnum := hva.nums
            have hl1 := enc_length' l[k] hnum hx
            have hS := (hl'.out.takeNums k hbig.out hlen)
            have hlk : (encAll (l.take k) ++ enc l[k]).length = (encAll (l.take k)).length + (enc l[k]).length := List.length_append
            rw [← encAll_take l k hlt] at hlk
            have hw : IntKind.i64.wrap (((encAll (l.take k)).length : Int) + ((enc l[k]).length : Int)) = ((encAll (l.take (k + 1))).length : Nat) := by
              rw [hlk, IntWalk.i64_in _ (by omega)]
              push_cast
              rfl
            have hg' : Hid (∀ x ∈ l.take (k + 1), chk x = 0) := fun x hx => by
              rw [List.take_succ_eq_append_getElem hlt] at hx
              rcases List.mem_append.1 hx with h | h
              · exact hg.out x h
              · simp only [List.mem_cons, List.not_mem_nil, or_false] at h
                rw [h]; exact hc
            have hd : u4.ownBlock = none ∨ u4.ownBlock ≠ u3.ownBlock := by
              cases h4 : u4.ownBlock with
              | none => exact .inl rfl
              | some g => exact .inr fun e => hne.out g e.symm h4
            clear hc hg he hnum
            go_wp2_with (at_builtin; refine app_law rfl _ _ rfl w.heap.size u3 _ rfl hob5 ⟨g5, 0, none⟩ (enc l[k]) n4 rfl hcell5 hpos (by omega) hB5.size ?_; intro v6 w6 happ)
            have hzs6 : ZS w6 w.heap.size u4 k := World.ownsRow.kept (row := u3.ownBlock) hzs5 happ.grow hd
            have hB6 := hB5.grown happ.grow hB5.size (fun g h => (hob5.lt g h).1)
            refine (Int_any 0 _).mono ?_
            rintro e w7 ⟨rfl, hb7⟩
            have hB7 := hB6.trans (hb7.mono hB6.size)
            have hzs7 := hzs6.below hb7
            have ho7 := happ.own.below hb7
            have hne7 : ∀ g, v6.ownBlock = some g → u4.ownBlock ≠ some g := fun g h1 h2 => happ.far (hzs5.lt g h2).2 (fun h => hne.out g h h2) h1
            have hd7 : v6.ownBlock = none ∨ v6.ownBlock ≠ u4.ownBlock := by
              cases h4 : v6.ownBlock with
              | none => exact .inl rfl
              | some g => exact .inr fun e => hne7 g h4 e.symm
            have hz7 := hB7.size
            have hlt6 := fun g h => (ho7.lt g h).2
            have hlt7 := fun g h => (hzs7.lt g h).1
            rw [← encAll_take l k hlt] at ho7
            have hd7' := Lib.hid hd7
            have hne7' := Lib.hid hne7
            clear hne hb7 hob5 hzs5 hzs6 happ hd hd7 hne7 hB6 hb hlk
            obtain ⟨i0, hi0, hi1, hi2, hi3⟩ := info_parts Try.infoV
            go_wp2_with (at_builtin; refine wpList_append_lies _ rfl _ _ 22 rfl w.heap.size 24 i0 _ 4 56 Try.underlying22 hi0 hi1 hi2 hi3 rfl (by decide) u4 k _ rfl (World.ownsRow.alloc hzs7 _) ⟨w7.heap.size, 0, none⟩ 1 1 [.int .i64 1, .int .i64 0, .string ⟨#[]⟩, .slice none 0 0] rfl rfl (World.news_of_block (cs := #[.int .i64 1, .int .i64 0, .string ⟨#[]⟩, .slice none 0 0]) (heap_alloc_new w7 _)) (by simp [Value.oneCell']) (by omega) (by unfold maxLen; omega) (by omega) (by simp; omega) _ rfl ?_; intro g cz w8 hown hgrow hat hlt8)
            have ho8 : OB w8 w.heap.size v6 (encAll (l.take (k + 1))) := World.ownsRow.kept (row := u4.ownBlock) (ho7.alloc _) hgrow hd7'.out
            have hB8 := (hB7.alloc hz7 _).grown hgrow (by simp; omega) hlt7
            go_roundw
            case rel => exact ⟨k + 1, by omega, by go_num, by simp only, hg', ho8, hown, (fun g' h1 h2 => by
              simp only [Value.ownBlock, Option.some.injEq] at h2
              subst h2
              rcases hat with h | h
              · exact hne7'.out _ h1 h
              · have := hlt6 _ h1
                simp only [World.size_alloc] at h
                omega), hB8⟩
            case measure => simp [intOf]; omega
          · have hcn : (chk l[k] == 0) = false := by simpa using hc
            have hcn2 : (chk l[k] != 0) = true := by simpa using hc
            have hbad := chk_list_bad (List.getElem_mem hlt) hc
            have hbad2 : (chk (listG l) != 0) = true := by simpa using hbad
            have hbl := big_list hbig.out hlen
            clear hc hbad
            go_wp2_with fail
            refine (List_any _ _ _ _).mono ?_
            rintro e w6 ⟨rfl, hb6⟩
            have hB6 := hB5.trans (hb6.mono hB5.size)
            go_wp2_with fail
            refine (Encode_any (listG l) hbl _ w.heap.size _ hB6.size (hl'.out.under hB6 (Nat.le_refl _)).list).mono ?_
            rintro e w7 ⟨v7, rfl, ho7, hb7⟩
            go_wp2_with fail
            go_ret
            exact ⟨rfl, hB6.trans (hb7.mono hB6.size)⟩
        · obtain rfl : k = l.length := by omega
          have ht : l.take l.length = l := List.take_length
          rw [ht] at hg hob
          rw [ht]
          have hbl := big_list hbig.out hlen
          have hgood := chk_list_good hg.out
          have hlist := @encB_list l
          have hgood' := Lib.hid hgood
          have hlist' := Lib.hid hlist
          clear hgood hlist hg hlt ht
          go_wp2_with fail
          refine (List_any _ _ _ _).mono ?_
          rintro e w6 ⟨rfl, hb6⟩
          have hB6 := hb.trans (hb6.mono hb.size)
          have hob6 := hob.below hb6
          have hzs6 := hzs.below hb6
          clear hob hzs hb
          go_wp2_with fail
          refine (Encode_any (listG l) hbl _ w.heap.size _ hB6.size (hl'.out.under hB6 (Nat.le_refl _)).list).mono ?_
          rintro e w7 ⟨v7, rfl, ho7, hb7⟩
          have hB7 := hB6.trans (hb7.mono hB6.size)
          have hob7 := hob6.below hb7
          have hzs7 := hzs6.below hb7
          clear hob6 hzs6 hb7 hB6 hb6
          rcases hgood'.out with hc | hc
          · rw [hlist'.out hc] at ho7
            rw [hc]
            have hq : (encAll l).length ≤ 9600000 := by
              have := hl'.out.takeNums l.length hbig.out hlen
              rwa [List.take_length] at this
            have hsz : (encB (listG (List.replicate l.length (intG 0)))).length = (3 :: digs l.length).length + 2 * l.length := by rw [zeros_size, List.length_cons]; omega
            have hp1 : 2 ≤ (3 :: digs l.length).length := by have := digs_pos l.length; rw [List.length_cons]; omega
            have hp2 : (3 :: digs l.length).length ≤ 11 := by have := digs_le10 l.length (by omega); rw [List.length_cons]; omega
            rw [show 3 :: (digs l.length ++ encAll l) = (3 :: digs l.length) ++ encAll l from rfl] at ho7
            obtain ⟨a3, c3, rfl⟩ := hob7.len
            generalize (3 :: digs l.length) = P at ho7 hsz hp1 hp2
            generalize encAll l = E at ho7 hob7 hq ⊢
            obtain ⟨a7, c7, e7⟩ := ho7.len
            rw [List.length_append] at e7
            subst e7
            obtain ⟨a4, c4, rfl, hv4⟩ := hzs7.val hlen
            have hsz' := Lib.hid hsz
            clear hsz hgood' hlist' hne hzs7 hc
            generalize hP : P.length = p at *
            generalize hE : E.length = q at *
            have hP' := Lib.hid hP
            have hE' := Lib.hid hE
            clear hP hE
            go_wp2_with fail
            refine (List_any _ _ _ _).mono ?_
            rintro e w8 ⟨rfl, hb8⟩
            go_wp2_with fail
            refine (Size_any (listG (List.replicate l.length (intG 0))) (by rw [big_zeros]; omega) _ w7.heap.size _ hb8.size (hv4.under hb8 (Nat.le_refl _))).mono ?_
            rintro e w9 ⟨rfl, hb9⟩
            rw [hsz'.out, zeros_chk]
            have hb79 := hb8.trans (hb9.mono hb8.size)
            have hB9 := hB7.trans (hb79.mono hB7.size)
            have ho9 := ho7.below hb79
            have hob9 := hob7.below hb79
            clear ho7 hob7 hb8 hb9 hb79 hv4
            have g1 : IntKind.i64.wrap (2 * (l.length : Int)) = 2 * l.length := IntWalk.i64_in _ (by omega)
            have g2 : IntKind.i64.wrap ((p : Int) + 2 * l.length - 2 * l.length) = p := by rw [IntWalk.i64_in _ (by omega)]; omega
            have g2' : IntKind.i64.wrap (p : Int) = p := IntWalk.i64_in _ (by omega)
            have g3 : IntKind.i64.wrap ((p : Int) + q) = p + q := IntWalk.i64_in _ (by omega)
            have g4 : (2 : Int) ≤ p := by omega
            obtain ⟨A9, hsl, k1⟩ := ho9.tail hP'.out hE'.out
            have k2 := fun n => (show OB (w9.drewN n) w.heap.size _ E from hob9).conv
            clear ho9 hob9
            go_wp2_with fail
            go_quiet (fail)
            go_wp2_with fail
            go_ret
            exact ⟨rfl, dN hB9 _⟩
          · rw [hc]
            go_wp2_with fail
            go_ret
            exact ⟨rfl, hB7⟩
end Go.Proofs.Ytnodaeklifkobaa
