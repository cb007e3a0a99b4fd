/- DiskReads: the law. -/
import Derived.Test.YtalkbccofiiojaaRd
namespace Go.Proofs.Ytalkbccofiiojaa
open Go.RowKit

theorem conv_db {w : World} {g n : Nat} {l : List UInt8} (h : DB w g l) (hl : l.length = n) (k : Nat) : (convert 35 9 (.slice (some ⟨g, 0, none⟩) n 128)).run Try.prog (w.drewN k) = .ok (.string ⟨l.toArray⟩) (w.drewN k) := by
  subst hl
  exact conv_drew h.reads k
theorem conv_dbs {w : World} {g n : Nat} {l : List UInt8} (h : DB w g l) (hl : l.length = n) : (convert 35 9 (.slice (some ⟨g, 0, none⟩) n 128)).run Try.prog w = .ok (.string ⟨l.toArray⟩) w := by
  subst hl
  exact conv_str h.reads
theorem conv_take {w : World} {g : Nat} {l : List UInt8} {n : Nat} {m : List UInt8} (h : DB w g l) (hm : l.take n = m) (hn : m.length = n) (k : Nat) : (convert 35 9 (.slice (some ⟨g, 0, none⟩) n 128)).run Try.prog (w.drewN k) = .ok (.string ⟨m.toArray⟩) (w.drewN k) := by
  subst hm
  have := conv_drew (c := 128) (h.reads.take n) k
  rw [hn] at this
  exact this
theorem hasP {x y : Bool} (h : (x && y) = true) : x = true ∧ y = true := by rwa [Bool.and_eq_true] at h
theorem hasM {x y : Bool} (h : x = true) (k : y = true) : (x && y) = true := by rw [h, k]; rfl

set_option maxRecDepth 100000 in
set_option maxHeartbeats 4000000 in
theorem reads_any (d : Dk) (a o : Int) (ha : I64 a) (ho : I64 o) (b m : List UInt8) (w : World) (A A' Ab Am : Option Addr) (c c' cb cm : Nat) (hd : DR w (· < w.heap.size) A c A' c' d) (hbl : b.length ≤ cb ∧ cb ≤ maxLen) (hml : m.length ≤ cm ∧ cm ≤ maxLen) (hrb : RBs w (· < w.heap.size) Ab b) (hrm : RBs w (· < w.heap.size) Am m) :
    Calls Try.prog 7 #[.agg #[.slice A d.secs.length c, .slice A' d.pend.length c', .int .i64 d.left, .bool d.stop], .int .i64 a, .int .i64 o, .slice Ab b.length cb, .slice Am m.length cm] w fun e w' => e = .returned (.bool true) ∧ Below w.heap.size w w' := by
  have H := Lib.hid (Held.init w A A' c c' d)
  have hdh := Lib.hid hd
  have hrbh := Lib.hid hrb
  have hrmh := Lib.hid hrm
  have hcap := hd.cap
  have hmax := hd.max
  have hmx := hmax
  unfold maxLen at hmx
  have hblh := Lib.hid (Nat.le_trans hbl.1 hbl.2)
  have hmlh := Lib.hid (Nat.le_trans hml.1 hml.2)
  have hb63 : b.length ≤ 9223372036854775807 := by have := hblh.out; unfold maxLen at this; omega
  have hm63 : m.length ≤ 9223372036854775807 := by have := hmlh.out; unfold maxLen at this; omega
  clear hd hrb hbl hml hrm hmax
  go_enter Try.func7, Try.ntmps7
  go_wp2_with fail
  refine (sane_any _).mono ?_
  rintro e w1 ⟨rfl, hb⟩
  have H := Lib.hid (H.out.step hb)
  clear hb
  obtain ⟨y0, y1, y2, y3⟩ := H.out.kb.cells
  go_wp2_with fail
  refine (Few_any d w1 A A' c c' (H.out.drw hdh.out)).mono ?_
  rintro e w2 ⟨⟨f, rfl⟩, hb⟩
  have H := Lib.hid (H.out.step hb)
  clear hb y0 y1 y2 y3
  cases f with
  | false =>
    go_wp2_with fail
    go_ret
    exact ⟨rfl, H.out.below⟩
  | true =>
    by_cases h1 : (128 : Int) < b.length
    · go_wp2_with fail
      go_ret
      exact ⟨rfl, H.out.below⟩
    by_cases h2 : (128 : Int) < m.length
    · go_wp2_with fail
      go_ret
      exact ⟨rfl, H.out.below⟩
    have hb128 := Lib.hid (show b.length ≤ 128 by omega)
    have hm128 := Lib.hid (show m.length ≤ 128 by omega)
    obtain ⟨y0, y1, y2, y3⟩ := H.out.kb.cells
    go_wp2_with fail
    clear h1 h2
    refine (Read_any d o w2 A A' c c' (H.out.drw hdh.out)).mono ?_
    intro e w3 hp
    cases hr : runB d && hasB d o with
    | false =>
      obtain ⟨rfl, hb⟩ := hp.no hr
      have H := Lib.hid (H.out.step hb)
      clear hb hp y0 y1 y2 y3
      have hsb := hrbh.out.keep (Kept.below H.out.below)
      have hw := Lib.hid (Write_any d a ha b hblh.out w3 A A' Ab c c' cb (· < w3.heap.size) (fun _ h => h) (H.out.drw hdh.out) (hsb.mono fun _ h => Nat.lt_of_lt_of_le h H.out.below.size))
      clear hsb
      obtain ⟨y0, y1, y2, y3⟩ := H.out.kb.cells
      go_wp2_with fail
      refine hw.out.mono ?_
      intro e w4 hp
      obtain ⟨A1, c1, A1', c1', rfl, -, hb⟩ := hp.get (show writeD d a b = ((writeD d a b).1, (writeD d a b).2) from rfl)
      clear hp y0 y1 y2 y3 hw
      generalize writeD d a b = q at *
      obtain ⟨q1, q2⟩ := q
      have H := H.out.step hb
      have hBf := Lib.hid (H.below.alloc H.below.size (.cells #[.slice A1 q1.secs.length c1, .slice A1' q1.pend.length c1', .int .i64 q1.left, .bool q1.stop] 25))
      clear hb
      go_wp2_with fail
      go_ret
      exact ⟨rfl, hBf.out⟩
    | true =>
      obtain ⟨g0, rfl, -, hG0, hb⟩ := hp.yes hr rfl
      have hG0 := Lib.hid hG0
      have H := Lib.hid (H.out.step hb)
      clear hb hp y0 y1 y2 y3
      have hsb := hrbh.out.keep (Kept.below H.out.below)
      have hw := Lib.hid (Write_any d a ha b hblh.out w3 A A' Ab c c' cb (· < w3.heap.size) (fun _ h => h) (H.out.drw hdh.out) (hsb.mono fun _ h => Nat.lt_of_lt_of_le h H.out.below.size))
      clear hsb
      obtain ⟨y0, y1, y2, y3⟩ := H.out.kb.cells
      go_wp2_with fail
      refine hw.out.mono ?_
      intro e w4 hp
      clear y0 y1 y2 y3 hw
      have hwc := writeD_cases (d := d) (a := a) hb128.out
      have hbad : ∀ n : Int, n ≠ 0 → writeD d a b = (zeroDk, n) → True := fun _ _ _ => trivial
      clear hbad
      rcases hwc with hw | hwc
      · obtain ⟨A1, c1, A1', c1', rfl, -, hb⟩ := hp.get hw
        have H := H.out.step hb
        have hBf := Lib.hid (H.below.alloc H.below.size (.cells #[.slice A1 zeroDk.secs.length c1, .slice A1' zeroDk.pend.length c1', .int .i64 zeroDk.left, .bool zeroDk.stop] 25))
        clear hb hp hw
        go_wp2_with fail
        go_ret
        exact ⟨rfl, hBf.out⟩
      rcases hwc with hw | hwc
      · obtain ⟨A1, c1, A1', c1', rfl, -, hb⟩ := hp.get hw
        have H := H.out.step hb
        have hBf := Lib.hid (H.below.alloc H.below.size (.cells #[.slice A1 zeroDk.secs.length c1, .slice A1' zeroDk.pend.length c1', .int .i64 zeroDk.left, .bool zeroDk.stop] 25))
        clear hb hp hw
        go_wp2_with fail
        go_ret
        exact ⟨rfl, hBf.out⟩
      obtain ⟨hra, hn, hw⟩ := hwc
      obtain ⟨A1, c1, A1', c1', rfl, hdx, hb⟩ := hp.get hw
      clear hp
      have hdx := Lib.hid (hdx.mono (S' := (· < w4.heap.size)) fun b h => Sn.lt (fun _ h => h) hb b h)
      have hrx := Lib.hid (hasM (run_wr (b := b) hra hn) ((has_wr d a o b).trans (hasP hr).2))
      have hrxa := Lib.hid (hasM (run_wr (b := b) hra hn) ((has_wr d a a b).trans (hasP hra).2))
      have hxa := Lib.hid (readL_wr_same d a b)
      have hxo := Lib.hid (readL_wr_other d a o b)
      have hxl := Lib.hid (show (wrD d a b).secs.length = d.secs.length from rfl)
      have hl0 := Lib.hid (readL_length (runB_iff.1 (hasP hr).1).1 (hasP hr).2)
      clear hw hra hn hr
      generalize wrD d a b = x at *
      have H := Lib.hid (H.out.step hb)
      have hG0 := Lib.hid (hG0.out.step hb)
      clear hb
      have hbn := bnew w4 (.cells #[.slice A1 x.secs.length c1, .slice A1' x.pend.length c1', .int .i64 x.left, .bool x.stop] 25)
      have H := H.out.step hbn
      have hG0 := hG0.out.step hbn
      have hdx := hdx.out.step hbn
      have hkx := KB.new w4 A1 A1' c1 c1' x
      clear hbn
      go_wp2_with fail
      generalize w4.alloc (.cells #[.slice A1 x.secs.length c1, .slice A1' x.pend.length c1', .int .i64 x.left, .bool x.stop] 25) = V4 at *
      have H := Lib.hid H
      have hG0 := Lib.hid hG0
      have hdx := Lib.hid hdx
      have hkx := Lib.hid hkx
      refine (Read_any x o V4 A1 A1' c1 c1' hdx.out).mono ?_
      intro e w5 hp
      obtain ⟨g1, rfl, -, hG1, hb⟩ := hp.yes hrx.out rfl
      have hG1 := Lib.hid hG1
      have H := Lib.hid (H.out.step hb)
      have hG0 := Lib.hid (hG0.out.step hb)
      have hdx := Lib.hid (hdx.out.step hb)
      have hkx := Lib.hid (hkx.out.step hb)
      clear hb hp
      obtain ⟨z0, z1, z2, z3⟩ := hkx.out.cells
      go_wp2_with fail
      clear z0 z1 z2 z3
      refine (Read_any x a w5 A1 A1' c1 c1' hdx.out).mono ?_
      intro e w6 hp
      obtain ⟨g2, rfl, -, hG2, hb⟩ := hp.yes hrxa.out hxa.out
      have hG2 := Lib.hid hG2
      have H := Lib.hid (H.out.step hb)
      have hG0 := Lib.hid (hG0.out.step hb)
      have hG1 := Lib.hid (hG1.out.step hb)
      have hdx := Lib.hid (hdx.out.step hb)
      have hkx := Lib.hid (hkx.out.step hb)
      clear hb hp
      have hl1 : (readL x o).length = 128 := readL_length (runB_iff.1 (hasP hrx.out).1).1 (hasP hrx.out).2
      have ks0 := conv_db hG0.out hl0.out
      have ks1 := conv_db hG1.out hl1
      have ks2 := conv_take hG2.out (pad_take hb128.out) rfl
      have ks3 := conv_drew (c := cb) (hrbh.out.keep (Kept.below H.out.below))
      have hbi : (b.length : Int) ≤ 128 := by have := hb128.out; omega
      have hsm := Lib.hid (hrmh.out.keep (Kept.below H.out.below))
      have hw := Lib.hid (fun k : Nat => Write_any x o ho m hmlh.out (w6.drewN k) A1 A1' Am c1 c1' cm (· < w6.heap.size) (fun _ h => h) (hdx.out.keep (w := w6) (w' := w6.drewN k) fun _ _ _ => rfl) ((hsm.out.keep (w := w6) (w' := w6.drewN k) fun _ _ _ => rfl).mono fun _ h => Nat.lt_of_lt_of_le h H.out.below.size))
      obtain ⟨z0, z1, z2, z3⟩ := hkx.out.cells
      clear hl1 hsm
      by_cases hne : a = o
      · have hzz : (a != o) = false := by rw [hne]; simp
        generalize readL d o = lo at *
        generalize readL x o = lo1 at *
        go_wp2_with fail
        go_quiet (fail)
        go_wp2_with fail
        clear z0 z1 z2 z3 ks0 ks1 ks2 ks3
        refine (hw.out _).mono ?_
        intro e w7 hp
        clear hw
        rcases writeD_cases' hm128.out hrx.out with hv | ⟨hn, hv⟩
        · obtain ⟨A2, c2, A2', c2', rfl, -, hb⟩ := hp.get hv
          have H := H.out.step (unDN hb)
          have hBf := Lib.hid (H.below.alloc H.below.size (.cells #[.slice A2 zeroDk.secs.length c2, .slice A2' zeroDk.pend.length c2', .int .i64 zeroDk.left, .bool zeroDk.stop] 25))
          clear hb hp hv
          go_wp2_with fail
          go_ret
          exact ⟨rfl, hBf.out⟩
        obtain ⟨A2, c2, A2', c2', rfl, hdy, hb⟩ := hp.get hv
        have hdy := Lib.hid (hdy.mono (S' := (· < w7.heap.size)) fun b h => Sn.lt (fun _ h => h) hb b h)
        have hb := unDN hb
        have hry := Lib.hid (run_wr (b := m) hrx.out hn)
        have hyl := Lib.hid (show (wrD x o m).secs.length = d.secs.length from hxl.out)
        clear hp hv hn hrx hrxa hxa hxo hxl hkx hdx hG0 hG1 hG2
        generalize wrD x o m = y at *
        have H := Lib.hid (H.out.step hb)
        clear hb
        have hbn := bnew w7 (.cells #[.slice A2 y.secs.length c2, .slice A2' y.pend.length c2', .int .i64 y.left, .bool y.stop] 25)
        have H := H.out.step hbn
        have hdy := hdy.out.step hbn
        have hky := KB.new w7 A2 A2' c2 c2' y
        clear hbn
        go_wp2_with fail
        generalize w7.alloc (.cells #[.slice A2 y.secs.length c2, .slice A2' y.pend.length c2', .int .i64 y.left, .bool y.stop] 25) = V7 at *
        have H := Lib.hid H
        have hdy := Lib.hid hdy
        have hky := Lib.hid hky
        refine (Sync_any y V7 A2 A2' c2 c2' (· < V7.heap.size) (fun _ h => h) hdy.out).mono ?_
        intro e w8 hp
        rcases syncD_cases hry.out with ⟨hpf, hv⟩ | ⟨z, hst, hv⟩
        rotate_left
        · obtain ⟨A3, c3, A3', c3', rfl, -, hb⟩ := hp.get hv
          have H := H.out.step hb
          have hBf := H.below.alloc H.below.size (.cells #[.slice A3 z.secs.length c3, .slice A3' z.pend.length c3', .int .i64 z.left, .bool z.stop] 25)
          rw [hst] at hBf
          have hBf := Lib.hid hBf
          clear hb hp hv
          go_wp2_with fail
          go_ret
          exact ⟨rfl, hBf.out⟩
        obtain ⟨A3, c3, A3', c3', rfl, hdz, hb⟩ := hp.get hv
        have hdz := Lib.hid (hdz.mono (S' := (· < w8.heap.size)) fun b h => Sn.lt (fun _ h => h) hb b h)
        have hrz := Lib.hid (run_sync hry.out hpf)
        have hzl := Lib.hid (show (syD y).secs.length = d.secs.length from (len_sync y).trans hyl.out)
        have hzk := Lib.hid (show ∀ k, k < d.secs.length → readL (syD y) k = readL y k from fun k hk => read_sync hry.out (hyl.out ▸ hk))
        have hz0 := Lib.hid (show (syD y).pend.length = 0 from rfl)
        clear hp hv hpf
        generalize syD y = z at *
        have H := Lib.hid (H.out.step hb)
        have hdy := Lib.hid (hdy.out.step hb)
        have hky := Lib.hid (hky.out.step hb)
        clear hb
        have hbn := bnew w8 (.cells #[.slice A3 z.secs.length c3, .slice A3' z.pend.length c3', .int .i64 z.left, .bool z.stop] 25)
        have H := H.out.step hbn
        have hdy := hdy.out.step hbn
        have hky := hky.out.step hbn
        have hdz := hdz.out.step hbn
        have hkz := KB.new w8 A3 A3' c3 c3' z
        clear hbn
        obtain ⟨y0, y1, y2, y3⟩ := H.kb.cells
        clear y1 y2 y3
        go_wp2_with fail
        clear y0
        generalize w8.alloc (.cells #[.slice A3 z.secs.length c3, .slice A3' z.pend.length c3', .int .i64 z.left, .bool z.stop] 25) = V8 at *
        have H := Lib.hid H
        have hdy := Lib.hid hdy
        have hky := Lib.hid hky
        have hdz := Lib.hid hdz
        have hkz := Lib.hid hkz
        go_loopw [23] (fun i wr => ∃ k : Nat, k ≤ d.secs.length ∧ i = .int .i64 k ∧ Below V8.heap.size V8 wr) (fun i _ => d.secs.length - (intOf i).toNat)
        case atStart => exact ⟨0, Nat.zero_le _, rfl, Below.refl _ _⟩
        case round =>
          obtain ⟨k, hk, rfl, hb⟩ := hrel
          have hbh := Lib.hid hb
          have H := Lib.hid (H.out.step hb)
          have hdy := Lib.hid (hdy.out.step hb)
          have hky := Lib.hid (hky.out.step hb)
          have hdz := Lib.hid (hdz.out.step hb)
          have hkz := Lib.hid (hkz.out.step hb)
          clear hb
          obtain ⟨y0, y1, y2, y3⟩ := H.out.kb.cells
          by_cases hlt : k < d.secs.length
          · obtain ⟨z0, z1, z2, z3⟩ := hky.out.cells
            have hhy := Lib.hid (hasM hry.out (has_nat (d := y) (hyl.out ▸ hlt)))
            have hhz := Lib.hid (hasM hrz.out (has_nat (d := z) (hzl.out ▸ hlt)))
            have hll := Lib.hid (readL_length (runB_iff.1 (hasP hhy.out).1).1 (hasP hhy.out).2)
            go_wp2_with fail
            refine (Read_any y k wr A2 A2' c2 c2' hdy.out).mono ?_
            intro e w9 hp
            obtain ⟨g3, rfl, -, hG3, hb⟩ := hp.yes hhy.out rfl
            have hbh := Lib.hid (hbh.out.trans (hb.mono hbh.out.size))
            have hG3 := Lib.hid hG3
            have hdz := Lib.hid (hdz.out.step hb)
            have hkz := Lib.hid (hkz.out.step hb)
            clear hb hp y0 y1 y2 y3 z0 z1 z2 z3
            obtain ⟨z0, z1, z2, z3⟩ := hkz.out.cells
            go_wp2_with fail
            refine (Read_any z k w9 A3 A3' c3 c3' hdz.out).mono ?_
            intro e w10 hp
            obtain ⟨g4, rfl, -, hG4, hb⟩ := hp.yes hhz.out (hzk.out k hlt)
            have hbh := Lib.hid (hbh.out.trans (hb.mono hbh.out.size))
            have hG3 := Lib.hid (hG3.out.step hb)
            clear hb hp z0 z1 z2 z3
            have ks3 := conv_dbs hG3.out hll.out
            have ks4 := conv_dbs hG4 hll.out
            have hG4 := Lib.hid hG4
            generalize readL y k = lo at *
            go_wp2_with fail
            go_roundw
            case rel => exact ⟨k + 1, by omega, by go_num, hbh.out⟩
            case measure => simp [intOf]; omega
          · have hle : ¬ ((k : Int) < d.secs.length) := by omega
            clear hlt
            obtain ⟨z0, z1, z2, z3⟩ := hkz.out.cells
            have hch := Check_any z wr A3 A3' c3 c3' wr.heap.size (Nat.le_refl _) hdz.out
            rw [hz0.out] at hch z1
            rw [chk_run hrz.out] at hch
            have hch := Lib.hid hch
            go_wp2_with fail
            refine hch.out.mono ?_
            rintro e w9 ⟨rfl, hb⟩
            have H := Lib.hid (H.out.step hb)
            clear hb hch y0 y1 y2 y3 z0 z1 z2 z3
            go_wp2_with fail
            go_ret
            exact ⟨rfl, H.out.below⟩
      · have hzz : (a != o) = true := by simp [hne]
        rw [hxo.out hne] at ks1
        generalize readL d o = lo at *
        go_wp2_with fail
        go_quiet (fail)
        go_wp2_with fail
        clear z0 z1 z2 z3 ks0 ks1 ks2 ks3
        refine (hw.out _).mono ?_
        intro e w7 hp
        clear hw
        rcases writeD_cases' hm128.out hrx.out with hv | ⟨hn, hv⟩
        · obtain ⟨A2, c2, A2', c2', rfl, -, hb⟩ := hp.get hv
          have H := H.out.step (unDN hb)
          have hBf := Lib.hid (H.below.alloc H.below.size (.cells #[.slice A2 zeroDk.secs.length c2, .slice A2' zeroDk.pend.length c2', .int .i64 zeroDk.left, .bool zeroDk.stop] 25))
          clear hb hp hv
          go_wp2_with fail
          go_ret
          exact ⟨rfl, hBf.out⟩
        obtain ⟨A2, c2, A2', c2', rfl, hdy, hb⟩ := hp.get hv
        have hdy := Lib.hid (hdy.mono (S' := (· < w7.heap.size)) fun b h => Sn.lt (fun _ h => h) hb b h)
        have hb := unDN hb
        have hry := Lib.hid (run_wr (b := m) hrx.out hn)
        have hyl := Lib.hid (show (wrD x o m).secs.length = d.secs.length from hxl.out)
        clear hp hv hn hrx hrxa hxa hxo hxl hkx hdx hG0 hG1 hG2
        generalize wrD x o m = y at *
        have H := Lib.hid (H.out.step hb)
        clear hb
        have hbn := bnew w7 (.cells #[.slice A2 y.secs.length c2, .slice A2' y.pend.length c2', .int .i64 y.left, .bool y.stop] 25)
        have H := H.out.step hbn
        have hdy := hdy.out.step hbn
        have hky := KB.new w7 A2 A2' c2 c2' y
        clear hbn
        go_wp2_with fail
        generalize w7.alloc (.cells #[.slice A2 y.secs.length c2, .slice A2' y.pend.length c2', .int .i64 y.left, .bool y.stop] 25) = V7 at *
        have H := Lib.hid H
        have hdy := Lib.hid hdy
        have hky := Lib.hid hky
        refine (Sync_any y V7 A2 A2' c2 c2' (· < V7.heap.size) (fun _ h => h) hdy.out).mono ?_
        intro e w8 hp
        rcases syncD_cases hry.out with ⟨hpf, hv⟩ | ⟨z, hst, hv⟩
        rotate_left
        · obtain ⟨A3, c3, A3', c3', rfl, -, hb⟩ := hp.get hv
          have H := H.out.step hb
          have hBf := H.below.alloc H.below.size (.cells #[.slice A3 z.secs.length c3, .slice A3' z.pend.length c3', .int .i64 z.left, .bool z.stop] 25)
          rw [hst] at hBf
          have hBf := Lib.hid hBf
          clear hb hp hv
          go_wp2_with fail
          go_ret
          exact ⟨rfl, hBf.out⟩
        obtain ⟨A3, c3, A3', c3', rfl, hdz, hb⟩ := hp.get hv
        have hdz := Lib.hid (hdz.mono (S' := (· < w8.heap.size)) fun b h => Sn.lt (fun _ h => h) hb b h)
        have hrz := Lib.hid (run_sync hry.out hpf)
        have hzl := Lib.hid (show (syD y).secs.length = d.secs.length from (len_sync y).trans hyl.out)
        have hzk := Lib.hid (show ∀ k, k < d.secs.length → readL (syD y) k = readL y k from fun k hk => read_sync hry.out (hyl.out ▸ hk))
        have hz0 := Lib.hid (show (syD y).pend.length = 0 from rfl)
        clear hp hv hpf
        generalize syD y = z at *
        have H := Lib.hid (H.out.step hb)
        have hdy := Lib.hid (hdy.out.step hb)
        have hky := Lib.hid (hky.out.step hb)
        clear hb
        have hbn := bnew w8 (.cells #[.slice A3 z.secs.length c3, .slice A3' z.pend.length c3', .int .i64 z.left, .bool z.stop] 25)
        have H := H.out.step hbn
        have hdy := hdy.out.step hbn
        have hky := hky.out.step hbn
        have hdz := hdz.out.step hbn
        have hkz := KB.new w8 A3 A3' c3 c3' z
        clear hbn
        obtain ⟨y0, y1, y2, y3⟩ := H.kb.cells
        clear y1 y2 y3
        go_wp2_with fail
        clear y0
        generalize w8.alloc (.cells #[.slice A3 z.secs.length c3, .slice A3' z.pend.length c3', .int .i64 z.left, .bool z.stop] 25) = V8 at *
        have H := Lib.hid H
        have hdy := Lib.hid hdy
        have hky := Lib.hid hky
        have hdz := Lib.hid hdz
        have hkz := Lib.hid hkz
        go_loopw [23] (fun i wr => ∃ k : Nat, k ≤ d.secs.length ∧ i = .int .i64 k ∧ Below V8.heap.size V8 wr) (fun i _ => d.secs.length - (intOf i).toNat)
        case atStart => exact ⟨0, Nat.zero_le _, rfl, Below.refl _ _⟩
        case round =>
          obtain ⟨k, hk, rfl, hb⟩ := hrel
          have hbh := Lib.hid hb
          have H := Lib.hid (H.out.step hb)
          have hdy := Lib.hid (hdy.out.step hb)
          have hky := Lib.hid (hky.out.step hb)
          have hdz := Lib.hid (hdz.out.step hb)
          have hkz := Lib.hid (hkz.out.step hb)
          clear hb
          obtain ⟨y0, y1, y2, y3⟩ := H.out.kb.cells
          by_cases hlt : k < d.secs.length
          · obtain ⟨z0, z1, z2, z3⟩ := hky.out.cells
            have hhy := Lib.hid (hasM hry.out (has_nat (d := y) (hyl.out ▸ hlt)))
            have hhz := Lib.hid (hasM hrz.out (has_nat (d := z) (hzl.out ▸ hlt)))
            have hll := Lib.hid (readL_length (runB_iff.1 (hasP hhy.out).1).1 (hasP hhy.out).2)
            go_wp2_with fail
            refine (Read_any y k wr A2 A2' c2 c2' hdy.out).mono ?_
            intro e w9 hp
            obtain ⟨g3, rfl, -, hG3, hb⟩ := hp.yes hhy.out rfl
            have hbh := Lib.hid (hbh.out.trans (hb.mono hbh.out.size))
            have hG3 := Lib.hid hG3
            have hdz := Lib.hid (hdz.out.step hb)
            have hkz := Lib.hid (hkz.out.step hb)
            clear hb hp y0 y1 y2 y3 z0 z1 z2 z3
            obtain ⟨z0, z1, z2, z3⟩ := hkz.out.cells
            go_wp2_with fail
            refine (Read_any z k w9 A3 A3' c3 c3' hdz.out).mono ?_
            intro e w10 hp
            obtain ⟨g4, rfl, -, hG4, hb⟩ := hp.yes hhz.out (hzk.out k hlt)
            have hbh := Lib.hid (hbh.out.trans (hb.mono hbh.out.size))
            have hG3 := Lib.hid (hG3.out.step hb)
            clear hb hp z0 z1 z2 z3
            have ks3 := conv_dbs hG3.out hll.out
            have ks4 := conv_dbs hG4 hll.out
            have hG4 := Lib.hid hG4
            generalize readL y k = lo at *
            go_wp2_with fail
            go_roundw
            case rel => exact ⟨k + 1, by omega, by go_num, hbh.out⟩
            case measure => simp [intOf]; omega
          · have hle : ¬ ((k : Int) < d.secs.length) := by omega
            clear hlt
            obtain ⟨z0, z1, z2, z3⟩ := hkz.out.cells
            have hch := Check_any z wr A3 A3' c3 c3' wr.heap.size (Nat.le_refl _) hdz.out
            rw [hz0.out] at hch z1
            rw [chk_run hrz.out] at hch
            have hch := Lib.hid hch
            go_wp2_with fail
            refine hch.out.mono ?_
            rintro e w9 ⟨rfl, hb⟩
            have H := Lib.hid (H.out.step hb)
            clear hb hch y0 y1 y2 y3 z0 z1 z2 z3
            go_wp2_with fail
            go_ret
            exact ⟨rfl, H.out.below⟩
end Go.Proofs.Ytalkbccofiiojaa
