/- LexSpaces: the law, walked. -/
import Derived.Test.YtndfchnmajfmiaaDoorOy
import Derived.Test.YtndfchnmajfmiaaDoorRl
import Derived.Test.YtndfchnmajfmiaaDoorBl
namespace Go.Proofs.YtndfchnmajfmiaaDoor
open Go.RowKit

/-- Eight gaps in a block. -/
def SpB (w : World) (g : Nat) : Prop := ∀ j, j < 8 → ∃ x : List UInt8, w.cell? ⟨g, j, none⟩ = some (.string ⟨x.toArray⟩) ∧ GapW x ∧ x.length ≤ 110
theorem SpB.below {w w' : World} {g B : Nat} (h : SpB w g) (hb : Below B w w') (hg : g < B) : SpB w' g := fun j hj => by
  obtain ⟨x, h1, h2, h3⟩ := h j hj
  exact ⟨x, (hb.cell (p := ⟨g, j, none⟩) hg).trans h1, h2, h3⟩
theorem SpB.new (w : World) (T : TypeId) (v : Value) (ws : List UInt8) (hv : v = .string ⟨(47 :: 47 :: (ws ++ [10])).toArray⟩) (hw : ∀ b ∈ ws, b ≠ 10) (hl : ws.length ≤ 100) :
    SpB (w.alloc (.cells #[.string ⟨#[32]⟩, .string ⟨#[9]⟩, .string ⟨#[10]⟩, .string ⟨#[13, 10]⟩, .string ⟨#[32, 32]⟩, v, .string ⟨#[32, 47, 47, 32, 10]⟩, .string ⟨#[10, 47, 47, 10]⟩] T)) w.heap.size := by
  subst hv
  intro j hj
  have hc : ∀ u, (#[.string ⟨#[32]⟩, .string ⟨#[9]⟩, .string ⟨#[10]⟩, .string ⟨#[13, 10]⟩, .string ⟨#[32, 32]⟩, .string ⟨(47 :: 47 :: (ws ++ [10])).toArray⟩, .string ⟨#[32, 47, 47, 32, 10]⟩, .string ⟨#[10, 47, 47, 10]⟩] : Array Value)[j]? = some u →
      (w.alloc (.cells #[.string ⟨#[32]⟩, .string ⟨#[9]⟩, .string ⟨#[10]⟩, .string ⟨#[13, 10]⟩, .string ⟨#[32, 32]⟩, .string ⟨(47 :: 47 :: (ws ++ [10])).toArray⟩, .string ⟨#[32, 47, 47, 32, 10]⟩, .string ⟨#[10, 47, 47, 10]⟩] T)).cell? ⟨w.heap.size, j, none⟩ = some u := fun u hu => by
    rw [World.cell?_alloc_at _ _ _ _ rfl]
    exact hu
  have n := GapW.nil
  have h32 : spaceB 32 = true := rfl
  have h9 : spaceB 9 = true := rfl
  have h10 : spaceB 10 = true := rfl
  have h13 : spaceB 13 = true := rfl
  match j, hj with
  | 0, _ => exact ⟨[32], hc _ rfl, n.space h32, by simp⟩
  | 1, _ => exact ⟨[9], hc _ rfl, n.space h9, by simp⟩
  | 2, _ => exact ⟨[10], hc _ rfl, n.space h10, by simp⟩
  | 3, _ => exact ⟨[13, 10], hc _ rfl, (n.space h10).space h13, by simp⟩
  | 4, _ => exact ⟨[32, 32], hc _ rfl, (n.space h32).space h32, by simp⟩
  | 5, _ => exact ⟨47 :: 47 :: (ws ++ [10]), hc _ rfl, n.note hw, by simp; omega⟩
  | 6, _ => exact ⟨[32, 47, 47, 32, 10], hc _ rfl, (GapW.note (ws := [32]) (by simp) n).space h32, by simp⟩
  | 7, _ => exact ⟨[10, 47, 47, 10], hc _ rfl, (GapW.note (ws := []) (by simp) n).space h10, by simp⟩

theorem textE_one (t : Tk) : textE [t] = if validB t = true then (spell t, 0) else ([], 30) := by
  unfold textE
  rw [join_one]
  simp
theorem bnew2 (w : World) (o o' : Obj) : Below w.heap.size w ((w.alloc o).alloc o') := (bnew w o).trans ((bnew (w.alloc o) o').mono (by simp))
theorem gap_index (b : UInt8) : (wrap64 (b.toNat : Int)).tmod 8 = ((b.toNat % 8 : Nat) : Int) := by
  have hb := b.toNat_lt
  have hw : wrap64 (b.toNat : Int) = (b.toNat : Int) := by
    unfold wrap64
    omega
  rw [hw]
  rfl
theorem take_snoc {l : List Tk} {k : Nat} (h : k < l.length) : l.take (k + 1) = l.take k ++ [l[k]] := List.take_succ_eq_append_getElem h

set_option maxRecDepth 100000 in
set_option maxHeartbeats 12800000 in
theorem spaces_law (l : List Tk) (hl : l.length ≤ 9223372036854775807) (hok : ∀ t ∈ l, OkT t) (bs : List UInt8) (hbl : bs.length ≤ 9223372036854775807) (s : ByteArray) (hs : s.size ≤ 140737488355328) (w : World) (hK : KW w) (A : Option Addr) (c : Nat) (hr : TR w w.heap.size A l)
    (B : Option Addr) (d : Nat) (hq : RBs w w.heap.size B bs) :
    Calls Tryd.prog 8 #[.slice A l.length c, .slice B bs.length d, .string s] w fun e w' => e = .returned (.bool true) ∧ Below w.heap.size w w' := by
  have hKH := Lib.hid hK
  have hokH := Lib.hid hok
  have hrH := Lib.hid hr
  have hqH := Lib.hid hq
  clear hK hok hr hq
  go_enter Tryd.func8, Tryd.ntmps8
  go_wp2_with fail
  refine (sane_any _ hKH.out).mono ?_
  rintro e w1 ⟨rfl, hB⟩
  have ra := Lib.hid (hrH.out.step hB)
  have rb := Lib.hid (hqH.out.step hB)
  clear hrH hqH
  go_wp2_with fail
  refine (Few_any l hl _ _ _ ra.out).mono ?_
  rintro e w2 ⟨z, rfl, hf, rfl⟩
  cases z with
  | false =>
    clear hf
    go_wp2_with fail
    go_ret
    exact ⟨rfl, hB⟩
  | true =>
    have hl2 := hf rfl
    clear hf
    by_cases hsz : s.size ≤ 100
    · have hsz' : ¬ (100 : Int) < s.size := by omega
      go_wp2_with fail
      go_loop [7, 8] (fun a i => ∃ (j : Nat) (ws : List UInt8), j ≤ s.size ∧ i = .int .i64 j ∧ a = .string ⟨ws.toArray⟩ ∧ (∀ b ∈ ws, b ≠ 10) ∧ ws.length ≤ j) (fun _ i => s.size - (intOf i).toNat)
      case atStart => exact ⟨0, [], Nat.zero_le _, rfl, rfl, (fun b hb => by cases hb), Nat.zero_le _⟩
      case round =>
        obtain ⟨j, ws, hj, rfl, rfl, hws, hwl⟩ := hrel
        have hwsH := Lib.hid hws
        clear hws
        by_cases hlt : j < s.size
        · by_cases h10 : s[j] = 10
          · have n10 : ((s[j].toNat : Int) != 10) = false := byte_eq (by rw [h10]; rfl)
            clear h10
            go_wp2_with fail
            go_round
            case rel => exact ⟨j + 1, ws, by omega, by go_num, rfl, hwsH.out, by omega⟩
            case measure => simp [intOf]; omega
          · have n10 : ((s[j].toNat : Int) != 10) = true := byte_ne (by simpa using h10)
            have hex : s.extract j (j + 1) = ⟨([s[j]] : List UInt8).toArray⟩ := by
              rw [sub_eq, drop_at s hlt, show j + 1 - j = 1 by omega]
              rfl
            have hnew := Lib.hid (fun b (hb : b ∈ ws ++ [s[j]]) => show b ≠ 10 by
              rcases List.mem_append.1 hb with hb | hb
              · exact hwsH.out b hb
              · rw [List.mem_singleton.1 hb]; exact h10)
            have hexH := Lib.hid hex
            have hexz : (s.extract j (j + 1)).size = 1 := by rw [hex]; rfl
            clear h10 hwsH hex
            go_wp2_with fail
            go_round
            case rel => exact ⟨j + 1, ws ++ [s[j]], by omega, by go_num, by rw [hexH.out, str_app], hnew.out, by simp; omega⟩
            case measure => simp [intOf]; omega
        · have hwl2 : ws.length ≤ 100 := by omega
          clear hwl
          have h1t : (⟨#[47, 47]⟩ : ByteArray) ++ ⟨ws.toArray⟩ ++ ⟨#[10]⟩ = ⟨(47 :: 47 :: (ws ++ [10])).toArray⟩ := by
            rw [show (⟨#[47, 47]⟩ : ByteArray) = ⟨([47, 47] : List UInt8).toArray⟩ from rfl, show (⟨#[10]⟩ : ByteArray) = ⟨([10] : List UInt8).toArray⟩ from rfl, str_app, str_app]
            simp
          have hnewB := Lib.hid (fun (v : Value) (hv : v = .string ⟨(47 :: 47 :: (ws ++ [10])).toArray⟩) => SpB.new w1 9 v ws hv hwsH.out hwl2)
          have h1tH := Lib.hid h1t
          have hbn := Lib.hid (fun o => bnew w1 o)
          clear h1t
          go_wp2_with fail
          rw [h1tH.out]
          have hSB := hnewB.out _ rfl
          have hB1 := hbn.out (.cells #[.string ⟨#[32]⟩, .string ⟨#[9]⟩, .string ⟨#[10]⟩, .string ⟨#[13, 10]⟩, .string ⟨#[32, 32]⟩, .string ⟨(47 :: 47 :: (ws ++ [10])).toArray⟩, .string ⟨#[32, 47, 47, 32, 10]⟩, .string ⟨#[10, 47, 47, 10]⟩] 9)
          have ra2 := Lib.hid (ra.out.step hB1)
          have rb2 := Lib.hid (rb.out.step hB1)
          have hBx := hB.trans (hB1.mono hB.size)
          clear hnewB h1tH hbn hwsH hB1 ra rb
          generalize w1.alloc (.cells #[.string ⟨#[32]⟩, .string ⟨#[9]⟩, .string ⟨#[10]⟩, .string ⟨#[13, 10]⟩, .string ⟨#[32, 32]⟩, .string ⟨(47 :: 47 :: (ws ++ [10])).toArray⟩, .string ⟨#[32, 47, 47, 32, 10]⟩, .string ⟨#[10, 47, 47, 10]⟩] 9) = w2 at *
          have hg2 : w1.heap.size < w2.heap.size := by
            obtain ⟨x, hx, -⟩ := hSB 0 (by omega)
            exact World.block_lt_of_cell? w2 ⟨w1.heap.size, 0, none⟩ hx
          generalize w1.heap.size = g at *
          have hSBH := Lib.hid hSB
          have hK2 := Lib.hid (hKH.out.step hBx)
          clear hSB hB
          go_loopw [10, 54] (fun sv i wr => ∃ (k : Nat) (z : List UInt8), k ≤ l.length ∧ i = .int .i64 k ∧ sv = .string ⟨z.toArray⟩ ∧ Hid (Sp (l.take k) z) ∧ z.length ≤ 1 + k * 150 ∧ Below w2.heap.size w2 wr) (fun _ i _ => l.length - (intOf i).toNat)
          case atStart => exact ⟨0, [10], Nat.zero_le _, rfl, rfl, by show Sp _ _; rw [List.take_zero]; exact Sp.begin, by simp, Below.refl _ _⟩
          case round =>
            obtain ⟨k, z, hk, rfl, rfl, hz, hzl, hb⟩ := hrel
            by_cases hlt2 : k < l.length
            · obtain ⟨b, off, rfl, hbB, hcells⟩ := (ra2.out.below hb (Nat.le_refl _)) (by omega)
              obtain ⟨c0, c1, c2, c3⟩ := hcells k hlt2
              have hzb := hb.size
              have hok := hokH.out l[k] (List.getElem_mem hlt2)
              have hallf := Lib.hid (fun h => all_valid (l := l) hlt2 h)
              have hsn := Lib.hid (take_snoc hlt2)
              clear hcells
              generalize l[k] = t at *
              have hT := Lib.hid (fun W (hW : KW W) A c (hr : TR W W.heap.size A [t]) => Text_any [t] (by simp) (by intro x hx; rw [List.mem_singleton.1 hx]; exact hok) (fun hv => by have := text_short [t] hv; simp at this; omega) W hW A c hr)
              have hKr := Lib.hid (hK2.out.step hb)
              clear hok
              go_wp2_with fail
              have hbx := bnew2 wr (.cells #[.int .i64 t.k, .string ⟨t.s.toArray⟩, .int .i64 t.n, .int .i64 t.p] 35) (.cells #[.int .i64 t.k, .string ⟨t.s.toArray⟩, .int .i64 t.n, .int .i64 t.p] 35)
              have rF := TR.new (wr.alloc (.cells #[.int .i64 t.k, .string ⟨t.s.toArray⟩, .int .i64 t.n, .int .i64 t.p] 35)) [t] #[.int .i64 t.k, .string ⟨t.s.toArray⟩, .int .i64 t.n, .int .i64 t.p] 35 rfl
              rw [World.size_alloc, show wr.heap.size + 1 + 1 = ((wr.alloc (.cells #[.int .i64 t.k, .string ⟨t.s.toArray⟩, .int .i64 t.n, .int .i64 t.p] 35)).alloc (.cells #[.int .i64 t.k, .string ⟨t.s.toArray⟩, .int .i64 t.n, .int .i64 t.p] 35)).heap.size by simp] at rF
              refine (hT.out _ (hKr.out.step hbx) _ _ rF).mono ?_
              rintro e w3 ⟨rfl, hb3⟩
              have hb3 := hb.trans ((hbx.trans (hb3.mono hbx.size)).mono hzb)
              clear hT rF hbx c0 c1 c2 c3 hKr
              cases hv : validB t with
              | false =>
                have he1 : Hid (textE [t] = ([], 30)) := by show textE [t] = _; rw [textE_one, hv]; rfl
                have hal := hallf.out hv
                have hE : Hid (textE l = ([], 30)) := by show textE l = _; unfold textE; rw [hal]; rfl
                have hTl := Lib.hid (Text_any l (by omega) hokH.out (fun h => by rw [hal] at h; cases h) w3 (hK2.out.step hb3) _ c (ra2.out.step hb3))
                have hz3 := hb3.size
                clear hal hv hallf
                rw [he1.out]
                go_wp2_with fail
                refine hTl.out.mono ?_
                rintro e w4 ⟨rfl, hb4⟩
                rw [hE.out]
                have hB4 := hBx.trans ((hb3.trans (hb4.mono hz3)).mono hBx.size)
                go_wp2_with fail
                go_ret
                exact ⟨rfl, hB4⟩
              | true =>
                have he1 : Hid (textE [t] = (spell t, 0)) := by show textE [t] = _; rw [textE_one, hv]; rfl
                have hnew := Lib.hid (fun (x : List UInt8) (hx : GapW x) => show Sp (l.take (k + 1)) (z ++ (spell t ++ 32 :: x)) by rw [hsn.out]; exact hz.out.step hv hx)
                have hss := spell_short hv
                have hzl2 : z.length ≤ 30001 := by omega
                clear hv hallf hsn hz
                rw [he1.out]
                clear he1
                generalize spell t = sp at *
                by_cases hkb : k < bs.length
                · obtain ⟨b2, o2, rfl, hb2, hc2⟩ := (rb2.out.under hb3) (by omega)
                  have hcb := hc2 k hkb
                  obtain ⟨x, hx1, hx2, hx3⟩ := (hSBH.out.below hb3 hg2) (bs[k].toNat % 8) (Nat.mod_lt _ (by decide))
                  have hxH := Lib.hid hx2
                  have hkb' : (k : Int) < bs.length := by omega
                  have hm8 := gap_index bs[k]
                  have hm9 : (0 : Int) ≤ ((bs[k].toNat % 8 : Nat) : Int) ∧ ((bs[k].toNat % 8 : Nat) : Int) < 8 := by omega
                  have hm9' : (((bs[k].toNat % 8 : Nat) : Int)).toNat = bs[k].toNat % 8 := Int.toNat_natCast _
                  generalize bs[k].toNat % 8 = ix at *
                  have hcat : Hid ((⟨z.toArray⟩ : ByteArray) ++ (⟨sp.toArray⟩ ++ ⟨#[32]⟩ ++ ⟨x.toArray⟩) = ⟨(z ++ (sp ++ 32 :: x)).toArray⟩) := by
                    show _ = _
                    rw [show (⟨#[32]⟩ : ByteArray) = ⟨([32] : List UInt8).toArray⟩ from rfl, str_app, str_app, str_app]
                    simp
                  clear hc2 hx2
                  go_wp2_with fail
                  go_roundw
                  case rel => exact ⟨k + 1, z ++ (sp ++ 32 :: x), by omega, by go_num, by rw [hcat.out], hnew.out x hxH.out, by simp; omega, hb3⟩
                  case measure => simp [intOf]; omega
                · have hkb' : ¬ (k : Int) < bs.length := by omega
                  have hcat : Hid ((⟨z.toArray⟩ : ByteArray) ++ (⟨sp.toArray⟩ ++ ⟨#[32]⟩ ++ ⟨#[32]⟩) = ⟨(z ++ (sp ++ 32 :: [32])).toArray⟩) := by
                    show _ = _
                    rw [show (⟨#[32]⟩ : ByteArray) = ⟨([32] : List UInt8).toArray⟩ from rfl, str_app, str_app, str_app]
                    simp
                  go_wp2_with fail
                  go_roundw
                  case rel => exact ⟨k + 1, z ++ (sp ++ 32 :: [32]), by omega, by go_num, by rw [hcat.out], hnew.out [32] (GapW.nil.space (by decide)), by simp; omega, hb3⟩
                  case measure => simp [intOf]; omega
            · have hkl : k = l.length := by omega
              subst hkl
              have hz1 := hz.out
              rw [List.take_length] at hz1
              obtain ⟨m, hm, hsm⟩ := hz1.done
              have hml : m.length ≤ 9223372036854775807 := by rw [← sameL_length hsm]; omega
              have hL := Lib.hid (fun W (hW : KW W) => Lex_okL z (by omega) hm W hW)
              have hS := Lib.hid (fun W A B c d (h1 : TR W W.heap.size A l) (h2 : TR W W.heap.size B m) => Same_any l m (by omega) hml W A B c d h1 h2)
              have hsmH := Lib.hid hsm
              have hB2 := hBx.trans (hb.mono hBx.size)
              have r1 := Lib.hid (ra2.out.step hb)
              clear hz hz1 hm hsm ra2
              go_wp2_with fail
              refine (hL.out _ (hKH.out.step hB2)).mono ?_
              rintro e w4 ⟨A4, c4, rfl, -, r4, hb4⟩
              have r1 := Lib.hid (r1.out.step hb4)
              have r4 := Lib.hid r4
              have hB4 := hB2.trans (hb4.mono hB2.size)
              clear hb4
              go_wp2_with fail
              refine (hS.out _ _ _ _ _ r1.out r4.out).mono ?_
              rintro e w5 ⟨rfl, hb5⟩
              rw [hsmH.out]
              have hB5 := hB4.trans (hb5.mono hB4.size)
              go_wp2_with fail
              go_ret
              exact ⟨rfl, hB5⟩
    · have hsz' : (100 : Int) < s.size := by omega
      go_wp2_with fail
      go_ret
      exact ⟨rfl, hB⟩
end Go.Proofs.YtndfchnmajfmiaaDoor
