/- scan: the loop over the source. -/
import Derived.Test.YtndfchnmajfmiaaDoorSc
import Derived.Lib.IndexBytes
import Derived.Test.YtndfchnmajfmiaaDoorRg
namespace Go.Proofs.YtndfchnmajfmiaaDoor
open Go.RowKit

/-- What scan gives. -/
def ScanPost (s : List UInt8) (w : World) (e : Ending) (w' : World) : Prop :=
  match lexL s with
  | .ok m => ∃ v, e = .returned v ∧ TO w' w.heap.size v m ∧ Below w.heap.size w w'
  | .error p => e = .panicked (boomAt p) ∧ Below w.heap.size w w'

theorem grownBy_setRow (w : World) (g : Nat) (cs : Array Value) : w.grownBy (w.setRow g cs) (some g) := ⟨rfl, rfl, rfl, by simp, fun k _ hk => setRow_other w g k _ (fun e => hk (by rw [e]))⟩
theorem setRow_below {w : World} {g : Nat} (cs : Array Value) {B : Nat} (h : B ≤ g) (hB : B ≤ w.heap.size) : Below B w (w.setRow g cs) :=
  (Below.refl B w).grown (grownBy_setRow _ _ _) hB (fun k e => by injection e with e; omega)
theorem post_w {Q : World → Prop} (W : World) (P : World → Prop) (hp : P W) (h : ∀ W, P W → Q W) : Q W := h W hp
/-- Four cells, and behind four stores. -/
def S4 (w : World) (N : Nat) (x0 x1 x2 x3 : Value) : Prop := w.cell? ⟨N, 0, none⟩ = some x0 ∧ w.cell? ⟨N, 1, none⟩ = some x1 ∧ w.cell? ⟨N, 2, none⟩ = some x2 ∧ w.cell? ⟨N, 3, none⟩ = some x3
theorem S4.put {w : World} {N : Nat} {x0 x1 x2 x3 : Value} (h : S4 w N x0 x1 x2 x3) (y0 y1 y2 y3 : Value) :
    S4 ((((w.setCell ⟨N, 0, none⟩ y0).setCell ⟨N, 1, none⟩ y1).setCell ⟨N, 2, none⟩ y2).setCell ⟨N, 3, none⟩ y3) N y0 y1 y2 y3 := by
  obtain ⟨h0, h1, h2, h3⟩ := h
  have n : ∀ i j : Nat, i ≠ j → (⟨N, i, none⟩ : Addr) ≠ ⟨N, j, none⟩ := fun i j h e => by injection e with _ e2; exact h e2
  refine ⟨?_, ?_, ?_, ?_⟩
  · rw [World.cell?_setCell_other _ _ _ _ (n 3 0 (by omega)), World.cell?_setCell_other _ _ _ _ (n 2 0 (by omega)), World.cell?_setCell_other _ _ _ _ (n 1 0 (by omega)), World.cell?_setCell_same _ _ _ h0]
  · rw [World.cell?_setCell_other _ _ _ _ (n 3 1 (by omega)), World.cell?_setCell_other _ _ _ _ (n 2 1 (by omega)), World.cell?_setCell_same _ _ _ (by rw [World.cell?_setCell_other _ _ _ _ (n 0 1 (by omega))]; exact h1)]
  · rw [World.cell?_setCell_other _ _ _ _ (n 3 2 (by omega)), World.cell?_setCell_same _ _ _ (by rw [World.cell?_setCell_other _ _ _ _ (n 1 2 (by omega)), World.cell?_setCell_other _ _ _ _ (n 0 2 (by omega))]; exact h2)]
  · rw [World.cell?_setCell_same _ _ _ (by rw [World.cell?_setCell_other _ _ _ _ (n 2 3 (by omega)), World.cell?_setCell_other _ _ _ _ (n 1 3 (by omega)), World.cell?_setCell_other _ _ _ _ (n 0 3 (by omega))]; exact h3)]
theorem TO.mono {w : World} {B B' : Nat} {v : Value} {m : List Tk} (h : TO w B v m) (hB : B' ≤ B) : TO w B' v m := by
  refine ⟨h.1, ?_⟩
  rcases h.2 with h' | ⟨g, cap, cur, e, hb, r⟩
  · exact .inl h'
  · exact .inr ⟨g, cap, cur, e, Nat.le_trans hB hb, r⟩
theorem S4.new (w : World) (x0 x1 x2 x3 : Value) (t : TypeId) : S4 (w.alloc (.cells #[x0, x1, x2, x3] t)) w.heap.size x0 x1 x2 x3 := by
  refine ⟨?_, ?_, ?_, ?_⟩ <;> (rw [World.cell?_alloc_at _ _ _ _ rfl]; rfl)
theorem S4.drew {w : World} {N : Nat} {x0 x1 x2 x3 : Value} (h : S4 w N x0 x1 x2 x3) : S4 w.drew N x0 x1 x2 x3 := by
  unfold S4 at *; simpa using h
theorem S4.of {w w' : World} {N B : Nat} {x0 x1 x2 x3 : Value} (h : S4 w N x0 x1 x2 x3) (hb : Below B w w') (hN : N < B) : S4 w' N x0 x1 x2 x3 :=
  ⟨(hb.cell hN).trans h.1, (hb.cell hN).trans h.2.1, (hb.cell hN).trans h.2.2.1, (hb.cell hN).trans h.2.2.2⟩

theorem tkOf_kind {l : List UInt8} {p : Nat} {t : Tk} (h : tkOf l p = some (some t)) : (t.k == 0) = false ∧ (t.k != 0) = true := by
  have : t.k = 1 ∨ t.k = 2 ∨ t.k = 3 := by
    cases l with
    | nil => cases h
    | cons c r =>
      rw [tkOf_cls (c := c) rfl] at h
      unfold nameTk numTk at h
      split at h
      · cases h
      · split at h
        · split at h
          · simp at h; left; rw [← h]
          · cases h
        · split at h
          · split at h
            · simp at h; right; left; rw [← h]
            · cases h
          · split at h
            · simp at h; right; right; rw [← h]
            · split at h
              · split at h
                · cases h
                · simp at h; right; right; rw [← h]
              · cases h
  rcases this with h | h | h <;> rw [h] <;> decide
set_option maxRecDepth 100000 in
set_option maxHeartbeats 1600000 in
theorem scan_any (s : ByteArray) (hs : s.size ≤ 65536) (w : World) (hK : KW w) : Calls Tryd.prog 25 #[.string s] w (ScanPost s.data.toList w) := by
  have hKH := Lib.hid hK
  clear hK
  have hlen : Hid (s.data.toList.length = s.size) := rfl
  go_enter Tryd.func25, Tryd.ntmps25
  go_wp2_with fail
  refine (scanners_any _).mono ?_
  rintro e w1 ⟨rfl, hb1⟩
  have hz1 := hb1.size
  have hblk : (w1.alloc (.cells #[.nilFunc, .nilFunc, .nilFunc, .nilFunc, .nilFunc, .nilFunc, .nilFunc, .nilFunc, .nilFunc, .nilFunc, .nilFunc, .nilFunc, .nilFunc, .nilFunc] 55)).heap[w1.heap.size]? = some (.cells #[.nilFunc, .nilFunc, .nilFunc, .nilFunc, .nilFunc, .nilFunc, .nilFunc, .nilFunc, .nilFunc, .nilFunc, .nilFunc, .nilFunc, .nilFunc, .nilFunc] 55 (0, 0)) := heap_alloc_new w1 _
  have hinfo : (Tryd.prog.info? 55).map (·.size) = some scanCells.toArray.size := by kernel_rfl
  have hcs : (#[.nilFunc, .nilFunc, .nilFunc, .nilFunc, .nilFunc, .nilFunc, .nilFunc, .nilFunc, .nilFunc, .nilFunc, .nilFunc, .nilFunc, .nilFunc, .nilFunc] : Array Value).size = scanCells.toArray.size := rfl
  have hone : scanCells.toArray.all (·.oneCell') = true := by simp [scanCells, Value.oneCell']
  go_wp2_with (refine wpList_store_row rfl 55 _ _ rfl w1.heap.size scanCells.toArray rfl rfl 55 _ hblk hinfo hcs hone ?_)
  have hT := setRow_heap _ _ _ scanCells.toArray _ _ hblk
  have hb2 : Below w.heap.size w ((w1.alloc (.cells #[.nilFunc, .nilFunc, .nilFunc, .nilFunc, .nilFunc, .nilFunc, .nilFunc, .nilFunc, .nilFunc, .nilFunc, .nilFunc, .nilFunc, .nilFunc, .nilFunc] 55)).setRow w1.heap.size scanCells.toArray) := (hb1.alloc hz1 _).trans (setRow_below _ hz1 (by simp; omega))
  clear hblk hinfo hcs hone
  generalize (w1.alloc (.cells #[.nilFunc, .nilFunc, .nilFunc, .nilFunc, .nilFunc, .nilFunc, .nilFunc, .nilFunc, .nilFunc, .nilFunc, .nilFunc, .nilFunc, .nilFunc, .nilFunc] 55)).setRow w1.heap.size scanCells.toArray = w2 at *
  generalize hg : w1.heap.size = g at *
  have hzg : g + 1 ≤ w2.heap.size := (Array.getElem?_eq_some_iff.1 hT).1
  have hTH := Lib.hid hT
  have hb2H := Lib.hid hb2
  clear hT hb2 hb1 hg
  go_loopw [2, 4] (fun v i wr => ∃ (k : Nat) (m : List Tk), k ≤ s.size ∧ i = .int .i64 k ∧ m.length ≤ k ∧ Hid (lexL s.data.toList = pre m (lexR (s.data.toList.drop k) k)) ∧ TO wr (g + 1) v m ∧ Below (g + 1) w2 wr) (fun _ i _ => s.size - (intOf i).toNat)
  case atStart => exact ⟨0, [], Nat.zero_le _, rfl, Nat.le_refl _, by show _ = _; rw [List.drop_zero, pre_nil]; rfl, TO.nil _ _, Below.refl _ _⟩
  case round =>
    obtain ⟨k, m, hk, rfl, hml, he, hto, hb⟩ := hrel
    by_cases hlt : k < s.size
    · go_wp2_with fail
      have hrd : (s.extract k s.size).data.toList = s.data.toList.drop k := Lib.extract_to_end s k
      have hrz : (s.extract k s.size).size = s.size - k := by
        have := congrArg List.length hrd
        rw [List.length_drop] at this
        exact this
      have h0 : 0 < (s.extract k s.size).size := by omega
      have hr64 : (s.extract k s.size).size ≤ 65536 := by omega
      have hhd := head_at h0
      generalize (s.extract k s.size)[0] = c at *
      generalize s.extract k s.size = r at *
      obtain ⟨F, G, hS⟩ := scanner_of c
      have hblk : wr.heap[g]? = some (.cells scanCells.toArray 55) := (hb.block g (by omega)).trans hTH.out
      have hKr : KW wr := hKH.out.below (hb2H.out.trans (hb.mono (by have := hKH.out.size; omega))) hKH.out.size
      have hc0 : wr.cell? ⟨g, cls c * 2, none⟩ = some (.func (.func F) #[] #[]) := (cell_of_row wr g _ _ _ _ hblk).trans (by simpa using hS.cell0)
      have hc1 : wr.cell? ⟨g, cls c * 2 + 1, none⟩ = some (.func (.func G) #[] #[]) := (cell_of_row wr g _ _ _ _ hblk).trans (by simpa using hS.cell1)
      have hcl := cls_le c
      have henF := hS.enF
      have henG := hS.enG
      have hrdH := Lib.hid hrd
      have hrzH := Lib.hid hrz
      have hhdH := Lib.hid hhd
      have hSH := Lib.hid hS
      have hKrH := Lib.hid hKr
      clear hrd hrz hhd hS hKr hblk
      refine (classOf_any c _ hKrH.out).mono ?_
      rintro e w3 ⟨rfl, rfl⟩
      go_wp2_with fail
      refine (hSH.out.size r _ hr64 hhdH.out (hKrH.out.al _)).mono ?_
      rintro e w3 ⟨rfl, rfl⟩
      go_wp2_with fail
      have hne := size_ne h0
      have hsz := szOf_le hne
      have hlr : r.data.toList.length = r.size := rfl
      have hpc := piece_of r.data.toList hne k
      have htok := hSH.out.token r k
      have hex : (r.extract 0 (szOf r.data.toList)).data.toList = r.data.toList.take (szOf r.data.toList) := by rw [Lib.extract_data]; rfl
      have htok := fun (W : World) (hW : KW W) => htok W hr64 hhdH.out hW (r.extract 0 (szOf r.data.toList)) hex
      have hbx : Below (wr.heap.size + 1) (wr.alloc (.cells #[.func (.func F) #[] #[], .func (.func G) #[] #[]] 54)) (wr.alloc (.cells #[.func (.func F) #[] #[], .func (.func G) #[] #[]] 54)) := Below.refl _ _
      have hKx : ∀ W, Below (wr.heap.size + 1) (wr.alloc (.cells #[.func (.func F) #[] #[], .func (.func G) #[] #[]] 54)) W → KW W := fun W hW => (hKrH.out.al (.cells #[.func (.func F) #[] #[], .func (.func G) #[] #[]] 54)).below hW (by have := hKrH.out.size; omega)
      have hux : ∀ W, Below (wr.heap.size + 1) (wr.alloc (.cells #[.func (.func F) #[] #[], .func (.func G) #[] #[]] 54)) W → Below wr.heap.size wr W := fun W hW => unbox hW
      clear hex hne henF hlr
      generalize hn : szOf r.data.toList = n at *
      have hlr : r.data.toList.length = r.size := rfl
      rw [hlr] at hsz
      clear hlr hn
      have hnk : k + n ≤ s.size := by have := hrzH.out; omega
      have hpcH := Lib.hid hpc
      have htokH := Lib.hid htok
      have hKxH := Lib.hid hKx
      have huxH := Lib.hid hux
      clear hpc htok hKx hux
      have hgr := hb.size
      have hdH := Lib.hid (show s.data.toList.length = s.size from rfl)
      cases ht : tkOf r.data.toList k with
      | none =>
        rw [ht] at hpcH htokH
        have hfin : Hid (lexL s.data.toList = .error k) := at_err he.out (by rw [hdH.out]; omega) (by rw [← hrdH.out]; exact hpcH.out)
        refine wp_region_inv (fun W => Below (wr.heap.size + 1) (wr.alloc (.cells #[.func (.func F) #[] #[], .func (.func G) #[] #[]] 54)) W) (fun _ _ => True)
          (fun i v _ => match i with
            | 0 => v = .pointer (some ⟨wr.heap.size, 1, none⟩)
            | 1 => v = .func (.func G) #[] #[]
            | 2 => v = .string r
            | 3 => v = .int .i64 n
            | 4 => v = .string (r.extract 0 n)
            | 5 => v = .int .i64 k
            | 6 => False
            | _ => True) (by kernel_rfl) (by kernel_rfl) (by kernel_rfl) (by kernel_rfl) (fun _ _ _ _ _ h => h) hbx.drew ?_ ?_
        · refine ⟨?_, ?_, ?_, ?_, ?_, ?_, ?_, ?_, ?_, trivial⟩
          · refine stepI_val (fun _ => trivial) rfl rfl fun a W hA hG hD => ⟨_, ?_, rfl⟩
            have h6 := hA.getD (t := 6) (by kernel_rfl)
            simp [execOp, Act.eval, h6, go_sem]
          · refine stepI_val (fun _ => trivial) rfl rfl fun a W hA hG hD => ⟨_, ?_, rfl⟩
            have h26 := hD.get 0 26 _ rfl rfl (by kernel_rfl)
            have hcl : W.cell? ⟨wr.heap.size, 1, none⟩ = some (.func (.func G) #[] #[]) := by rw [hG.cell (by simp), World.cell?_alloc_at _ _ _ _ rfl]; rfl
            simp only at h26
            simp [execOp, Act.eval, h26, go_sem, hcl]
          · refine stepI_val (fun _ => trivial) rfl rfl fun a W hA hG hD => ⟨_, ?_, rfl⟩
            have h5 := hA.getD (t := 5) (by kernel_rfl)
            simp [execOp, Act.eval, h5, go_sem]
          · refine stepI_val (fun _ => trivial) rfl rfl fun a W hA hG hD => ⟨_, ?_, rfl⟩
            have h7 := hA.getD (t := 7) (by kernel_rfl)
            simp [execOp, Act.eval, h7, go_sem]
          · refine stepI_val (fun _ => trivial) rfl rfl fun a W hA hG hD => ⟨_, ?_, rfl⟩
            have h28 := hD.get 2 28 _ rfl rfl (by kernel_rfl)
            have h29 := hD.get 3 29 _ rfl rfl (by kernel_rfl)
            simp only at h28 h29
            simp [execOp, Act.eval, h28, h29, go_sem, hsz.2]
          · refine stepI_val (fun _ => trivial) rfl rfl fun a W hA hG hD => ⟨_, ?_, rfl⟩
            have h4 := hA.getD (t := 4) (by kernel_rfl)
            simp [execOp, Act.eval, h4, go_sem]
          · refine stepI_call rfl rfl fun a W hA hG hD => ⟨G, #[.string (r.extract 0 n), .int .i64 k], ?_, ?_⟩
            · have h27 := hD.get 1 27 _ rfl rfl (by kernel_rfl)
              have h30 := hD.get 4 30 _ rfl rfl (by kernel_rfl)
              have h31 := hD.get 5 31 _ rfl rfl (by kernel_rfl)
              simp only at h27 h30 h31
              simp [execOp, Act.eval, h27, h30, h31, go_sem, henG]
            · refine (htokH.out W (hKxH.out W hG)).mono fun e w' he => .inr ⟨_, he.1, ?_⟩
              have hbw := huxH.out _ (hG.trans (he.2.mono (by have := hG.size; simpa using this)))
              clear hD
              go_big_unhide
              simp only [Exit.inBlock, Exit.then]
              refine ⟨hA.defers, ?_⟩
              show ScanPost _ _ _ _
              rw [ScanPost, hfin.out]
              exact ⟨rfl, (hb2H.out.trans (hb.mono (by omega))).trans (hbw.mono (by omega))⟩
          · refine stepI_make rfl rfl fun a W hA hG hD => ⟨.pointer (some ⟨W.heap.size, 0, none⟩), W.alloc (.cells #[.int .i64 0, .string ⟨#[]⟩, .int .i64 0, .int .i64 0] 35), ?_, ?_, trivial, trivial⟩
            · simp [execOp, go_sem]
            · exact hG.alloc (by have := hG.size; simpa using this) _
          · exact stepI_never fun a W hD => by
              have h32 := hD.get 6 32 _ rfl rfl (by kernel_rfl)
              exact h32
        · intro T W hG hF
          exact (hF 6 _ rfl).elim
      | some tk =>
        rw [ht] at hpcH htokH
        have hstep : Hid (lexL s.data.toList = pre (m ++ tk.toList) (lexR (s.data.toList.drop (k + n)) (k + n))) := at_step he.out (by rw [← hrdH.out]; exact hpcH.out)
        cases tk with
        | none =>
          go_region_held3 (fun W => W.cell? ⟨wr.heap.size, 0, none⟩ = some (.func (.func F) #[] #[]) ∧ W.cell? ⟨wr.heap.size, 1, none⟩ = some (.func (.func G) #[] #[]))
            (first | go_keep | (refine ⟨?_, ?_⟩ <;> (rw [hbw.cell (by simp), World.cell?_alloc_at _ _ _ _ rfl]; rfl)))
            ((refine (htokH.out _ (hKxH.out _ (by first | exact hbx.drew | exact hbx.drew.alloc (by simp) _))).mono ?_
              rintro e w4 ⟨rfl, hb4⟩
              unfold noTk
              have hbw : Below (wr.heap.size + 1) (wr.alloc (.cells #[.func (.func F) #[] #[], .func (.func G) #[] #[]] 54)) w4 := by
                first
                  | exact hbx.drew.trans (hb4.mono (by simp))
                  | exact (hbx.drew.alloc (by simp) _).trans (hb4.mono (by simp))
              have hz4 := hb4.size
              obtain ⟨hc4, hf4⟩ := bcell hb4
              simp only [World.size_alloc, World.size_drew] at hz4 hc4 hf4))
          all_goals
            have hbw' := huxH.out _ hbw
            clear htokH htok
            first
              | (with_reducible refine post_w (w4.alloc (.cells #[.int .i64 0, .string ⟨#[]⟩, .int .i64 0, .int .i64 0] 35)) (fun W => S4 W w4.heap.size (.int .i64 0) (.string ⟨#[]⟩) (.int .i64 0) (.int .i64 0) ∧ Below wr.heap.size wr W) ⟨S4.new _ _ _ _ _ _, hbw'.alloc hbw'.size _⟩ ?_)
              | (with_reducible refine post_w ((((w4.setCell ⟨wr.heap.size + 1, 0, none⟩ (.int .i64 0)).setCell ⟨wr.heap.size + 1, 1, none⟩ (.string ⟨#[]⟩)).setCell ⟨wr.heap.size + 1, 2, none⟩ (.int .i64 0)).setCell ⟨wr.heap.size + 1, 3, none⟩ (.int .i64 0)) (fun W => S4 W (wr.heap.size + 1) (.int .i64 0) (.string ⟨#[]⟩) (.int .i64 0) (.int .i64 0) ∧ Below wr.heap.size wr W) ⟨S4.put (S4.of (by have := S4.new (wr.alloc (.cells #[.func (.func F) #[] #[], .func (.func G) #[] #[]] 54)) (.int .i64 0) (.string ⟨#[]⟩) (.int .i64 0) (.int .i64 0) 35; rw [World.size_alloc] at this; exact this.drew) hb4 (by simp)) _ _ _ _, (((hbw'.setCell (Nat.le_succ _) _).setCell (Nat.le_succ _) _).setCell (Nat.le_succ _) _).setCell (Nat.le_succ _) _⟩ ?_)
            clear hb4 hc4 hf4 hbx hbw hbw'
            rintro WW ⟨⟨c0, c1, c2, c3⟩, hfb⟩
            go_wp2_with fail
            go_roundw
            case rel => exact ⟨k + n, m, by omega, by go_num, by omega, by have := hstep.out; rw [Option.toList_none, List.append_nil] at this; exact this, hto.below hfb, hb.trans (hfb.mono (by omega))⟩
            case measure => simp [intOf]; omega
        | some t =>
          go_region_held3 (fun W => W.cell? ⟨wr.heap.size, 0, none⟩ = some (.func (.func F) #[] #[]) ∧ W.cell? ⟨wr.heap.size, 1, none⟩ = some (.func (.func G) #[] #[]))
            (first | go_keep | (refine ⟨?_, ?_⟩ <;> (rw [hbw.cell (by simp), World.cell?_alloc_at _ _ _ _ rfl]; rfl)))
            ((refine (htokH.out _ (hKxH.out _ (by first | exact hbx.drew | exact hbx.drew.alloc (by simp) _))).mono ?_
              rintro e w4 ⟨rfl, hb4⟩
              unfold tkV
              have hbw : Below (wr.heap.size + 1) (wr.alloc (.cells #[.func (.func F) #[] #[], .func (.func G) #[] #[]] 54)) w4 := by
                first
                  | exact hbx.drew.trans (hb4.mono (by simp))
                  | exact (hbx.drew.alloc (by simp) _).trans (hb4.mono (by simp))
              have hz4 := hb4.size
              obtain ⟨hc4, hf4⟩ := bcell hb4
              simp only [World.size_alloc, World.size_drew] at hz4 hc4 hf4))
          all_goals
            have hbw' := huxH.out _ hbw
            clear htokH htok
            first
              | (with_reducible refine post_w (w4.alloc (.cells #[.int .i64 t.k, .string ⟨t.s.toArray⟩, .int .i64 t.n, .int .i64 t.p] 35)) (fun W => S4 W w4.heap.size (.int .i64 t.k) (.string ⟨t.s.toArray⟩) (.int .i64 t.n) (.int .i64 t.p) ∧ Below wr.heap.size wr W) ⟨S4.new _ _ _ _ _ _, hbw'.alloc hbw'.size _⟩ ?_)
              | (with_reducible refine post_w ((((w4.setCell ⟨wr.heap.size + 1, 0, none⟩ (.int .i64 t.k)).setCell ⟨wr.heap.size + 1, 1, none⟩ (.string ⟨t.s.toArray⟩)).setCell ⟨wr.heap.size + 1, 2, none⟩ (.int .i64 t.n)).setCell ⟨wr.heap.size + 1, 3, none⟩ (.int .i64 t.p)) (fun W => S4 W (wr.heap.size + 1) (.int .i64 t.k) (.string ⟨t.s.toArray⟩) (.int .i64 t.n) (.int .i64 t.p) ∧ Below wr.heap.size wr W) ⟨S4.put (S4.of (by have := S4.new (wr.alloc (.cells #[.func (.func F) #[] #[], .func (.func G) #[] #[]] 54)) (.int .i64 0) (.string ⟨#[]⟩) (.int .i64 0) (.int .i64 0) 35; rw [World.size_alloc] at this; exact this.drew) hb4 (by simp)) _ _ _ _, (((hbw'.setCell (Nat.le_succ _) _).setCell (Nat.le_succ _) _).setCell (Nat.le_succ _) _).setCell (Nat.le_succ _) _⟩ ?_)
            clear hb4 hc4 hf4 hbx hbw hbw'
            rintro WW ⟨⟨c0, c1, c2, c3⟩, hfb⟩
            obtain ⟨hk1, hk2⟩ := tkOf_kind ht
            have htw := hto.below hfb
            have hbW := hb.trans (hfb.mono (by omega))
            have hzW := hbW.size
            clear hfb hto hb ht
            go_wp2_with (at_builtin; refine app_tok rfl _ _ rfl (g + 1) _ m rfl htw t rfl (by omega) (by omega) ?_; intro v' w5 hto5 hb5 hz5)
            go_roundw
            case rel => exact ⟨k + n, m ++ [t], by omega, by go_num, by simp; omega, by have := hstep.out; rw [Option.toList_some] at this; exact this, hto5, hbW.trans hb5⟩
            case measure => simp [intOf]; omega
    · have hks : k = s.size := by omega
      have hfin : Hid (lexL s.data.toList = .ok m) := at_end he.out (by rw [hlen.out]; omega)
      go_wp2_with fail
      go_ret
      show ScanPost _ _ _ _
      rw [ScanPost, hfin.out]
      exact ⟨_, rfl, hto.mono (by omega), hb2H.out.trans (hb.mono (by omega))⟩
end Go.Proofs.YtndfchnmajfmiaaDoor
