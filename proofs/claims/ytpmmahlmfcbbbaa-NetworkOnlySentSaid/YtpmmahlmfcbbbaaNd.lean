/- Networks: plainly, and how they read in memory. -/
import Derived.Test.YtpmmahlmfcbbbaaDk
namespace Go.Proofs.Ytpmmahlmfcbbbaa
open Go.RowKit

structure Pk where
  frm : Int
  to : Int
  data : List UInt8
structure Nt where
  q : List Pk
  ap : List (Int × Int)
def zeroPk : Pk := ⟨0, 0, []⟩
def zeroNt : Nt := ⟨[], []⟩
def isP (k : Int) : Bool := decide (0 ≤ k) && decide (k < 24)
def areP (a b : Int) : Bool := isP a && isP b && (a != b)
def pkB (p : Pk) : Bool := areP p.frm p.to && decide (p.data.length ≤ 1048576)
def ltP (x y : Int × Int) : Bool := decide (x.1 < y.1) || (decide (x.1 = y.1) && decide (x.2 < y.2))
def okP (x : Int × Int) : Bool := isP x.1 && isP x.2 && decide (x.1 < x.2)
def apAt (l : List (Int × Int)) (i : Nat) : Bool := okP (l.getD i (0, 0)) && (decide (i = 0) || ltP (l.getD (i - 1) (0, 0)) (l.getD i (0, 0)))
def apB (l : List (Int × Int)) : Bool := (List.range l.length).all (apAt l)
def ntB (n : Nt) : Bool := decide (n.q.length ≤ 4096) && apB n.ap && n.q.all pkB
def nchk (n : Nt) : Int := if ntB n = true then 0 else 60
def linkP (a b : Int) : Int × Int := (min a b, max a b)
def sendN (n : Nt) (p : Pk) : Nt × Int := if (ntB n && pkB p) = false then (zeroNt, 60) else if n.q.length = 4096 then (zeroNt, 2) else (⟨n.q ++ [p], n.ap⟩, 0)
def findN (n : Nt) (i : Int) : Int := if ntB n = false then 60 else if i < 0 ∨ (n.q.length : Int) ≤ i then 1 else 0
def loseN (n : Nt) (i : Int) : Nt × Int := if findN n i ≠ 0 then (zeroNt, findN n i) else (⟨n.q.take i.toNat ++ n.q.drop (i.toNat + 1), n.ap⟩, 0)
def cutB (n : Nt) (a b : Int) : Bool := n.ap.contains (linkP a b)
def atN (n : Nt) (i : Int) : Pk := n.q.getD i.toNat zeroPk
def delivN (n : Nt) (i : Int) : Pk := if findN n i ≠ 0 then zeroPk else if cutB n (atN n i).frm (atN n i).to = true then zeroPk else atN n i
def repN (n : Nt) (i : Int) : Nt × Int := if findN n i ≠ 0 then (zeroNt, findN n i) else if n.q.length = 4096 then (zeroNt, 2) else (⟨n.q ++ [atN n i], n.ap⟩, 0)
/-- All links, in their order. -/
def links : List (Int × Int) := (List.range 24).flatMap fun x => ((List.range 24).filter fun y => decide (x < y)).map fun (y : Nat) => ((x : Int), (y : Int))
def cutL (l : List (Int × Int)) (k : Int × Int) (on : Bool) : List (Int × Int) := links.filter fun x => if x = k then on else l.contains x
def cutN (n : Nt) (a b : Int) (on : Bool) : Nt × Int := if ntB n = false then (zeroNt, 60) else if areP a b = false then (zeroNt, 1) else (⟨n.q, cutL n.ap (linkP a b) on⟩, 0)

theorem isP_iff {k : Int} : isP k = true ↔ 0 ≤ k ∧ k < 24 := by unfold isP; simp
theorem areP_iff {a b : Int} : areP a b = true ↔ (0 ≤ a ∧ a < 24) ∧ (0 ≤ b ∧ b < 24) ∧ a ≠ b := by unfold areP isP; simp [and_assoc]
theorem pkB_iff {p : Pk} : pkB p = true ↔ areP p.frm p.to = true ∧ p.data.length ≤ 1048576 := by unfold pkB; simp
theorem okP_iff {x : Int × Int} : okP x = true ↔ (0 ≤ x.1 ∧ x.1 < 24) ∧ (0 ≤ x.2 ∧ x.2 < 24) ∧ x.1 < x.2 := by unfold okP isP; simp [and_assoc]
theorem ltP_iff {x y : Int × Int} : ltP x y = true ↔ x.1 < y.1 ∨ (x.1 = y.1 ∧ x.2 < y.2) := by unfold ltP; simp
theorem ntB_iff {n : Nt} : ntB n = true ↔ n.q.length ≤ 4096 ∧ apB n.ap = true ∧ n.q.all pkB = true := by unfold ntB; simp only [Bool.and_eq_true, decide_eq_true_eq, and_assoc]
theorem nchk_eq (n : Nt) : (ntB n = true ∧ nchk n = 0) ∨ (ntB n = false ∧ nchk n = 60) := by
  unfold nchk
  cases ntB n with
  | true => exact .inl ⟨rfl, rfl⟩
  | false => exact .inr ⟨rfl, rfl⟩

/-! Readings; S: which blocks may be read. -/
/-- Packets. -/
def QR (w : World) (S : Nat → Prop) (A : Option Addr) (ps : List Pk) : Prop :=
  0 < ps.length → ∃ b off, A = some ⟨b, off, none⟩ ∧ S b ∧ ∀ i (h : i < ps.length), ∃ v, w.cell? ⟨b, off + i * 3, none⟩ = some (.int .i64 ps[i].frm) ∧ w.cell? ⟨b, off + i * 3 + 1, none⟩ = some (.int .i64 ps[i].to) ∧ w.cell? ⟨b, off + i * 3 + 2, none⟩ = some v ∧ Row w S v ps[i].data ∧ I64 ps[i].frm ∧ I64 ps[i].to
/-- Links. -/
def LR (w : World) (S : Nat → Prop) (A : Option Addr) (ls : List (Int × Int)) : Prop :=
  0 < ls.length → ∃ b off, A = some ⟨b, off, none⟩ ∧ S b ∧ ∀ i (h : i < ls.length), w.cell? ⟨b, off + i * 2, none⟩ = some (.int .i64 ls[i].1) ∧ w.cell? ⟨b, off + i * 2 + 1, none⟩ = some (.int .i64 ls[i].2) ∧ I64 ls[i].1 ∧ I64 ls[i].2
structure NR (w : World) (S : Nat → Prop) (A : Option Addr) (c : Nat) (A' : Option Addr) (c' : Nat) (n : Nt) : Prop where
  cap : n.q.length ≤ c
  max : c ≤ maxLen
  cap' : n.ap.length ≤ c'
  max' : c' ≤ maxLen
  q : QR w S A n.q
  ap : LR w S A' n.ap

theorem QR.keep {w w' : World} {S : Nat → Prop} {A : Option Addr} {ps : List Pk} (hk : Kept S w w') (h : QR w S A ps) : QR w' S A ps := fun hp => by
  obtain ⟨b, off, e, hs, hc⟩ := h hp
  refine ⟨b, off, e, hs, fun i hi => ?_⟩
  obtain ⟨v, h0, h1, h2, h3, h4, h5⟩ := hc i hi
  exact ⟨v, (hk _ _ hs).trans h0, (hk _ _ hs).trans h1, (hk _ _ hs).trans h2, h3.keep hk, h4, h5⟩
theorem QR.mono {w : World} {S S' : Nat → Prop} (hS : ∀ b, S b → S' b) {A : Option Addr} {ps : List Pk} (h : QR w S A ps) : QR w S' A ps := fun hp => by
  obtain ⟨b, off, e, hs, hc⟩ := h hp
  refine ⟨b, off, e, hS b hs, fun i hi => ?_⟩
  obtain ⟨v, h0, h1, h2, h3, h4⟩ := hc i hi
  exact ⟨v, h0, h1, h2, h3.mono hS, h4⟩
theorem LR.keep {w w' : World} {S : Nat → Prop} {A : Option Addr} {ls : List (Int × Int)} (hk : Kept S w w') (h : LR w S A ls) : LR w' S A ls := fun hp => by
  obtain ⟨b, off, e, hs, hc⟩ := h hp
  refine ⟨b, off, e, hs, fun i hi => ?_⟩
  obtain ⟨h0, h1, h2⟩ := hc i hi
  exact ⟨(hk _ _ hs).trans h0, (hk _ _ hs).trans h1, h2⟩
theorem LR.mono {w : World} {S S' : Nat → Prop} (hS : ∀ b, S b → S' b) {A : Option Addr} {ls : List (Int × Int)} (h : LR w S A ls) : LR w S' A ls := fun hp => by
  obtain ⟨b, off, e, hs, hc⟩ := h hp
  exact ⟨b, off, e, hS b hs, hc⟩
theorem NR.keep {w w' : World} {S : Nat → Prop} {A A' : Option Addr} {c c' : Nat} {n : Nt} (hk : Kept S w w') (h : NR w S A c A' c' n) : NR w' S A c A' c' n := ⟨h.cap, h.max, h.cap', h.max', h.q.keep hk, h.ap.keep hk⟩
theorem NR.mono {w : World} {S S' : Nat → Prop} (hS : ∀ b, S b → S' b) {A A' : Option Addr} {c c' : Nat} {n : Nt} (h : NR w S A c A' c' n) : NR w S' A c A' c' n := ⟨h.cap, h.max, h.cap', h.max', h.q.mono hS, h.ap.mono hS⟩
theorem NR.step {w w' : World} {A A' : Option Addr} {c c' : Nat} {n : Nt} (h : NR w (· < w.heap.size) A c A' c' n) (hb : Below w.heap.size w w') : NR w' (· < w'.heap.size) A c A' c' n := (h.keep (Kept.below hb)).mono fun _ hlt => Nat.lt_of_lt_of_le hlt hb.size
theorem QR.at_ {w : World} {S : Nat → Prop} {A : Option Addr} {ps : List Pk} (h : QR w S A ps) {i : Nat} (hi : i < ps.length) :
    ∃ b off A1 c1, A = some ⟨b, off, none⟩ ∧ S b ∧ w.cell? ⟨b, off + i * 3, none⟩ = some (.int .i64 ps[i].frm) ∧ w.cell? ⟨b, off + i * 3 + 1, none⟩ = some (.int .i64 ps[i].to) ∧ w.cell? ⟨b, off + i * 3 + 2, none⟩ = some (.slice A1 ps[i].data.length c1) ∧ ps[i].data.length ≤ c1 ∧ c1 ≤ maxLen ∧ RBs w S A1 ps[i].data ∧ I64 ps[i].frm ∧ I64 ps[i].to := by
  obtain ⟨b, off, e, hs, hc⟩ := h (by omega)
  obtain ⟨v, h0, h1, h2, ⟨A1, c1, rfl, h3, h4, h5⟩, h6⟩ := hc i hi
  exact ⟨b, off, A1, c1, e, hs, h0, h1, h2, h3, h4, h5, h6⟩
theorem LR.at_ {w : World} {S : Nat → Prop} {A : Option Addr} {ls : List (Int × Int)} (h : LR w S A ls) {i : Nat} (hi : i < ls.length) :
    ∃ b off, A = some ⟨b, off, none⟩ ∧ S b ∧ w.cell? ⟨b, off + i * 2, none⟩ = some (.int .i64 ls[i].1) ∧ w.cell? ⟨b, off + i * 2 + 1, none⟩ = some (.int .i64 ls[i].2) ∧ I64 ls[i].1 ∧ I64 ls[i].2 := by
  obtain ⟨b, off, e, hs, hc⟩ := h (by omega)
  obtain ⟨h0, h1, h2⟩ := hc i hi
  exact ⟨b, off, e, hs, h0, h1, h2⟩
theorem QR.nil (w : World) (S : Nat → Prop) (A : Option Addr) : QR w S A [] := fun h => absurd h (Nat.lt_irrefl 0)
theorem LR.nil (w : World) (S : Nat → Prop) (A : Option Addr) : LR w S A [] := fun h => absurd h (Nat.lt_irrefl 0)
theorem NR.zero (w : World) (S : Nat → Prop) : NR w S none 0 none 0 zeroNt := ⟨Nat.le_refl _, Nat.zero_le _, Nat.le_refl _, Nat.zero_le _, QR.nil _ _ _, LR.nil _ _ _⟩

/-- What was read, and what is new. -/
def Sn (S : Nat → Prop) (w w' : World) (b : Nat) : Prop := S b ∨ (w.heap.size ≤ b ∧ b < w'.heap.size)
theorem Sn.lt {S : Nat → Prop} {w w' : World} (hS : ∀ b, S b → b < w.heap.size) (hb : Below w.heap.size w w') (b : Nat) (h : Sn S w w' b) : b < w'.heap.size := by
  rcases h with h | h
  · exact Nat.lt_of_lt_of_le (hS b h) hb.size
  · exact h.2
theorem Kept.of {S : Nat → Prop} {B : Nat} {w w' : World} (hS : ∀ b, S b → b < B) (hb : Below B w w') : Kept S w w' := fun b o h => hb.cell (p := ⟨b, o, none⟩) (hS b h)
theorem Kept.set {S : Nat → Prop} {w : World} {x o : Nat} {v : Value} (h : ∀ b, S b → b ≠ x) : Kept S w (w.setCell ⟨x, o, none⟩ v) := fun b _ hb =>
  World.cell?_of_block (heap_setCell_other w ⟨x, o, none⟩ b v (h b hb))
/-- What a function gives that hands back links. -/
def NtPost (S : Nat → Prop) (x : Nt × Int) (w : World) (e : Ending) (w' : World) : Prop :=
  Below w.heap.size w w' ∧ ∃ A c A' c', e = .returned (.tuple #[.agg #[.slice A x.1.q.length c, .slice A' x.1.ap.length c'], .int .i64 x.2]) ∧ NR w' (Sn S w w') A c A' c' x.1
theorem NtPost.of {S : Nat → Prop} {x : Nt × Int} {y : Nt} {m : Int} {w w' : World} {e : Ending} (h : x = (y, m)) (hb : Below w.heap.size w w') (A : Option Addr) (c : Nat) (A' : Option Addr) (c' : Nat)
    (he : e = .returned (.tuple #[.agg #[.slice A y.q.length c, .slice A' y.ap.length c'], .int .i64 m])) (hd : NR w' (Sn S w w') A c A' c' y) : NtPost S x w e w' := by
  subst h; exact ⟨hb, A, c, A', c', he, hd⟩
theorem NtPost.get {S : Nat → Prop} {x : Nt × Int} {w w' : World} {e : Ending} (p : NtPost S x w e w') :
    ∃ A c A' c', e = .returned (.tuple #[.agg #[.slice A x.1.q.length c, .slice A' x.1.ap.length c'], .int .i64 x.2]) ∧ NR w' (Sn S w w') A c A' c' x.1 ∧ Below w.heap.size w w' := by
  obtain ⟨hb, A, c, A', c', he, hd⟩ := p
  exact ⟨A, c, A', c', he, hd, hb⟩
theorem NtPost.fail {S : Nat → Prop} {x : Nt × Int} {m : Int} {w w' : World} {e : Ending} (h : x = (zeroNt, m)) (hb : Below w.heap.size w w')
    (he : e = .returned (.tuple #[.agg #[.slice none 0 0, .slice none 0 0], .int .i64 m])) : NtPost S x w e w' :=
  NtPost.of h hb none 0 none 0 he (NR.zero _ _)
theorem NR.upw {S : Nat → Prop} {w0 w1 : World} {A A' : Option Addr} {c c' : Nat} {n : Nt} (h : NR w0 S A c A' c' n) (hS : ∀ b, S b → b < w0.heap.size) (hb : Below w0.heap.size w0 w1) : NR w1 (Sn S w0 w1) A c A' c' n := (h.keep (Kept.of hS hb)).mono fun _ hs => .inl hs
theorem blk_step {w w' : World} {g : Nat} {o : Obj} (h : w.heap[g]? = some o) (hb : Below w.heap.size w w') : w'.heap[g]? = some o := (hb.block g (Array.getElem?_eq_some_iff.1 h).1).trans h
/-- The box of links. -/
theorem box2 {w wr : World} {x0 x1 : Value} {t : TypeId} (hb : Below (w.heap.size + 1) (w.alloc (.cells #[x0, x1] t)) wr) :
    wr.cell? ⟨w.heap.size, 0, none⟩ = some x0 ∧ wr.cell? ⟨w.heap.size, 1, none⟩ = some x1 := by
  refine ⟨?_, ?_⟩ <;> (rw [hb.cell (by simp), World.cell?_alloc_at _ _ _ _ rfl]; rfl)
theorem box3 {w wr : World} {x0 x1 x2 : Value} {t : TypeId} (hb : Below (w.heap.size + 1) (w.alloc (.cells #[x0, x1, x2] t)) wr) :
    wr.cell? ⟨w.heap.size, 0, none⟩ = some x0 ∧ wr.cell? ⟨w.heap.size, 1, none⟩ = some x1 ∧ wr.cell? ⟨w.heap.size, 2, none⟩ = some x2 := by
  refine ⟨?_, ?_, ?_⟩ <;> (rw [hb.cell (by simp), World.cell?_alloc_at _ _ _ _ rfl]; rfl)
end Go.Proofs.Ytpmmahlmfcbbbaa
