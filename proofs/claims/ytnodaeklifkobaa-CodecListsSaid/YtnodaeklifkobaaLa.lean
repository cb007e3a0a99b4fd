/- CodecNumbers: the law. -/
import Derived.Test.YtnodaeklifkobaaSa
import Derived.Test.YtnodaeklifkobaaFw
import Derived.Test.YtnodaeklifkobaaRs
namespace Go.Proofs.Ytnodaeklifkobaa
open Go.RowKit

theorem OB.conv {w : World} {B : Nat} {a : Option Addr} {n c : Nat} {l : List UInt8} (h : OB w B (.slice a n c) l) : (convert 27 9 (.slice a n c)).run Try.prog w = .ok (.string ⟨l.toArray⟩) w := by
  obtain ⟨h1, h2, _⟩ := h.reads
  rw [h2]
  exact conv_str h1

set_option maxRecDepth 100000 in
set_option maxHeartbeats 3200000 in
theorem numbers_any (a b : Int) (ha : I64 a) (hb : I64 b) (w : World) : Calls Try.prog 9 #[.int .i64 a, .int .i64 b] w fun e w' => e = .returned (.bool true) ∧ Below w.heap.size w w' := by
  have hua := uns_range ha
  have hub := uns_range hb
  have h1 := digs_pos (uns a).toNat
  have h2 := digs_pos (uns b).toNat
  have h3 := digs_le10 (uns a).toNat (by omega)
  have h4 := digs_le10 (uns b).toNat (by omega)
  have hea : Hid ((encB (intG a)).length = (digs (uns a).toNat).length + 1) := by rw [encB_int]; rfl
  have heb : Hid ((encB (intG b)).length = (digs (uns b).toNat).length + 1) := by rw [encB_int]; rfl
  have hba : Hid (big (intG a) ≤ 1000000) := by rw [big_int]; show 1 ≤ 1000000; omega
  have hbb : Hid (big (intG b) ≤ 1000000) := by rw [big_int]; show 1 ≤ 1000000; omega
  have hdec : Hid (dec (encB (intG a)) = some (intG a)) := by
    rw [encB, if_pos (chk_int a)]
    exact dec_enc hba.out (RV.int (w := w) (B := 0) ha).nums (chk_int a)
  have hlen : Hid ((encB (intG a)).length ≤ 1000000) := by rw [hea.out]; show _ ≤ _; omega
  have hm1 : 0 ≤ a → a ≤ b → (digs (uns a).toNat).length ≤ (digs (uns b).toNat).length := fun h h' => digs_mono 9 _ _ (by omega) (by unfold uns; rw [if_pos h, if_pos (by omega)]; omega)
  have hm2 : a < 0 → b ≤ a → (digs (uns a).toNat).length ≤ (digs (uns b).toNat).length := fun h h' => digs_mono 9 _ _ (by omega) (by unfold uns; rw [if_neg (by omega), if_neg (by omega)]; omega)
  have hcase : (0 ≤ a ∧ a ≤ b ∧ (digs (uns a).toNat).length ≤ (digs (uns b).toNat).length) ∨ (0 ≤ a ∧ b < a) ∨ (a < 0 ∧ b ≤ a ∧ (digs (uns a).toNat).length ≤ (digs (uns b).toNat).length) ∨ (a < 0 ∧ a < b) := by
    by_cases g1 : 0 ≤ a
    · by_cases g2 : a ≤ b
      · exact .inl ⟨g1, g2, hm1 g1 g2⟩
      · exact .inr (.inl ⟨g1, by omega⟩)
    · by_cases g2 : b ≤ a
      · exact .inr (.inr (.inl ⟨by omega, g2, hm2 (by omega) g2⟩))
      · exact .inr (.inr (.inr ⟨by omega, by omega⟩))
  clear hm1 hm2 hua hub
  generalize (digs (uns a).toNat).length = La at *
  generalize (digs (uns b).toNat).length = Lb at *
  have hW : ∀ W W' : World, True := fun _ _ => trivial
  clear hW
  go_enter Try.func9, Try.ntmps9
  go_wp2_with fail
  refine (sane_any _).mono ?_
  rintro e w1 ⟨rfl, hb1⟩
  go_wp2_with fail
  refine (Int_any a _).mono ?_
  rintro e w2 ⟨rfl, hb2⟩
  have hB2 := hb1.trans (hb2.mono hb1.size)
  go_wp2_with fail
  refine (Size_any (intG a) hba.out _ 0 _ (Nat.zero_le _) (RV.int ha)).mono ?_
  rintro e w3 ⟨rfl, hb3⟩
  have hB3 := hB2.trans (hb3.mono hB2.size)
  rw [hea.out, chk_int]
  go_wp2_with fail
  refine (Int_any b _).mono ?_
  rintro e w4 ⟨rfl, hb4⟩
  have hB4 := hB3.trans (hb4.mono hB3.size)
  go_wp2_with fail
  refine (Size_any (intG b) hbb.out _ 0 _ (Nat.zero_le _) (RV.int hb)).mono ?_
  rintro e w5 ⟨rfl, hb5⟩
  have hB5 := hB4.trans (hb5.mono hB4.size)
  rw [heb.out, chk_int]
  clear hb1 hb2 hb3 hb4 hb5 hB2 hB3 hB4
  rcases hcase with ⟨g1, g2, g3⟩ | ⟨g1, g2⟩ | ⟨g1, g2, g3⟩ | ⟨g1, g2⟩
  all_goals
    go_wp2_with fail
    refine (Int_any a _).mono ?_
    rintro e w6 ⟨rfl, hb6⟩
    have hB6 := hB5.trans (hb6.mono hB5.size)
    go_wp2_with fail
    refine (Encode_any (intG a) hba.out _ 0 _ (Nat.zero_le _) (RV.int ha)).mono ?_
    rintro e w7 ⟨v7, rfl, ho7, hb7⟩
    have hB7 := hB6.trans (hb7.mono hB6.size)
    obtain ⟨a7, c7, rfl⟩ := ho7.len
    rw [chk_int]
    go_wp2_with fail
    refine (Decode_any (encB (intG a)) hlen.out _ a7 c7 ho7.reads.2.2 ho7.reads.1).mono ?_
    intro e w8 hpost
    rw [DecPost, hdec.out] at hpost
    obtain ⟨v8, rfl, hv8, hb8⟩ := hpost
    have hB8 := hB7.trans (hb8.mono hB7.size)
    obtain ⟨a8, c8, h8, -⟩ := hv8.parts
    have h8' : v8 = .agg #[.int .i64 1, .int .i64 a, .string ⟨#[]⟩, .slice a8 0 c8] := h8
    subst h8'
    clear h8 hv8 hb8 hb7 hb6 ho7 hB5 hB6 hB7
    go_wp2_with fail
    go_ret
    exact ⟨rfl, hB8.alloc hB8.size _⟩
end Go.Proofs.Ytnodaeklifkobaa
