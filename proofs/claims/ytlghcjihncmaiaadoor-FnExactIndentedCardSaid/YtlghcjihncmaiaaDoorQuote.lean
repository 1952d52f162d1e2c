/-
  What is proved: for any text the program's Quote answers as the model's Quote does: empty when it is not right; else its bytes between two marks, with a stroke ahead of a mark or a stroke.
-/
import Derived.Test.YtlghcjihncmaiaaDoorQuoteS
namespace Go.Proofs.YtlghcjihncmaiaaDoor
open Go Go.RowKit

set_option maxRecDepth 100000 in
set_option maxHeartbeats 1000000 in
theorem impl_quote (s : ByteArray) (hm : s.size ≤ maxLen) (w : World) :
    Calls Tryd.prog 47 #[.string s] w fun e w' => e = .returned (.string (quoteT s)) ∧ Below w.heap.size w w' := by
  by_cases hok : textOk s = true
  · have hlen : s.size ≤ 400 := by
      unfold textOk at hok
      simp only [Bool.and_eq_true, decide_eq_true_eq] at hok
      exact hok.1
    have hq : Hid (quoteT s = ⟨(quoteL s.data.toList).toArray⟩) := if_pos hok
    have HT : Hid (∀ (wr : World) (v : Value) (l : List UInt8), Byts w wr v l → (convert 41 9 v).run Tryd.prog wr = .ok (.string ⟨l.toArray⟩) wr) := fun wr v l h => h.text
    have t1 : True := trivial
    go_enter Tryd.func47, Tryd.ntmps47
    go_wp2_with (first
      | (go_at_call 56; refine (impl_textOk s hm _).mono ?_; rintro e w1 ⟨rfl, hb1⟩; subst w1; rw [hok]; clear t1)
      | fail)
    unfold maxLen at hm
    go_loopw [3, 11] (fun v q wr => ∃ (k n : Nat) (o : Option Addr) (c : Nat), k ≤ s.size ∧ n ≤ 1 + 2 * k ∧ v = .slice o n c ∧ q = .int .i64 k ∧ Hid (∃ l : List UInt8, l = [34] ++ escAll (s.data.toList.take k) ∧ l.length = n ∧ Byts w wr (.slice o n c) l ∧ Below w.heap.size w wr)) (fun _ q _ => s.size - (intOf q).toNat)
    case atStart => exact ⟨0, 1, _, 1, Nat.zero_le _, by omega, rfl, rfl, [34], rfl, rfl, Byts.one (Nat.le_refl _) 34, (Below.refl _ w).alloc (Nat.le_refl _) _⟩
    case round =>
      obtain ⟨k, n, o, c, hk, hn, rfl, rfl, hr⟩ := hrel
      obtain ⟨l, hl, hln, hby, hbl⟩ := hr.out
      subst hln
      have HB := Lib.hid (And.intro hby hbl)
      have HLL := Lib.hid hl
      clear hby hbl hr hl
      by_cases hlt : k < s.size
      · have HL : Hid (l ++ esc s[k] = [34] ++ escAll (s.data.toList.take (k + 1))) := by
          show _ = _
          rw [escAll_take hlt, HLL.out, List.append_assoc]
        have hlt' : (k : Int) < (s.size : Int) := by omega
        have t2 : True := trivial
        have HM : Hid (∀ (wr1 : World) (o1 : Option Addr) (n1 c1 : Nat) (l1 : List UInt8) (z : Int) (b : UInt8), z = b.toNat → l1.length = n1 → Byts w wr1 (.slice o1 n1 c1) l1 → Below w.heap.size w wr1 → n1 ≤ 1000 → ∀ ty, ∃ v' w', (Builtin.append_ #[41, 41] ty #[.slice o1 n1 c1, .slice (some ⟨wr1.heap.size, 0, none⟩) 1 1]).run Tryd.prog (wr1.alloc (.cells #[.int .u8 z] 5)) = .ok v' w' ∧ ∃ o' c', v' = .slice o' (n1 + 1) c' ∧ Byts w w' (.slice o' (n1 + 1) c') (l1 ++ [b]) ∧ Below w.heap.size w w') := fun wr1 o1 n1 c1 l1 z b hz hn1 h1 h2 h3 ty => by
          subst hn1 hz
          obtain ⟨v', w', g1, o', c', g2, g3, g4⟩ := h1.more h2.size b (by omega) ty
          exact ⟨v', w', g1, o', c', g2, g3, h2.trans g4⟩
        obtain ⟨b, hb⟩ : ∃ b : UInt8, s[k] = b := ⟨_, rfl⟩
        rw [hb] at HL
        by_cases hq : b = 34 ∨ b = 92
        · have HE : Hid (esc b = [92, b]) := if_pos hq
          have HL2 : Hid ((l ++ [92]) ++ [b] = [34] ++ escAll (s.data.toList.take (k + 1))) := by
            have h1 := HL.out
            rw [HE.out] at h1
            show _ = _
            rw [← h1]
            simp
          clear HL HE
          rcases hq with hq | hq
          · subst hq
            have e1 : ((s[k].toNat : Int) == 34) = true := by rw [hb]; rfl
            go_wp2_with (first
              | (at_builtin; clear t2; refine list_append rfl _ _ 41 rfl _ _ rfl rfl (HM.out _ o l.length c l 92 92 rfl rfl HB.out.1 HB.out.2 (by omega) _) ?_; rintro v2 w2 ⟨o2, c2, rfl, h1, h2⟩; have H2 := Lib.hid (And.intro h1 h2); clear h1 h2)
              | (at_builtin; refine list_append rfl _ _ 41 rfl _ _ rfl rfl (HM.out _ o2 (l.length + 1) c2 (l ++ [92]) 34 34 rfl (by simp) H2.out.1 H2.out.2 (by omega) _) ?_; rintro v3 w3 ⟨o3, c3, rfl, h1, h2⟩; have H3 := Lib.hid (And.intro h1 h2); clear h1 h2)
              | fail)
            exact ⟨⟨k + 1, l.length + 1 + 1, o3, c3, hlt, by omega, rfl, by go_num, _, HL2.out, by simp, H3.out.1, H3.out.2⟩, by simp [intOf]; omega⟩
          · subst hq
            have e1 : ((s[k].toNat : Int) == 34) = false := by rw [hb]; rfl
            have e2 : ((s[k].toNat : Int) == 92) = true := by rw [hb]; rfl
            go_wp2_with (first
              | (at_builtin; clear t2; refine list_append rfl _ _ 41 rfl _ _ rfl rfl (HM.out _ o l.length c l 92 92 rfl rfl HB.out.1 HB.out.2 (by omega) _) ?_; rintro v2 w2 ⟨o2, c2, rfl, h1, h2⟩; have H2 := Lib.hid (And.intro h1 h2); clear h1 h2)
              | (at_builtin; refine list_append rfl _ _ 41 rfl _ _ rfl rfl (HM.out _ o2 (l.length + 1) c2 (l ++ [92]) 92 92 rfl (by simp) H2.out.1 H2.out.2 (by omega) _) ?_; rintro v3 w3 ⟨o3, c3, rfl, h1, h2⟩; have H3 := Lib.hid (And.intro h1 h2); clear h1 h2)
              | fail)
            exact ⟨⟨k + 1, l.length + 1 + 1, o3, c3, hlt, by omega, rfl, by go_num, _, HL2.out, by simp, H3.out.1, H3.out.2⟩, by simp [intOf]; omega⟩
        · have HE : Hid (esc b = [b]) := if_neg hq
          have e1 : ((b.toNat : Int) == 34) = false := by simpa using u8_ne (fun h => hq (.inl h))
          have e2 : ((b.toNat : Int) == 92) = false := by simpa using u8_ne (fun h => hq (.inr h))
          go_wp2_with (first
            | (at_builtin; refine list_append rfl _ _ 41 rfl _ _ rfl rfl (HM.out _ o l.length c l _ b rfl rfl HB.out.1 HB.out.2 (by omega) _) ?_; rintro v2 w2 ⟨o2, c2, rfl, h1, h2⟩; have H2 := Lib.hid (And.intro h1 h2); clear h1 h2)
            | fail)
          have HF : Hid (l ++ [b] = [34] ++ escAll (s.data.toList.take (k + 1))) := by
            have h1 := HL.out
            rw [HE.out] at h1
            exact h1
          exact ⟨⟨k + 1, l.length + 1, o2, c2, hlt, by omega, rfl, by go_num, l ++ [b], HF.out, by simp, H2.out.1, H2.out.2⟩, by simp [intOf]; omega⟩
      · have e : k = s.size := by omega
        subst e
        have HM : Hid (∀ ty, ∃ v' w', (Builtin.append_ #[41, 41] ty #[.slice o l.length c, .slice (some ⟨wr.heap.size, 0, none⟩) 1 1]).run Tryd.prog (wr.alloc (.cells #[.int .u8 34] 5)) = .ok v' w' ∧ ∃ o' c', v' = .slice o' (l.length + 1) c' ∧ Byts w w' (.slice o' (l.length + 1) c') (l ++ [34]) ∧ Below w.heap.size w w') := fun ty => by
          obtain ⟨v', w', g1, o', c', g2, g3, g4⟩ := HB.out.1.more HB.out.2.size 34 (by omega) ty
          exact ⟨v', w', g1, o', c', g2, g3, HB.out.2.trans g4⟩
        have HQ : Hid (quoteT s = ⟨(l ++ [34]).toArray⟩) := by
          have h1 := hq.out
          have h2 := HLL.out
          rw [List.take_of_length_le (by simp)] at h2
          show _ = _
          rw [h1, h2]
          rfl
        go_wp2_with (first
          | (at_builtin; refine list_append rfl _ _ 41 rfl _ _ rfl rfl (HM.out _) ?_; rintro v2 w2 ⟨o2, c2, rfl, h1, h2⟩; have H2 := Lib.hid (And.intro h1 h2); have ht := HT.out _ _ _ h1; clear h1 h2)
          | fail)
        go_ret
        exact ⟨by rw [HQ.out]; rfl, H2.out.2⟩
  · have hq : Hid (quoteT s = ⟨#[]⟩) := if_neg hok
    have hok' : textOk s = false := by simpa using hok
    go_enter Tryd.func47, Tryd.ntmps47
    go_wp2_with (first
      | (go_at_call 56; refine (impl_textOk s hm _).mono ?_; rintro e w1 ⟨rfl, hb1⟩; subst w1; rw [hok'])
      | fail)
    go_ret
    exact ⟨by rw [hq.out]; rfl, Below.refl _ _⟩

end Go.Proofs.YtlghcjihncmaiaaDoor
