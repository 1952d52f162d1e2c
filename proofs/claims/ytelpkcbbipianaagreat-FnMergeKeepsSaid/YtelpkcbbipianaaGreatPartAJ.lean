/-
  What is proved: the model's Set answers the map with the tree at its key (the tree itself, where it is no map), in memory of its own.; the model's l7Map makes of keys and trees the map that comes of setting each in its turn, in memory of its own; the kinds' words; no condition but how great the trees are.; plain facts on Keys that ascend: one that stands behind others is above them all, so it is not among them, and it comes to stand at their end.; plain facts on Keys that ascend: set one behind the other they stand as they were.
-/
import Derived.Test.YtelpkcbbipianaaGreatPartAI
import Derived.Test.YtelpkcbbipianaaGreatPartAD
import Derived.Test.YtelpkcbbipianaaGreatPartAH
import Derived.Test.YtelpkcbbipianaaGreatPartAA
import Derived.Deep.DeepCutAuto
import Derived.Sort.Walk0
/- the model's Set answers the map with the tree at its key (the tree itself, where it is no map), in memory of its own. -/
namespace Go.Proofs.YtelpkcbbipianaaGreat
open Go Go.RowKit

set_option maxRecDepth 100000 in
set_option maxHeartbeats 4000000 in
theorem spec_set (T X : RT) (key : ByteArray) (w : World) (kv dv kx dx : Value) (F FX : List Nat) (hl : Lies w T kv dv F) (hx : Lies w X kx dx FX) (hT : T.sz ≤ 4000000) (hX : X.sz ≤ 4000000) (hk : key.size ≤ maxLen) :
    Calls Tryz.prog 40 #[T.val kv dv, .string key, X.val kx dx] w fun e w' => ∃ kv' dv' F', e = .returned ((setT T key X).val kv' dv') ∧ Lies w' (setT T key X) kv' dv' F' ∧ Fresh w w' F' ∧ Below w.heap.size w w' := by
  have HX := Lib.hid (SBox.start w (.int .i64 T.k) (.int .i64 T.n) (.string T.s) kv dv (.int .i64 X.k) (.int .i64 X.n) (.string X.s) kx dx)
  have HC := Lib.hid (fun (w1 : World) (hb : Below w.heap.size w w1) => scopy_node T w1 kv dv F (hl.stay hb (Nat.le_refl _)) hT)
  have HCX := Lib.hid (fun (w1 : World) (hb : Below w.heap.size w w1) => scopy_node X w1 kx dx FX (hx.stay hb (Nat.le_refl _)) hX)
  have HF := Lib.hid hl.out
  have HFit : Hid (Fit T.k ∧ Fit T.n ∧ T.s.size ≤ maxLen) := ⟨hl.out.1, hl.out.2.1, hl.out.2.2.1⟩
  have HL := Lib.hid (hl)
  obtain ⟨⟨o1, q1, rfl⟩, ⟨o2, q2, rfl⟩⟩ := hl.slices
  obtain ⟨⟨p1, r1, rfl⟩, ⟨p2, r2, rfl⟩⟩ := hx.slices
  have HK := Lib.hid hk
  clear hl hx hk
  show Calls Tryz.prog 40 #[.agg #[.int .i64 T.k, .int .i64 T.n, .string T.s, .slice o1 T.keys.length q1, .slice o2 T.kids.length q2], .string key, .agg #[.int .i64 X.k, .int .i64 X.n, .string X.s, .slice p1 X.keys.length r1, .slice p2 X.kids.length r2]] w _
  go_enter Tryz.func40, Tryz.ntmps40
  go_wp2_with fail
  refine (HC.out _ HX.out.below).mono ?_
  rintro e w1 ⟨kv1, dv1, F1, rfl, hl1, hf1, hb1⟩
  have hb0 := HX.out.next hb1
  obtain ⟨⟨o3, q3, rfl⟩, ⟨o4, q4, rfl⟩⟩ := hl1.slices
  have hba := (Below.refl _ w1).alloc (Nat.le_refl _) (.cells #[.int .i64 T.k, .int .i64 T.n, .string T.s, .slice o3 T.keys.length q3, .slice o4 T.kids.length q4] 27)
  have HB2 := Lib.hid (hb0.next hba)
  have HL2 : Hid (∃ FK FD, StrsAt (w1.alloc (.cells #[.int .i64 T.k, .int .i64 T.n, .string T.s, .slice o3 T.keys.length q3, .slice o4 T.kids.length q4] 27)) (.slice o3 T.keys.length q3) T.keys FK ∧ KidsLie (w1.alloc (.cells #[.int .i64 T.k, .int .i64 T.n, .string T.s, .slice o3 T.keys.length q3, .slice o4 T.kids.length q4] 27)) (.slice o4 T.kids.length q4) T.kids FD ∧
      Fresh w (w1.alloc (.cells #[.int .i64 T.k, .int .i64 T.n, .string T.s, .slice o3 T.keys.length q3, .slice o4 T.kids.length q4] 27)) (FK ++ FD) ∧ (∀ y, y = w1.heap.size ∨ y ∈ FK ++ FD → w.heap.size + 3 ≤ y) ∧ w1.heap.size ∉ FK ++ FD ∧
      (w1.alloc (.cells #[.int .i64 T.k, .int .i64 T.n, .string T.s, .slice o3 T.keys.length q3, .slice o4 T.kids.length q4] 27)).heap[w1.heap.size]? = some (.cells #[.int .i64 T.k, .int .i64 T.n, .string T.s, .slice o3 T.keys.length q3, .slice o4 T.kids.length q4] 27 (0, 0))) := by
    obtain ⟨-, -, -, FK, FD, hK, hD, hF⟩ := hl1.out
    subst hF
    refine ⟨FK, FD, hK.stay hba (Nat.le_refl _), hD.stay hba (Nat.le_refl _), (hf1.carry fun y hy => hba.block y (hl1.lt y hy)).earlier (by simp; omega), ?_, fun h => ?_, heap_last w1 _⟩
    · rintro y (rfl | hy)
      · exact hb0.size
      · have := hf1.old y hy
        simp at this
        omega
    · have := hl1.lt _ h
      omega
  clear hl1 hf1 hb1 hb0 hba HC HX
  go_upto_region 2 with fail
  have HB1 : Hid (w1.heap.size < (w1.alloc (.cells #[.int .i64 T.k, .int .i64 T.n, .string T.s, .slice o3 T.keys.length q3, .slice o4 T.kids.length q4] 27)).heap.size) := by show _ < _; simp
  generalize (w1.alloc (.cells #[.int .i64 T.k, .int .i64 T.n, .string T.s, .slice o3 T.keys.length q3, .slice o4 T.kids.length q4] 27)) = w2 at *
  generalize w1.heap.size = B at *
  clear w1
  obtain ⟨FK, FD, h1, h2, h3, h4, h5, h6⟩ := HL2.out
  have HM2 := Lib.hid (And.intro (SMid.start HB2.out h6 h1 h2 h3 h4) h5)
  clear h1 h2 h3 h4 h5 h6 HL2 HB2
  obtain ⟨x0, x1, x2, x3, x4, -⟩ := five HM2.out.1.sbox.box
  obtain ⟨y0, y1, y2, y3, y4, -⟩ := five HM2.out.1.out
  obtain ⟨z0, z1, z2, z3, z4, z5⟩ := five HM2.out.1.sbox.res
  by_cases hm : T.isMap
  · have HM := Lib.hid hm
    rw [hm.1] at x0
    rw [← hm.2] at x4
    clear hm
    obtain ⟨-, -, -, FK0, -, hK0, -, -⟩ := HL.out.out
    have HK0 := Lib.hid (fun (W : World) (hb : Below w.heap.size w W) => hK0.stay hb (Nat.le_refl _))
    clear hK0
    go_wp2_with fail
    refine (spec_at _ (HK0.out _ HM2.out.1.sbox.below) _ _ _ _ _).mono ?_
    rintro e w3 ⟨hi3, hb3⟩
    have HM3 := Lib.hid (And.intro (HM2.out.1.next hb3) HM2.out.2)
    clear hb3 HM2 x0 x1 x2 x3 x4 y0 y1 y2 y3 y4 z0 z1 z2 z3 z4 z5
    obtain ⟨x0, x1, x2, x3, x4, -⟩ := five HM3.out.1.sbox.box
    obtain ⟨y0, y1, y2, y3, y4, y5⟩ := five HM3.out.1.out
    obtain ⟨z0, z1, z2, z3, z4, z5⟩ := five HM3.out.1.sbox.res
    obtain ⟨u0, u1, u2, u3, u4, -⟩ := five HM3.out.1.sbox.bx
    rcases hi3 with ⟨i, hi, rfl⟩ | ⟨ha, rfl⟩
    · have HR := Lib.hid (setT_put (X := X) HM.out hi)
      have HI : Hid (i < T.kids.length) := by have h1 := hi.1; have h2 := HM.out.2; show _ < _; omega
      clear hi
      obtain ⟨b, off, rfl⟩ : ∃ b off, o4 = some ⟨b, off, none⟩ := by
        obtain ⟨o, cap, b, off, _, _, _, hdv, hlc, _, ho, _⟩ := HM3.out.1.kids
        injection hdv with e1 e2 e3
        exact ⟨b, off, by rw [e1]; exact ho (by have := HI.out; omega)⟩
      have HI2 : Hid (∀ w1 : World, Below w.heap.size w w1 → Calls Tryz.prog 64 #[.agg #[.int .i64 X.k, .int .i64 X.n, .string X.s, .slice p1 X.keys.length r1, .slice p2 X.kids.length r2]] w1 fun e w' => ∃ u, e = .returned u ∧ ∃ kv' dv' F', u = .agg #[.int .i64 X.k, .int .i64 X.n, .string X.s, kv', dv'] ∧ Lies w' X kv' dv' F' ∧ Fresh w1 w' F' ∧ Below w1.heap.size w1 w') := fun w1 hb1 => by
        refine (HCX.out w1 hb1).mono ?_
        rintro e w' ⟨kv', dv', F', rfl, g1, g2, g3⟩
        exact ⟨_, rfl, kv', dv', F', rfl, g1, g2, g3⟩
      have hi0 : (0 : Int) ≤ (i : Int) := by omega
      have hi1 : (i : Int) < (T.kids.length : Int) := by have := HI.out; omega
      clear x0 x1 x2 x3 x4 z0 z1 z2 z3 z4 z5 y0 y1 y2 y3
      go_upto_region 6 with fail
      go_region_law (first
        | (refine step_call (by rfl) _ (by rfl) _ (by rfl) (HI2.out _ (below_drewN HM3.out.1.sbox.below 1)) ?_
           rintro u w4 ⟨kv4, dv4, F4, rfl, hl4, hf4, hb4⟩
           obtain ⟨⟨p3, r3, rfl⟩, ⟨p4, r4, rfl⟩⟩ := hl4.slices
           have hm4 := HM3.out.1.withX ((below_drewN (Below.refl w3.heap.size w3) 1).trans (hb4.mono (Nat.le_refl _))) hl4 (hf4.earlier (w := w3) (Nat.le_refl _))
           obtain ⟨b', off', cap', u0', u1', u2', u3', u4', hdv, hbB, hb3, hblt, hfz, c0, c1, c2, c3, c4, hbox, F', hfin⟩ := hm4.put HM3.out.2 HFit.out HI.out
           injection hdv with e1 e2 e3
           injection e1 with e1
           injection e1 with e1 e4
           subst e1 e4
           have f0 := hfz (off + i * 5)
           have f1 := hfz (off + i * 5 + 1)
           have f2 := hfz (off + i * 5 + 2)
           have f3 := hfz (off + i * 5 + 3)
           have f4 := hfz (off + i * 5 + 4)
           have m4 := (five hm4.out).2.2.2.2.1
           have H4 := Lib.hid (And.intro hm4 (And.intro hbox (And.intro hfin (And.intro hbB hb3))))
           clear hl4 hf4 hb4 hm4 hbox hfin hbB hb3 hblt hfz e2 e3)
        | fail)
      all_goals
        have HE := Lib.hid (set_fin H4.out.2.1 H4.out.2.2.1.1 H4.out.2.2.1.2.1 H4.out.2.2.1.2.2)
        obtain ⟨m0, m1, m2, m3, m4, -⟩ := five H4.out.1.out
        obtain ⟨z0, z1, z2, z3, z4, z5⟩ := five H4.out.1.sbox.res
        have ne1 : ¬ (b = B) := H4.out.2.2.2.1
        have ne2 : ¬ (B = b) := fun e => H4.out.2.2.2.1 e.symm
        have ne3 : ¬ (b = w.heap.size + 1 + 1) := by have := H4.out.2.2.2.2; omega
        have ne4 : ¬ (w.heap.size + 1 + 1 = b) := by have := H4.out.2.2.2.2; omega
        clear H4
        go_wp2
        rw [HR.out]
        exact bodyPost_ret (ret_node Tryz.results40 rfl HE.out.1) rfl ⟨_, _, rfl, _, HE.out.2⟩
    · have HR := Lib.hid (setT_ins (X := X) HM.out ha)
      have HI := Lib.hid (placeN_le T.keys key)
      have HI2 : Hid (placeN T.keys key ≤ T.kids.length) := by have h1 := HI.out; have h2 := HM.out.2; show _ ≤ _; omega
      obtain ⟨ko, cap, b, off, hkv, hlc, hcm, ho, -, hcell, -⟩ := HK0.out w3 HM3.out.1.sbox.below
      injection hkv with e1 e2 e3
      subst e1 e3
      have HC := Lib.hid hcell
      have HO := Lib.hid ho
      clear hcell ho HK0 ha e2
      unfold maxLen at hcm
      go_wp2
      go_loop [8] (fun i => ∃ k : Nat, k ≤ T.keys.length ∧ i = .int .i64 k ∧ Hid (∀ j (h : j < T.keys.length), j < k → Op.bytesLess T.keys[j].toList key.toList = true)) (fun i => T.keys.length - (intOf i).toNat)
      case atStart => exact ⟨0, Nat.zero_le _, rfl, fun j _ h => absurd h (by omega)⟩
      case round =>
        obtain ⟨k, hk, rfl, hr⟩ := hrel
        by_cases hlt : k < T.keys.length
        · have ho := HO.out (by omega)
          subst ho
          have c0 := (HC.out k hlt).1
          by_cases hl : Op.bytesLess T.keys[k].toList key.toList = true
          · have HS : Hid (∀ j (h : j < T.keys.length), j < k + 1 → Op.bytesLess T.keys[j].toList key.toList = true) := fun j h hj => by
              by_cases e : j = k
              · subst e; exact hl
              · exact hr.out j h (by omega)
            generalize T.keys[k] = x at *
            go_wp2
            go_round
            case rel => exact ⟨k + 1, by omega, by go_num, HS.out⟩
            case measure => simp [intOf]; omega
          · have hl' : Op.bytesLess T.keys[k].toList key.toList = false := by simpa using hl
            have HP : Hid (placeN T.keys key = k) := place_unique hk hr.out (fun _ => hl')
            clear hl
            generalize T.keys[k] = x at *
            go_upto_region 11 with fail
            obtain ⟨b3, off3, rfl⟩ : ∃ b off, o3 = some ⟨b, off, none⟩ := by
              obtain ⟨o, cap, b, off, hdv, hlc, _, ho, _⟩ := HM3.out.1.strs
              injection hdv with e1 e2 e3
              exact ⟨b, off, by rw [e1]; exact ho (by omega)⟩
            obtain ⟨b4, off4, rfl⟩ : ∃ b off, o4 = some ⟨b, off, none⟩ := by
              obtain ⟨o, cap, b, off, _, _, _, hdv, hlc, _, ho, _⟩ := HM3.out.1.kids
              injection hdv with e1 e2 e3
              exact ⟨b, off, by rw [e1]; exact ho (by have := HM.out.2; omega)⟩
            have hq3 : T.keys.length ≤ q3 ∧ q3 ≤ 9223372036854775807 := by
              obtain ⟨o, cap, b, off, hdv, h1, h2, _⟩ := HM3.out.1.strs
              injection hdv with e1 e2 e3
              unfold maxLen at h2
              omega
            have hq4 : T.kids.length ≤ q4 ∧ q4 ≤ 9223372036854775807 := by
              obtain ⟨o, cap, b, off, _, _, _, hdv, h1, h2, _⟩ := HM3.out.1.kids
              injection hdv with e1 e2 e3
              unfold maxLen at h2
              omega
            have hnn : T.keys.length = T.kids.length := HM.out.2
            have n1 : ¬ (q3 = 0) := by omega
            have n2 : ¬ (q4 = 0) := by omega
            have n3 : ¬ (q3 = k) := by omega
            have n4 : ¬ (q4 = k) := by omega
            have n5 : (k : Int) ≤ (T.keys.length : Int) := by omega
            have n6 : (k : Int) ≤ (T.kids.length : Int) := by omega
            have n7 : (k : Int) ≤ (q4 : Int) := by omega
            clear hnn
            have hq5 : T.keys.length ≤ 4000000 ∧ T.kids.length ≤ 4000000 := by have := keys_le T; omega
            obtain ⟨KV, DV, FF, G, hlie, hFD, hrow⟩ := kids_rows HM3.out.1.kids
            have HLie := Lib.hid hlie
            have HFD := Lib.hid hFD
            have HRow := Lib.hid hrow
            have HOne := Lib.hid (rows_one hlie)
            clear hlie hFD hrow
            have HLK : Hid (((T.keys.map Value.string).take k).length = k ∧ ((T.keys.map Value.string).drop k).length = T.keys.length - k) := by show _ ∧ _; simp; omega
            have HLD : Hid (((rowsOf T.kids KV DV T.kids.length).take (k * 5)).length = k * 5 ∧ ((rowsOf T.kids KV DV T.kids.length).drop (k * 5)).length = (T.kids.length - k) * 5) := by show _ ∧ _; rw [List.length_take, List.length_drop, rowsOf_length]; omega
            have HN := Lib.hid HM3.out.1.newK
            clear x0 x1 x2 x3 x4 y0 y1 y2 y3 y4 y5 u0 u1 u2 u3 u4 z0 z1 z2 z3 z4 z5 c0
            obtain ⟨y0, y1, y2, y3, y4, y5⟩ := five HN.out.out
            have hk0 : (0 : Int) ≤ (k : Int) := by omega
            have hk1 : (k : Int) ≤ (q3 : Int) := by omega
            have HQ := Lib.hid (And.intro hq3 (And.intro hq4 hq5))
            clear hq3 hq4 hq5
            go_upto_region 12 with (first
              | (at_builtin; refine list_append_run rfl _ _ 24 rfl _ _ rfl rfl (HN.out.runK (some ⟨b3, off3, none⟩) k q3 ((T.keys.map .string).take k) HLK.out.1 (HN.out.srcK rfl k).1 (fun u hu => strs_one _ u (List.mem_of_mem_take hu)) (Nat.zero_add k) (by have := HQ.out.2.2; omega) _) ?_; rintro v11 w11 ⟨o11, c11, rfl, hm11⟩; have H11 := Lib.hid hm11; clear hm11)
              | fail)
            have HN11 := Lib.hid (H11.out.next ((Below.refl _ w11).alloc (Nat.le_refl _) (.cells #[.string key] 9)))
            clear y0 y1 y2 y3 y4 y5 HN HM3
            go_upto_region 13 with (first
              | (at_builtin; refine list_append_run rfl _ _ 24 rfl _ _ rfl rfl (HN11.out.runK (some ⟨w11.heap.size, 0, none⟩) 1 1 [.string key] rfl (fun j u hu => ⟨_, rfl, World.news_of_block (heap_last w11 (.cells #[.string key] 9)) j u hu⟩) (strs_one [key]) rfl (by have := HQ.out.2.2; omega) _) ?_; rintro v12 w12 ⟨o12, c12, rfl, hm12⟩; have H12 := Lib.hid hm12; clear hm12)
              | fail)
            have HN12 := Lib.hid H12.out.newD
            obtain ⟨y0, y1, y2, y3, y4, y5⟩ := five HN12.out.out
            clear HN11 H11
            go_upto_region 14 with (first
              | (at_builtin; refine list_append_run rfl _ _ 25 rfl _ _ rfl rfl (HN12.out.runD (some ⟨b4, off4, none⟩) k q4 ((rowsOf T.kids KV DV T.kids.length).take (k * 5)) HLD.out.1 (src_rows (HRow.out b4 off4 q4 rfl _ fun y hy => HN12.out.same y (List.mem_append_right _ hy)) (k * 5)).1 (fun u hu => HOne.out u (List.mem_of_mem_take hu)) (Nat.zero_add k) (by have := HQ.out.2.2; omega) _) ?_; rintro v13 w13 ⟨o13, c13, rfl, hm13⟩; have H13 := Lib.hid hm13; clear hm13)
              | fail)
            clear y0 y1 y2 y3 y4 y5 HN12 H12
            obtain ⟨u0, u1, u2, u3, u4, -⟩ := five H13.out.sbox.bx
            go_upto_region 15 with (first
              | (go_at_call 64; refine (HCX.out _ H13.out.sbox.below).mono ?_; rintro e w14 ⟨kv4, dv4, F4, rfl, hl4, hf4, hb4⟩; obtain ⟨⟨p3, r3, rfl⟩, ⟨p4, r4, rfl⟩⟩ := hl4.slices; have H14 := Lib.hid (H13.out.withX hb4 hl4 hf4); have HN14 := Lib.hid (H14.out.next ((Below.refl _ w14).alloc (Nat.le_refl _) (.cells #[.int .i64 X.k, .int .i64 X.n, .string X.s, .slice p3 X.keys.length r3, .slice p4 X.kids.length r4] 27))); clear hl4 hf4 hb4)
              | (at_builtin; refine list_append_run rfl _ _ 25 rfl _ _ rfl rfl (HN14.out.runD (some ⟨w14.heap.size, 0, none⟩) 1 1 (X.row (.slice p3 X.keys.length r3) (.slice p4 X.kids.length r4)) rfl (fun j u hu => ⟨_, rfl, World.news_of_block (heap_last w14 (.cells #[.int .i64 X.k, .int .i64 X.n, .string X.s, .slice p3 X.keys.length r3, .slice p4 X.kids.length r4] 27)) j u hu⟩) (row_one X _ _ _ _ _ _) rfl (by have := HQ.out.2.2; omega) _) ?_; rintro v15 w15 ⟨o15, c15, rfl, hm15⟩; have H15 := Lib.hid hm15; clear hm15)
              | fail)
            clear u0 u1 u2 u3 u4 HN14 H14 H13
            have HS := Lib.hid (H15.out.next (below_drewN (Below.refl _ w15) 1))
            obtain ⟨x0, x1, x2, x3, x4, -⟩ := five H15.out.sbox.box
            obtain ⟨y0, y1, y2, y3, y4, -⟩ := five H15.out.out
            have hk2 : k + 1 + (T.keys.length - k) = T.keys.length + 1 := by omega
            have hk3 : k + 1 + (T.kids.length - k) = T.kids.length + 1 := by omega
            have neB : ¬ (w.heap.size + 1 + 1 = B) := by have := H15.out.far B (.inl rfl); omega
            have neC : ¬ (B = w.heap.size + 1 + 1) := by omega
            have neD : ¬ (w.heap.size + 1 + 1 = w.heap.size) := by omega
            have neE : ¬ (w.heap.size = w.heap.size + 1 + 1) := by omega
            clear H15
            go_region_held3 (fun w' => w'.cell? ⟨w.heap.size, 0, none⟩ = some (.int .i64 T.k) ∧ w'.cell? ⟨w.heap.size, 1, none⟩ = some (.int .i64 T.n) ∧ w'.cell? ⟨w.heap.size, 2, none⟩ = some (.string T.s) ∧ w'.cell? ⟨B, 3, none⟩ = some (.slice (some ⟨b3, off3, none⟩) T.keys.length q3) ∧ w'.cell? ⟨B, 4, none⟩ = some (.slice (some ⟨b4, off4, none⟩) T.kids.length q4)) (go_keep) (first
              | (refine step_append_run (by rfl) _ _ 24 (by rfl) (.slice o12 (k + 1) c12) (.slice (some ⟨b3, off3 + k, none⟩) (T.keys.length - k) (q3 - k)) (by rfl) (by rfl) (HS.out.runK (some ⟨b3, off3 + k, none⟩) (T.keys.length - k) (q3 - k) ((T.keys.map .string).drop k) HLK.out.2 (HS.out.srcK rfl k).2 (fun u hu => strs_one _ u (List.mem_of_mem_drop hu)) hk2 (by have := HQ.out.2.2; omega) _) ?_
                 rintro v16 w16 ⟨o16, c16, rfl, hm16⟩
                 replace HS := Lib.hid hm16
                 clear hm16
                 clear x0 x1 x2 x3 x4 y0 y1 y2 y3 y4
                 obtain ⟨x0, x1, x2, x3, x4, -⟩ := five HS.out.sbox.box
                 obtain ⟨y0, y1, y2, y3, y4, -⟩ := five HS.out.out
                 obtain ⟨zy0, zy1, zy2, zy3, zy4, zy5⟩ := five HS.out.sbox.res)
              | (refine step_append_run (by rfl) _ _ 25 (by rfl) (.slice o15 (k + 1) c15) (.slice (some ⟨b4, off4 + k * 5, none⟩) (T.kids.length - k) (q4 - k)) (by rfl) (by rfl) (HS.out.runD (some ⟨b4, off4 + k * 5, none⟩) (T.kids.length - k) (q4 - k) ((rowsOf T.kids KV DV T.kids.length).drop (k * 5)) HLD.out.2 (src_rows (HRow.out b4 off4 q4 rfl _ fun y hy => HS.out.same y (List.mem_append_right _ hy)) (k * 5)).2 (fun u hu => HOne.out u (List.mem_of_mem_drop hu)) hk3 (by have := HQ.out.2.2; omega) _) ?_
                 rintro v17 w17 ⟨o17, c17, rfl, hm17⟩
                 replace HS := Lib.hid hm17
                 clear hm17
                 clear x0 x1 x2 x3 x4 y0 y1 y2 y3 y4
                 obtain ⟨x0, x1, x2, x3, x4, -⟩ := five HS.out.sbox.box
                 obtain ⟨y0, y1, y2, y3, y4, -⟩ := five HS.out.out
                 obtain ⟨zz0, zz1, zz2, zz3, zz4, zz5⟩ := five HS.out.sbox.res)
              | fail)
            have hdone := HS.out.done HFit.out (i := k) (key := key) hk (by have := HM.out.2; omega) HK.out rfl rfl HLie.out HFD.out (by rw [List.nil_append]) (by rw [List.nil_append])
            obtain ⟨F', hl', hf', hfar'⟩ := hdone
            have HE := Lib.hid (set_fin HS.out.sbox hl' hf' hfar')
            clear hl' hf' hfar' HS
            go_wp2
            rw [HR.out, HP.out]
            exact bodyPost_ret (ret_node Tryz.results40 rfl HE.out.1) rfl ⟨_, _, _, rfl, HE.out.2⟩
        · have hkn : k = T.keys.length := by omega
          subst hkn
          have HP : Hid (placeN T.keys key = T.keys.length) := place_unique (Nat.le_refl _) (fun j h _ => hr.out j h (by omega)) (fun h => absurd h (by omega))
          go_upto_region 11 with fail
          obtain ⟨A1, A2, A3, A4, s1, s2, s3, s4, KV, DV, FF, G, hsrc⟩ := cuts HM3.out.1.strs HM3.out.1.kids HM.out.2
          have HSrc := Lib.hid hsrc
          clear hsrc
          have HOne := Lib.hid (rows_one HSrc.out.2.2.1)
          have hq5 : T.keys.length ≤ 4000000 ∧ T.kids.length ≤ 4000000 := by have := keys_le T; omega
          have HQ := Lib.hid hq5
          clear hq5
          have HN := Lib.hid HM3.out.1.newK
          clear x0 x1 x2 x3 x4 y0 y1 y2 y3 y4 y5 u0 u1 u2 u3 u4 z0 z1 z2 z3 z4 z5
          obtain ⟨y0, y1, y2, y3, y4, y5⟩ := five HN.out.out
          go_upto_region 12 with (first
              | (at_builtin; refine list_append_run rfl _ _ 24 rfl _ _ rfl rfl (HN.out.runK A1 T.keys.length q3 (T.keys.map .string) (by simp) (HSrc.out.1 _ fun y hy => HN.out.same y (List.mem_append_left _ hy)) (strs_one _) (Nat.zero_add _) (by have := HQ.out; omega) _) ?_; rintro v11 w11 ⟨o11, c11, rfl, hm11⟩; have H11 := Lib.hid hm11; clear hm11)
              | fail)
          have HN11 := Lib.hid (H11.out.next ((Below.refl _ w11).alloc (Nat.le_refl _) (.cells #[.string key] 9)))
          clear y0 y1 y2 y3 y4 y5 HN HM3
          go_upto_region 13 with (first
            | (at_builtin; refine list_append_run rfl _ _ 24 rfl _ _ rfl rfl (HN11.out.runK (some ⟨w11.heap.size, 0, none⟩) 1 1 [.string key] rfl (fun j u hu => ⟨_, rfl, World.news_of_block (heap_last w11 (.cells #[.string key] 9)) j u hu⟩) (strs_one [key]) rfl (by have := HQ.out; omega) _) ?_; rintro v12 w12 ⟨o12, c12, rfl, hm12⟩; have H12 := Lib.hid hm12; clear hm12)
            | fail)
          have HN12 := Lib.hid H12.out.newD
          obtain ⟨y0, y1, y2, y3, y4, y5⟩ := five HN12.out.out
          clear HN11 H11
          go_upto_region 14 with (first
            | (at_builtin; refine list_append_run rfl _ _ 25 rfl _ _ rfl rfl (HN12.out.runD A3 T.keys.length q4 (rowsOf T.kids KV DV T.kids.length) (by rw [rowsOf_length, HM.out.2]) (HSrc.out.2.1 _ fun y hy => HN12.out.same y (List.mem_append_right _ hy)) HOne.out (Nat.zero_add _) (by have := HQ.out; omega) _) ?_; rintro v13 w13 ⟨o13, c13, rfl, hm13⟩; have H13 := Lib.hid hm13; clear hm13)
            | fail)
          clear y0 y1 y2 y3 y4 y5 HN12 H12
          obtain ⟨u0, u1, u2, u3, u4, -⟩ := five H13.out.sbox.bx
          go_upto_region 15 with (first
            | (go_at_call 64; refine (HCX.out _ H13.out.sbox.below).mono ?_; rintro e w14 ⟨kv4, dv4, F4, rfl, hl4, hf4, hb4⟩; obtain ⟨⟨p3, r3, rfl⟩, ⟨p4, r4, rfl⟩⟩ := hl4.slices; have H14 := Lib.hid (H13.out.withX hb4 hl4 hf4); have HN14 := Lib.hid (H14.out.next ((Below.refl _ w14).alloc (Nat.le_refl _) (.cells #[.int .i64 X.k, .int .i64 X.n, .string X.s, .slice p3 X.keys.length r3, .slice p4 X.kids.length r4] 27))); clear hl4 hf4 hb4)
            | (at_builtin; refine list_append_run rfl _ _ 25 rfl _ _ rfl rfl (HN14.out.runD (some ⟨w14.heap.size, 0, none⟩) 1 1 (X.row (.slice p3 X.keys.length r3) (.slice p4 X.kids.length r4)) rfl (fun j u hu => ⟨_, rfl, World.news_of_block (heap_last w14 (.cells #[.int .i64 X.k, .int .i64 X.n, .string X.s, .slice p3 X.keys.length r3, .slice p4 X.kids.length r4] 27)) j u hu⟩) (row_one X _ _ _ _ _ _) rfl (by have := HQ.out; omega) _) ?_; rintro v15 w15 ⟨o15, c15, rfl, hm15⟩; have H15 := Lib.hid hm15; clear hm15)
            | fail)
          clear u0 u1 u2 u3 u4 HN14 H14 H13
          have HS := Lib.hid (H15.out.next (below_drewN (Below.refl _ w15) 1))
          obtain ⟨x0, x1, x2, x3, x4, -⟩ := five H15.out.sbox.box
          obtain ⟨y0, y1, y2, y3, y4, -⟩ := five H15.out.out
          have neB : ¬ (w.heap.size + 1 + 1 = B) := by have := H15.out.far B (.inl rfl); omega
          have neC : ¬ (B = w.heap.size + 1 + 1) := by omega
          have neD : ¬ (w.heap.size + 1 + 1 = w.heap.size) := by omega
          have neE : ¬ (w.heap.size = w.heap.size + 1 + 1) := by omega
          clear H15
          go_region_held3 (fun w' => w'.cell? ⟨w.heap.size, 0, none⟩ = some (.int .i64 T.k) ∧ w'.cell? ⟨w.heap.size, 1, none⟩ = some (.int .i64 T.n) ∧ w'.cell? ⟨w.heap.size, 2, none⟩ = some (.string T.s) ∧ w'.cell? ⟨B, 3, none⟩ = some (.slice o3 T.keys.length q3) ∧ w'.cell? ⟨B, 4, none⟩ = some (.slice o4 T.kids.length q4)) (go_keep) (first
            | (refine step_append_run (by rfl) _ _ 24 (by rfl) (.slice o12 (T.keys.length + 1) c12) (.slice A2 0 (q3 - T.keys.length)) (by rfl) (by rfl) (HS.out.runK A2 0 (q3 - T.keys.length) [] rfl (fun j u hu => by simp at hu) (fun u hu => by simp at hu) rfl (by have := HQ.out; omega) _) ?_
               rintro v16 w16 ⟨o16, c16, rfl, hm16⟩
               replace HS := Lib.hid hm16
               clear hm16
               clear x0 x1 x2 x3 x4 y0 y1 y2 y3 y4
               obtain ⟨x0, x1, x2, x3, x4, -⟩ := five HS.out.sbox.box
               obtain ⟨y0, y1, y2, y3, y4, -⟩ := five HS.out.out
               obtain ⟨zy0, zy1, zy2, zy3, zy4, zy5⟩ := five HS.out.sbox.res)
            | (refine step_append_run (by rfl) _ _ 25 (by rfl) (.slice o15 (T.keys.length + 1) c15) (.slice A4 0 (q4 - T.keys.length)) (by rfl) (by rfl) (HS.out.runD A4 0 (q4 - T.keys.length) [] rfl (fun j u hu => by simp at hu) (fun u hu => by simp at hu) rfl (by have := HQ.out; omega) _) ?_
               rintro v17 w17 ⟨o17, c17, rfl, hm17⟩
               replace HS := Lib.hid hm17
               clear hm17
               clear x0 x1 x2 x3 x4 y0 y1 y2 y3 y4
               obtain ⟨x0, x1, x2, x3, x4, -⟩ := five HS.out.sbox.box
               obtain ⟨y0, y1, y2, y3, y4, -⟩ := five HS.out.out
               obtain ⟨zz0, zz1, zz2, zz3, zz4, zz5⟩ := five HS.out.sbox.res)
            | fail)
          have hdone := HS.out.done HFit.out (i := T.keys.length) (key := key) (Nat.le_refl _) (by have := HM.out.2; omega) HK.out rfl (by rw [HM.out.2]) HSrc.out.2.2.1 HSrc.out.2.2.2 (by rw [List.take_of_length_le (by simp), List.drop_eq_nil_of_le (by simp)]; simp) (by rw [List.take_of_length_le (by rw [rowsOf_length, HM.out.2]; omega), List.drop_eq_nil_of_le (by rw [rowsOf_length, HM.out.2]; omega)]; simp)
          obtain ⟨F', hl', hf', hfar'⟩ := hdone
          have HE := Lib.hid (set_fin HS.out.sbox hl' hf' hfar')
          clear hl' hf' hfar' HS
          go_wp2
          rw [HR.out, HP.out]
          exact bodyPost_ret (ret_node Tryz.results40 rfl HE.out.1) rfl ⟨_, _, _, rfl, HE.out.2⟩
  · have HM := Lib.hid hm
    have HE := Lib.hid (set_fin (R := T) HM2.out.1.sbox (by rw [RT.eta T]; exact Lies.into HFit.out.1 HFit.out.2.1 HFit.out.2.2 HM2.out.1.strs HM2.out.1.kids) HM2.out.1.fresh (fun y hy => HM2.out.1.far y (.inr (.inl hy))))
    by_cases h5 : T.k = 5
    · have hn : ¬ ((T.keys.length : Int) = T.kids.length) := fun e => hm ⟨h5, by omega⟩
      have hn' : ¬ (T.keys.length = T.kids.length) := fun e => hm ⟨h5, e⟩
      rw [h5] at x0
      clear hm h5
      go_wp2
      rw [setT_no HM.out]
      exact bodyPost_ret (ret_node Tryz.results40 rfl HE.out.1) rfl ⟨_, _, _, rfl, HE.out.2⟩
    · clear hm
      go_wp2
      rw [setT_no HM.out]
      exact bodyPost_ret (ret_node Tryz.results40 rfl HE.out.1) rfl ⟨_, _, _, rfl, HE.out.2⟩
end Go.Proofs.YtelpkcbbipianaaGreat

/- the model's l7Map makes of keys and trees the map that comes of setting each in its turn, in memory of its own; the kinds' words; no condition but how great the trees are. -/
namespace Go.Proofs.YtelpkcbbipianaaGreat
open Go Go.RowKit

/-- The map that comes of setting the first j of these in their turn. -/
def mapN (ks : List ByteArray) (ds : List RT) (j : Nat) : RT := ((ks.zip ds).take j).foldl (fun T p => setT T p.1 p.2) (.node 5 0 ⟨#[]⟩ [] [])

theorem mapN_succ (ks : List ByteArray) (ds : List RT) {j : Nat} (h : j < ks.length) (h' : j < ds.length) : mapN ks ds (j + 1) = setT (mapN ks ds j) ks[j] ds[j] := by
  unfold mapN
  rw [List.take_succ_eq_append_getElem (by rw [List.length_zip]; omega), List.foldl_append]
  simp

theorem setT_new {n : Int} {s : ByteArray} {keys : List ByteArray} {kids : List RT} {key : ByteArray} {X : RT} {p : Nat} (hl : keys.length = kids.length) (hf : firstN keys key = keys.length) (hp : placeN keys key = p) :
    setT (.node 5 n s keys kids) key X = .node 5 n s (insAt keys p key) (insAt kids p X) := by
  subst hp
  have h1 : (RT.node 5 n s keys kids).isMap := ⟨rfl, hl⟩
  have h2 : ¬ firstN (RT.node 5 n s keys kids).keys key < (RT.node 5 n s keys kids).keys.length := by show ¬ firstN keys key < keys.length; omega
  rw [setT, if_pos h1, if_neg h2]
  rfl

theorem mapN_sz (ks : List ByteArray) (ds : List RT) (hlen : ks.length = ds.length) : ∀ j, j ≤ ks.length → (mapN ks ds j).sz ≤ szAll (ds.take j) + strSz (ks.take j) + 2 * j
  | 0, _ => by
    have e : mapN ks ds 0 = .node 5 0 ⟨#[]⟩ [] [] := rfl
    rw [e]
    have k : (⟨#[]⟩ : ByteArray).size = 0 := rfl
    simp only [RT.sz, k, szAll, strSz, List.length_nil, List.map_nil, List.sum_nil]
    omega
  | j + 1, h => by
    have ih := mapN_sz ks ds hlen j (by omega)
    have h1 := setT_sz (mapN ks ds j) ds[j] ks[j]
    rw [mapN_succ ks ds (by omega) (by omega), List.take_succ_eq_append_getElem (by omega : j < ds.length), List.take_succ_eq_append_getElem (by omega : j < ks.length), szAll_append, strSz_append]
    have e1 : szAll [ds[j]] = ds[j].sz := by simp [szAll]
    have e2 : strSz [ks[j]] = ks[j].size := by simp [strSz]
    omega

theorem mapN_le (ks : List ByteArray) (ds : List RT) (hlen : ks.length = ds.length) {j : Nat} (hj : j ≤ ks.length) : (mapN ks ds j).sz ≤ szAll ds + strSz ks + 2 * ks.length := by
  have h1 := mapN_sz ks ds hlen j hj
  have h2 := szAll_append (ds.take j) (ds.drop j)
  have h3 := strSz_append (ks.take j) (ks.drop j)
  rw [List.take_append_drop] at h2 h3
  omega

/-- A node in a block of its own: the result's block, the node's, what it holds. -/
structure LM (w wr : World) (T : RT) (kv dv : Value) (F : List Nat) : Prop where
  below : Below w.heap.size w wr
  res : wr.heap[w.heap.size]? = some (.cells #[.int .i64 0, .int .i64 0, .string ⟨#[]⟩, .slice none 0 0, .slice none 0 0] 27 (0, 0))
  out : wr.heap[w.heap.size + 1]? = some (.cells #[.int .i64 T.k, .int .i64 T.n, .string T.s, kv, dv] 27 (0, 0))
  lie : Lies wr T kv dv F
  fresh : Fresh w wr F
  far : ∀ y ∈ F, w.heap.size + 2 ≤ y

section
variable {w wr w1 : World} {T : RT} {kv dv : Value} {F : List Nat}

theorem LM.lt (h : LM w wr T kv dv F) : w.heap.size + 1 < wr.heap.size := (Array.getElem?_eq_some_iff.1 h.out).1

theorem LM.start (w : World) (k : Int) (hk : Fit k) :
    LM w ((w.alloc (.cells #[.int .i64 0, .int .i64 0, .string ⟨#[]⟩, .slice none 0 0, .slice none 0 0] 27)).alloc (.cells #[.int .i64 k, .int .i64 0, .string ⟨#[]⟩, .slice none 0 0, .slice none 0 0] 27)) (.node k 0 ⟨#[]⟩ [] []) (.slice none 0 0) (.slice none 0 0) [] := by
  refine ⟨((Below.refl _ w).alloc (Nat.le_refl _) _).alloc (by simp) _, ?_, ?_, leaf_lies _ hk ⟨by decide, by decide⟩ (by decide), Fresh.nil _ _, fun y hy => absurd hy (by simp)⟩
  · exact (((Below.refl _ _).alloc (Nat.le_refl _) _).block w.heap.size (by simp)).trans (heap_last w _)
  · exact (two_blk w _ _).2.1

theorem LM.next (h : LM w wr T kv dv F) (hb : Below wr.heap.size wr w1) : LM w w1 T kv dv F :=
  ⟨h.below.trans (hb.mono h.below.size), (hb.block _ (by have := h.lt; omega)).trans h.res, (hb.block _ h.lt).trans h.out, h.lie.stay hb (Nat.le_refl _), h.fresh.carry fun y hy => hb.block y (h.lie.lt y hy), h.far⟩

/-- The node has become another one, whose lists are new. -/
theorem LM.put (h : LM w wr T kv dv F) (hb : Below wr.heap.size wr w1) {R : RT} {kr dr : Value} {G : List Nat} (hl : Lies w1 R kr dr G) (hf : Fresh wr w1 G) :
    LM w (set5 w1 (w.heap.size + 1) 0 (.int .i64 R.k) (.int .i64 R.n) (.string R.s) kr dr) R kr dr G := by
  have h1 := h.next hb
  have hlt := h.lt
  have hfar : ∀ y ∈ G, w.heap.size + 2 ≤ y := fun y hy => by have := hf.old y hy; omega
  have keep : ∀ y, y ≠ w.heap.size + 1 → (set5 w1 (w.heap.size + 1) 0 (.int .i64 R.k) (.int .i64 R.n) (.string R.s) kr dr).heap[y]? = w1.heap[y]? := fun y hy => set5_other _ _ _ _ _ _ _ _ _ hy
  have hf0 : Fresh w w1 G := hf.earlier (by omega)
  exact ⟨set5_below h1.below (by omega) _ _ _ _ _ _, (keep _ (by omega)).trans h1.res, set5_end h1.out _ _ _ _ _, hl.carry fun y hy => keep y (by have := hfar y hy; omega), hf0.carry fun y hy => keep y (by have := hfar y hy; omega), hfar⟩

/-- The node is the result. -/
theorem LM.fin (h : LM w wr T kv dv F) : (set5 wr w.heap.size 0 (.int .i64 T.k) (.int .i64 T.n) (.string T.s) kv dv).heap[w.heap.size]? = some (.cells #[.int .i64 T.k, .int .i64 T.n, .string T.s, kv, dv] 27 (0, 0)) ∧
    Lies (set5 wr w.heap.size 0 (.int .i64 T.k) (.int .i64 T.n) (.string T.s) kv dv) T kv dv F ∧ Fresh w (set5 wr w.heap.size 0 (.int .i64 T.k) (.int .i64 T.n) (.string T.s) kv dv) F ∧ Below w.heap.size w (set5 wr w.heap.size 0 (.int .i64 T.k) (.int .i64 T.n) (.string T.s) kv dv) := by
  have keep : ∀ y ∈ F, (set5 wr w.heap.size 0 (.int .i64 T.k) (.int .i64 T.n) (.string T.s) kv dv).heap[y]? = wr.heap[y]? := fun y hy => set5_other _ _ _ _ _ _ _ _ _ (by have := h.far y hy; omega)
  exact ⟨set5_end h.res _ _ _ _ _, h.lie.carry keep, h.fresh.carry keep, set5_below h.below (Nat.le_refl _) _ _ _ _ _ _⟩
end

set_option maxRecDepth 100000 in
set_option maxHeartbeats 2000000 in
theorem spec_l7Map (ks : List ByteArray) (ds : List RT) (hlen : ks.length = ds.length) (w : World) (kv dv : Value) (FK FD : List Nat) (hK : StrsAt w kv ks FK) (hD : KidsLie w dv ds FD)
    (hz : ∀ j ≤ ks.length, (mapN ks ds j).sz ≤ 4000000) (hx : ∀ p ∈ ds, p.sz ≤ 4000000) (hP : ks.length ≤ 1000000) (R : RT) (hR : mapN ks ds ks.length = R) :
    Calls Tryz.prog 87 #[kv, dv] w fun e w' => ∃ kv' dv' F', e = .returned (R.val kv' dv') ∧ Lies w' R kv' dv' F' ∧ Fresh w w' F' ∧ Below w.heap.size w w' := by
  obtain ⟨ko, kc, kb, koff, rfl, hkl, hkm, hko, -, hkey, -⟩ := hK
  obtain ⟨o, c, b, off, FF, KV, DV, rfl, hl, hm, ho, -, hcell, hlies, -⟩ := hD
  have HM := Lib.hid (LM.start w 5 ⟨by decide, by decide⟩)
  have HZ := Lib.hid hz
  have HXs := Lib.hid hx
  have HKey := Lib.hid hkey
  have HC := Lib.hid hcell
  have HL := Lib.hid hlies
  have HKo := Lib.hid hko
  have HO := Lib.hid ho
  clear hz hx hkey hcell hlies hko ho
  have hpl : ks.length ≤ 1000000 := hP
  have HR := Lib.hid hR
  obtain ⟨m, hma⟩ : ∃ m, ks.length = m := ⟨_, rfl⟩
  have hmb : ds.length = m := by omega
  have HLn := Lib.hid (And.intro hma hmb)
  rw [hma] at hpl hkl
  rw [hmb] at hl
  rw [hma, hmb]
  clear hkm hm hP hR hma hmb hlen
  go_enter Tryz.func87, Tryz.ntmps87
  go_wp2
  go_loopw [6] (fun i wr => ∃ (j : Nat) (kv dv : Value) (F : List Nat), j ≤ m ∧ i = .int .i64 j ∧ Hid (LM w wr (mapN ks ds j) kv dv F)) (fun i _ => m - (intOf i).toNat)
  case atStart => exact ⟨0, _, _, _, Nat.zero_le _, rfl, HM.out⟩
  case round =>
    obtain ⟨j, kv, dv, F, hj, rfl, hr⟩ := hrel
    obtain ⟨⟨o3, q3, rfl⟩, ⟨o4, q4, rfl⟩⟩ := hr.out.lie.slices
    by_cases hltm : j < m
    · have hlt : j < ks.length := by have := HLn.out.1; omega
      have hlt' : j < ds.length := by have := HLn.out.2; omega
      have hko := HKo.out (by omega)
      have ho := HO.out (by omega)
      subst hko ho
      obtain ⟨y0, y1, y2, y3, y4, -⟩ := five hr.out.out
      have hkc : wr.cell? ⟨kb, koff + j, none⟩ = _ := (hr.out.below.cell (by exact World.block_lt_of_cell? _ _ (HKey.out j hlt).1)).trans (HKey.out j hlt).1
      obtain ⟨c0, c1, c2, c3, c4⟩ := kid_cells (HC.out j (by omega)) hr.out.below
      have hlj := (HL.out j (by omega)).stay hr.out.below (Nat.le_refl _)
      have HSt : Hid (∀ W, Below wr.heap.size wr W → Calls Tryz.prog 40 #[.agg #[.int .i64 (mapN ks ds j).k, .int .i64 (mapN ks ds j).n, .string (mapN ks ds j).s, .slice o3 (mapN ks ds j).keys.length q3, .slice o4 (mapN ks ds j).kids.length q4], .string ks[j], .agg #[.int .i64 ds[j].k, .int .i64 ds[j].n, .string ds[j].s, KV j, DV j]] W fun e w' => ∃ v, e = .returned v ∧ ∃ kr dr G, v = .agg #[.int .i64 (mapN ks ds (j + 1)).k, .int .i64 (mapN ks ds (j + 1)).n, .string (mapN ks ds (j + 1)).s, kr, dr] ∧ Lies w' (mapN ks ds (j + 1)) kr dr G ∧ Fresh W w' G ∧ Below W.heap.size W w') := fun W hW => by
        refine (spec_set (mapN ks ds j) ds[j] ks[j] W _ _ _ _ _ _ (hr.out.lie.stay hW (Nat.le_refl _)) (hlj.stay hW (Nat.le_refl _)) (HZ.out j (by omega)) (HXs.out _ (List.getElem_mem (by omega))) (HKey.out j hlt).2).mono ?_
        rintro e w' ⟨kr, dr, G, rfl, g1, g2, g3⟩
        have e : setT (mapN ks ds j) ks[j] ds[j] = mapN ks ds (j + 1) := (mapN_succ ks ds hlt (by omega)).symm
        rw [e] at g1 ⊢
        exact ⟨_, rfl, kr, dr, G, rfl, g1, g2, g3⟩
      have hi0 : (0 : Int) ≤ (j : Int) := by omega
      have hi1 : (j : Int) < (m : Int) := by omega
      have hla : Hid (w.heap.size + 1 < wr.heap.size) := hr.out.lt
      clear hlj
      generalize ks[j] = key at *
      generalize ds[j] = X at *
      clear hlt hlt'
      obtain ⟨T, hT⟩ : ∃ T, mapN ks ds j = T := ⟨_, rfl⟩
      obtain ⟨R1, hR1⟩ : ∃ R, mapN ks ds (j + 1) = R := ⟨_, rfl⟩
      rw [hT] at hr y0 y1 y2 y3 y4 HSt
      rw [hR1] at HSt
      have HRe := Lib.hid hR1
      clear hT hR1
      go_wp2
      have HB := Lib.hid (below_drewN (Below.refl wr.heap.size wr) 1)
      go_region_law (first
        | (refine step_calls (by rfl) 40 _ _ (by rfl) #[.agg #[.int .i64 T.k, .int .i64 T.n, .string T.s, .slice o3 T.keys.length q3, .slice o4 T.kids.length q4], .string key, .agg #[.int .i64 X.k, .int .i64 X.n, .string X.s, KV j, DV j]] (by simp [Act.eval]) (by intros; simp [go_sem]) (fun _ _ => rfl) (HSt.out _ HB.out) ?_
           rintro u w6 ⟨kr, dr, G, rfl, hl6, hf6, hb6⟩
           obtain ⟨⟨o5, q5, rfl⟩, ⟨o6, q6, rfl⟩⟩ := hl6.slices
           have hb06 := HB.out.trans (hb6.mono (Nat.le_refl _))
           obtain ⟨m0, m1, m2, m3, m4, m5⟩ := five (hr.out.next hb06).out
           have H7 := Lib.hid (hr.out.put hb06 hl6 (hf6.earlier (w := wr) (Nat.le_refl _)))
           clear hl6 hf6 hb6 hb06)
        | fail)
      all_goals
        go_wp2
        go_roundw
        case rel => exact ⟨j + 1, _, _, G, by omega, by go_num, by rw [HRe.out]; exact H7.out⟩
        case measure => simp [intOf]; omega
    · have e : j = m := by omega
      subst e
      have hr := hr.out
      rw [← HLn.out.1, HR.out] at hr
      have hr := Lib.hid hr
      have HD := Lib.hid hr.out.fin
      obtain ⟨y0, y1, y2, y3, y4, -⟩ := five hr.out.out
      obtain ⟨z0, z1, z2, z3, z4, z5⟩ := five hr.out.res
      go_wp2
      exact bodyPost_ret (ret_node Tryz.results87 rfl HD.out.1) rfl ⟨_, _, _, rfl, HD.out.2.1, HD.out.2.2.1, HD.out.2.2.2⟩
end Go.Proofs.YtelpkcbbipianaaGreat

/- plain facts on Keys that ascend: one that stands behind others is above them all, so it is not among them, and it comes to stand at their end. -/
namespace Go.Proofs.YtelpkcbbipianaaGreat
open Go Go.RowKit

theorem lessR_trans {a b c : List UInt8} (h1 : Op.bytesLess a b = true) (h2 : Op.bytesLess b c = true) : Op.bytesLess a c = true := by
  rw [Go.Proofs.bytesLess_eq] at *
  simp only [decide_eq_true_eq] at *
  exact List.lt_trans h1 h2
theorem lessR_irrefl (l : List UInt8) : Op.bytesLess l l = false := by
  rw [Go.Proofs.bytesLess_eq]; simp

end Go.Proofs.YtelpkcbbipianaaGreat

/- plain facts on Keys that ascend: set one behind the other they stand as they were. -/
namespace Go.Proofs.YtelpkcbbipianaaGreat
open Go Go.RowKit

def AscK (ks : List ByteArray) : Prop := ∀ i (h : i < ks.length), 0 < i → Op.bytesLess ks[i - 1].toList ks[i].toList = true

theorem asck_less {ks : List ByteArray} (h : AscK ks) : ∀ (j i : Nat) (hi : i < ks.length) (hj : j < ks.length), i < j → Op.bytesLess ks[i].toList ks[j].toList = true := by
  intro j
  induction j with
  | zero => intro i hi hj hlt; omega
  | succ j ih =>
    intro i hi hj hlt
    have h1 := h (j + 1) hj (by omega)
    have e : j + 1 - 1 = j := by omega
    simp only [e] at h1
    rcases Nat.lt_or_ge i j with h2 | h2
    · exact lessR_trans (ih i hi (by omega) h2) h1
    · obtain rfl : i = j := by omega
      exact h1

theorem asck_behind {ks : List ByteArray} (h : AscK ks) (j : Nat) (hj : j < ks.length) : firstN (ks.take j) ks[j] = (ks.take j).length ∧ placeN (ks.take j) ks[j] = (ks.take j).length := by
  have hless : ∀ i (hi : i < (ks.take j).length), Op.bytesLess (ks.take j)[i].toList ks[j].toList = true := fun i hi => by
    have hij : i < j := by rw [List.length_take] at hi; omega
    rw [List.getElem_take]
    exact asck_less h j i (by omega) hj hij
  have hab : Absent (ks.take j) ks[j] := fun i hi e => by
    have := hless i hi
    rw [e, lessR_irrefl] at this
    cases this
  exact ⟨first_none hab, place_unique (Nat.le_refl _) (fun i hi _ => hless i hi) (fun hl => absurd hl (by omega))⟩

theorem insAt_end {α : Type} (l : List α) (x : α) {p : Nat} (hp : p = l.length) : insAt l p x = l ++ [x] := by
  subst hp
  simp [insAt]

theorem mapN_asc (ks : List ByteArray) (ds : List RT) (hlen : ks.length = ds.length) (h : AscK ks) : ∀ j, j ≤ ks.length → mapN ks ds j = .node 5 0 ⟨#[]⟩ (ks.take j) (ds.take j)
  | 0, _ => rfl
  | j + 1, hj => by
    have ih := mapN_asc ks ds hlen h j (by omega)
    obtain ⟨h1, h2⟩ := asck_behind h j (by omega)
    have hl : (ks.take j).length = (ds.take j).length := by rw [List.length_take, List.length_take]; omega
    rw [mapN_succ ks ds (by omega) (by omega), ih, setT_new hl h1 h2, insAt_end _ _ rfl, insAt_end _ _ hl, List.take_succ_eq_append_getElem (by omega : j < ks.length), List.take_succ_eq_append_getElem (by omega : j < ds.length)]
end Go.Proofs.YtelpkcbbipianaaGreat
