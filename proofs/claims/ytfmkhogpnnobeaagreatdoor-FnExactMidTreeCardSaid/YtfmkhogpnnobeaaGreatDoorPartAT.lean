/-
  What is proved: slices.CompactFunc of metrics, or notes: where no two of one name stand side by side it leaves them; else what it answers is shorter.; plain facts on rows of small structs that are laid one by one.; how much of a room the laws take metrics, notes and orders for: less what they hold, or -1 where that is more.
-/
import Derived.Test.YtfmkhogpnnobeaaGreatDoorPartAS
import Derived.Test.YtfmkhogpnnobeaaGreatDoorPartAD
import Derived.Test.YtfmkhogpnnobeaaGreatDoorPartAF
import Derived.Test.YtfmkhogpnnobeaaGreatDoorPartAA
/- slices.CompactFunc of metrics, or notes: where no two of one name stand side by side it leaves them; else what it answers is shorter. -/
namespace Go.Proofs.YtfmkhogpnnobeaaGreatDoor
open Go Go.RowKit Go.Sort

/-- Two of one name stand side by side. -/
def Side {α : Type} (nm : α → ByteArray) (xs : List α) : Prop := ∃ i, ∃ h : i < xs.length, 0 < i ∧ (nm xs[i]).toList = (nm (xs[i - 1]'(by omega))).toList


set_option maxRecDepth 100000 in
set_option maxHeartbeats 8000000 in
theorem compact_met {B blk : Nat} (ds : List Met) (w : World) (hB : w.cell? ⟨B, 0, none⟩ = some (.func (.func 100) #[] #[])) (hne : B ≠ blk) (hR : Rw Met.row 3 w w blk ds) (hblk : blk < w.heap.size) (h4 : ds.length ≤ 4) :
    Calls Tryz.prog 155 #[.slice (some ⟨blk, 0, none⟩) ds.length ds.length, .func (.func 156) #[] #[.pointer (some ⟨B, 0, none⟩)]] w fun e w' =>
      ∃ m, e = .returned (.slice (some ⟨blk, 0, none⟩) m ds.length) ∧ w.grownBy w' (some blk) ∧ ((m = ds.length ∧ ¬ Side Met.name ds ∧ Rw Met.row 3 w w' blk ds) ∨ (m < ds.length ∧ Side Met.name ds)) := by
  by_cases h2 : ds.length < 2
  · have HR := Lib.hid hR
    have HN : Hid (¬ Side Met.name ds) := fun ⟨i, h, h0, _⟩ => by omega
    clear hR hB
    go_enter Tryz.func155, Tryz.ntmps155
    go_wp2
    go_ret
    exact ⟨_, rfl, HR.out.gr, .inl ⟨rfl, HN.out, HR.out⟩⟩
  have HBall : Hid (∀ wr, w.grownBy wr (some blk) → wr.cell? ⟨B, 0, none⟩ = some (.func (.func 100) #[] #[])) := fun wr hg => by
    rw [World.cell?_of_block (w := w) (hg.block B (World.block_lt_of_cell? _ _ hB) (by simpa using hne))]; exact hB
  have HR0 := Lib.hid hR
  have hcl := fun (wr : World) (ty : TypeId) (o m c : Nat) (hm : 0 < m) hc hf => clear_run (P := Tryz.prog) wr 34 93 ty #[.string ⟨#[]⟩, .int .i64 0, .int .i64 0] Tryz.underlying34 Tryz.zeroValue93 (by decide) (by decide) blk o m c hm hc hf
  have HCL := Lib.hid hcl
  clear hR hB hcl
  have h2' : ¬ (ds.length : Int) < 2 := by omega
  go_enter Tryz.func155, Tryz.ntmps155
  go_wp2
  go_loopw [5] (fun i wr => ∃ k : Nat, 1 ≤ k ∧ k ≤ ds.length ∧ i = .int .i64 k ∧ Hid (∀ i (h : i < ds.length), i < k → 0 < i → ¬ (Met.name ds[i]).toList = (Met.name (ds[i - 1]'(by omega))).toList) ∧ Hid (Rw Met.row 3 w wr blk ds)) (fun i _ => ds.length - (intOf i).toNat)
  case atStart => exact ⟨1, Nat.le_refl _, by omega, rfl, fun i _ h1 h0 => absurd h1 (by omega), HR0.out⟩
  case round =>
    obtain ⟨k, hk1, hk, rfl, hr, HR⟩ := hrel
    have HL : Hid (blk < wr.heap.size) := Nat.lt_of_lt_of_le hblk HR.out.gr.size
    by_cases hlt : k < ds.length
    · obtain ⟨j, rfl⟩ : ∃ j, k = j + 1 := ⟨k - 1, by omega⟩
      have g1 : ¬ ((j : Int) + 1 < 0) := by omega
      have g2 : ¬ ds.length ≤ j := by omega
      have g3 : IntKind.i64.wrap (j : Int) = j := by rw [IntKind.wrap_i64]; omega
      have g5 : (0 : Int) ≤ (j : Int) := by omega
      have g6 : (j : Int) < ds.length := by omega
      have g7 : ¬ (j : Int) < 0 := by omega
      have g8 : ¬ (ds.length : Int) ≤ j := by omega
      have c0 : wr.cell? ⟨blk, (j + 1) * 3, none⟩ = some (.string ds[j + 1].name) := by exact HR.out.cell (j + 1) (by omega) 0 (by decide)
      have c1 : wr.cell? ⟨blk, (j + 1) * 3 + 1, none⟩ = some (.int .i64 ds[j + 1].kind) := by exact HR.out.cell (j + 1) (by omega) 1 (by decide)
      have c2 : wr.cell? ⟨blk, (j + 1) * 3 + 2, none⟩ = some (.int .i64 ds[j + 1].goal) := by exact HR.out.cell (j + 1) (by omega) 2 (by decide)
      have d0 : wr.cell? ⟨blk, j * 3, none⟩ = some (.string ds[j].name) := by exact HR.out.cell (j) (by omega) 0 (by decide)
      have d1 : wr.cell? ⟨blk, j * 3 + 1, none⟩ = some (.int .i64 ds[j].kind) := by exact HR.out.cell (j) (by omega) 1 (by decide)
      have d2 : wr.cell? ⟨blk, j * 3 + 2, none⟩ = some (.int .i64 ds[j].goal) := by exact HR.out.cell (j) (by omega) 2 (by decide)
      have HCx : Hid (∀ w1, Gr wr w1 → Rw Met.row 3 w w1 blk ds) := fun w1 hg => HR.out.next hg HL.out
      by_cases he : ds[j + 1].name.toList = ds[j].name.toList
      case neg =>
        have hq : (ds[j + 1].name.toList == ds[j].name.toList) = false := by simpa using he
        have HS : Hid (∀ i (h : i < ds.length), i < j + 1 + 1 → 0 < i → ¬ (Met.name ds[i]).toList = (Met.name (ds[i - 1]'(by omega))).toList) := fun i h hi h0 => by
          by_cases e : i = j + 1
          · subst e; exact he
          · exact hr.out i h (by omega) h0
        clear he
        generalize ds[j + 1] = x at *
        generalize ds[j] = y at *
        go_wp2
        go_region_held3 (fun w' => w'.cell? ⟨blk, (j + 1) * 3, none⟩ = some (.string x.name) ∧ w'.cell? ⟨blk, (j + 1) * 3 + 1, none⟩ = some (.int .i64 x.kind) ∧ w'.cell? ⟨blk, (j + 1) * 3 + 2, none⟩ = some (.int .i64 x.goal) ∧ w'.cell? ⟨blk, j * 3, none⟩ = some (.string y.name) ∧ w'.cell? ⟨blk, j * 3 + 1, none⟩ = some (.int .i64 y.kind) ∧ w'.cell? ⟨blk, j * 3 + 2, none⟩ = some (.int .i64 y.goal)) (go_keep)
          (first
            | (go_at_call 156; refine (clo2_met _ _ _ _ (HBall.out _ ((HCx.out _ ((Gr.refl wr).drew 1)).gr))).mono ?_; rintro e w1 ⟨rfl, hg⟩; rw [hq]; have hgg := ((Gr.refl wr).drew 1).trans hg; have HG1 := Lib.hid hgg; have e0 := (hgg.below.cell (p := ⟨blk, (j + 1) * 3, none⟩) (by exact HL.out)).trans c0; have e1 := (hgg.below.cell (p := ⟨blk, (j + 1) * 3 + 1, none⟩) (by exact HL.out)).trans c1; have e2 := (hgg.below.cell (p := ⟨blk, (j + 1) * 3 + 2, none⟩) (by exact HL.out)).trans c2; have f0 := (hgg.below.cell (p := ⟨blk, j * 3, none⟩) (by exact HL.out)).trans d0; have f1 := (hgg.below.cell (p := ⟨blk, j * 3 + 1, none⟩) (by exact HL.out)).trans d1; have f2 := (hgg.below.cell (p := ⟨blk, j * 3 + 2, none⟩) (by exact HL.out)).trans d2; clear hgg hg))
        go_wp2
        exact ⟨⟨j + 1 + 1, by omega, by omega, by go_num, HS.out, HCx.out _ HG1.out⟩, by simp [intOf]; omega⟩
      have hq : (ds[j + 1].name.toList == ds[j].name.toList) = true := by simpa using he
      have HSd : Hid (Side Met.name ds) := ⟨j + 1, hlt, by omega, he⟩
      clear he
      generalize ds[j + 1] = x at *
      generalize ds[j] = y at *
      go_wp2
      go_region_held3 (fun w' => w'.cell? ⟨blk, (j + 1) * 3, none⟩ = some (.string x.name) ∧ w'.cell? ⟨blk, (j + 1) * 3 + 1, none⟩ = some (.int .i64 x.kind) ∧ w'.cell? ⟨blk, (j + 1) * 3 + 2, none⟩ = some (.int .i64 x.goal) ∧ w'.cell? ⟨blk, j * 3, none⟩ = some (.string y.name) ∧ w'.cell? ⟨blk, j * 3 + 1, none⟩ = some (.int .i64 y.kind) ∧ w'.cell? ⟨blk, j * 3 + 2, none⟩ = some (.int .i64 y.goal)) (go_keep)
        (first
          | (go_at_call 156; refine (clo2_met _ _ _ _ (HBall.out _ ((HCx.out _ ((Gr.refl wr).drew 1)).gr))).mono ?_; rintro e w1 ⟨rfl, hg⟩; rw [hq]; have hgg := ((Gr.refl wr).drew 1).trans hg; have HG1 := Lib.hid hgg; have e0 := (hgg.below.cell (p := ⟨blk, (j + 1) * 3, none⟩) (by exact HL.out)).trans c0; have e1 := (hgg.below.cell (p := ⟨blk, (j + 1) * 3 + 1, none⟩) (by exact HL.out)).trans c1; have e2 := (hgg.below.cell (p := ⟨blk, (j + 1) * 3 + 2, none⟩) (by exact HL.out)).trans c2; have f0 := (hgg.below.cell (p := ⟨blk, j * 3, none⟩) (by exact HL.out)).trans d0; have f1 := (hgg.below.cell (p := ⟨blk, j * 3 + 1, none⟩) (by exact HL.out)).trans d1; have f2 := (hgg.below.cell (p := ⟨blk, j * 3 + 2, none⟩) (by exact HL.out)).trans d2; clear hgg hg))
      clear c0 d0 e0 f0 c1 d1 e1 f1 c2 d2 e2 f2
      go_wp2
      obtain ⟨m2, hm2⟩ : ∃ m2, ds.length = j + 1 + m2 := ⟨ds.length - (j + 1), by omega⟩
      rw [show ds.length - (j + 1) = m2 by omega]
      have HM2 := Lib.hid hm2
      have hm3 : 1 ≤ m2 := by omega
      clear hm2 g1 g2 g3 g5 g6 g7 g8 hq
      go_loopw [5, 7] (fun i i2 wr => ∃ (kk k2 : Nat) (es : List Met), i = .int .i64 kk ∧ i2 = .int .i64 k2 ∧ 1 ≤ k2 ∧ k2 ≤ m2 ∧ kk + 1 ≤ j + 1 + k2 ∧ Hid (es.length = ds.length ∧ Rw Met.row 3 w wr blk es)) (fun _ i2 _ => m2 - (intOf i2).toNat)
      case atStart => exact ⟨j + 1, 1, ds, rfl, rfl, Nat.le_refl _, hm3, by omega, rfl, HCx.out _ HG1.out⟩
      case round =>
        clear HCx HG1 HL HR
        obtain ⟨kk, k2, es, rfl, rfl, h1k, h2k, h3k, HR⟩ := hrel
        have HL : Hid (blk < wr.heap.size) := Nat.lt_of_lt_of_le hblk HR.out.2.gr.size
        have hm4 := HM2.out
        have hm5 : j + 1 + m2 ≤ 4 := by omega
        by_cases hlt2 : k2 < m2
        · obtain ⟨p, rfl⟩ : ∃ p, k2 = p + 1 := ⟨k2 - 1, by omega⟩
          have hlen := HR.out.1
          have b1 : j + 1 + (p + 1) < es.length := by omega
          have b0 : j + 1 + p < es.length := by omega
          have bk : kk < es.length := by omega
          have c0 : wr.cell? ⟨blk, (j + 1) * 3 + (p + 1) * 3, none⟩ = some (.string es[j + 1 + (p + 1)].name) := by have := HR.out.2.cell (j + 1 + (p + 1)) b1 0 (by decide); rw [show (j + 1 + (p + 1)) * 3 + 0 = (j + 1) * 3 + (p + 1) * 3 + 0 by omega] at this; exact this
          have c1 : wr.cell? ⟨blk, (j + 1) * 3 + (p + 1) * 3 + 1, none⟩ = some (.int .i64 es[j + 1 + (p + 1)].kind) := by have := HR.out.2.cell (j + 1 + (p + 1)) b1 1 (by decide); rw [show (j + 1 + (p + 1)) * 3 + 1 = (j + 1) * 3 + (p + 1) * 3 + 1 by omega] at this; exact this
          have c2 : wr.cell? ⟨blk, (j + 1) * 3 + (p + 1) * 3 + 2, none⟩ = some (.int .i64 es[j + 1 + (p + 1)].goal) := by have := HR.out.2.cell (j + 1 + (p + 1)) b1 2 (by decide); rw [show (j + 1 + (p + 1)) * 3 + 2 = (j + 1) * 3 + (p + 1) * 3 + 2 by omega] at this; exact this
          have d0 : wr.cell? ⟨blk, (j + 1) * 3 + p * 3, none⟩ = some (.string es[j + 1 + p].name) := by have := HR.out.2.cell (j + 1 + p) b0 0 (by decide); rw [show (j + 1 + p) * 3 + 0 = (j + 1) * 3 + p * 3 + 0 by omega] at this; exact this
          have d1 : wr.cell? ⟨blk, (j + 1) * 3 + p * 3 + 1, none⟩ = some (.int .i64 es[j + 1 + p].kind) := by have := HR.out.2.cell (j + 1 + p) b0 1 (by decide); rw [show (j + 1 + p) * 3 + 1 = (j + 1) * 3 + p * 3 + 1 by omega] at this; exact this
          have d2 : wr.cell? ⟨blk, (j + 1) * 3 + p * 3 + 2, none⟩ = some (.int .i64 es[j + 1 + p].goal) := by have := HR.out.2.cell (j + 1 + p) b0 2 (by decide); rw [show (j + 1 + p) * 3 + 2 = (j + 1) * 3 + p * 3 + 2 by omega] at this; exact this
          have t0 : wr.cell? ⟨blk, kk * 3, none⟩ = some (.string es[kk].name) := HR.out.2.cell kk bk 0 (by decide)
          have t1 : wr.cell? ⟨blk, kk * 3 + 1, none⟩ = some (.int .i64 es[kk].kind) := HR.out.2.cell kk bk 1 (by decide)
          have t2 : wr.cell? ⟨blk, kk * 3 + 2, none⟩ = some (.int .i64 es[kk].goal) := HR.out.2.cell kk bk 2 (by decide)
          have z0 := HR.out.2.free
          have g1 : ¬ ((p : Int) + 1 < 0) := by omega
          have g2 : ¬ m2 ≤ p := by omega
          have g3 : IntKind.i64.wrap (p : Int) = p := by rw [IntKind.wrap_i64]; omega
          have g5 : (0 : Int) ≤ (p : Int) := by omega
          have g6 : (p : Int) < m2 := by omega
          have g7 : ¬ (p : Int) < 0 := by omega
          have g8 : ¬ (m2 : Int) ≤ p := by omega
          have g9 : (kk : Int) < ds.length := by omega
          have g10 : ¬ ds.length ≤ kk := by omega
          have HCx : Hid (∀ w1, Gr wr w1 → Rw Met.row 3 w w1 blk es) := fun w1 hg => HR.out.2.next hg HL.out
          have HPut : Hid (∀ w1, Gr wr w1 → Rw Met.row 3 w (w1.setCells blk (kk * 3) (Met.row es[j + 1 + (p + 1)])) blk (es.set kk es[j + 1 + (p + 1)])) := fun w1 hg => Rw.put (enc := Met.row) (k := 3) (fun _ => rfl) (HCx.out w1 hg) bk _
          have HLen : Hid ((es.set kk es[j + 1 + (p + 1)]).length = ds.length) := by show _ = _; rw [List.length_set]; exact hlen
          have HLe := Lib.hid hlen
          clear hm4 hlen
          generalize hes : es.set kk es[j + 1 + (p + 1)] = es' at *
          clear hes
          generalize es[j + 1 + (p + 1)] = x at *
          generalize es[j + 1 + p] = y at *
          generalize es[kk] = zz at *
          clear b1 b0 bk
          by_cases he : x.name.toList = y.name.toList
          · have hq : (x.name.toList == y.name.toList) = true := by simpa using he
            clear he
            go_wp2
            go_region_held3 (fun w' => w'.cell? ⟨blk, (j + 1) * 3 + (p + 1) * 3, none⟩ = some (.string x.name) ∧ w'.cell? ⟨blk, (j + 1) * 3 + (p + 1) * 3 + 1, none⟩ = some (.int .i64 x.kind) ∧ w'.cell? ⟨blk, (j + 1) * 3 + (p + 1) * 3 + 2, none⟩ = some (.int .i64 x.goal) ∧ w'.cell? ⟨blk, (j + 1) * 3 + p * 3, none⟩ = some (.string y.name) ∧ w'.cell? ⟨blk, (j + 1) * 3 + p * 3 + 1, none⟩ = some (.int .i64 y.kind) ∧ w'.cell? ⟨blk, (j + 1) * 3 + p * 3 + 2, none⟩ = some (.int .i64 y.goal)) (go_keep)
              (first
                | (go_at_call 156; refine (clo2_met _ _ _ _ (HBall.out _ ((HCx.out _ ((Gr.refl wr).drew 1)).gr))).mono ?_; rintro e w1 ⟨rfl, hg⟩; rw [hq]; have hgg := ((Gr.refl wr).drew 1).trans hg; have HG1 := Lib.hid hgg; have e0 := (hgg.below.cell (p := ⟨blk, (j + 1) * 3 + (p + 1) * 3, none⟩) (by exact HL.out)).trans c0; have e1 := (hgg.below.cell (p := ⟨blk, (j + 1) * 3 + (p + 1) * 3 + 1, none⟩) (by exact HL.out)).trans c1; have e2 := (hgg.below.cell (p := ⟨blk, (j + 1) * 3 + (p + 1) * 3 + 2, none⟩) (by exact HL.out)).trans c2; have f0 := (hgg.below.cell (p := ⟨blk, (j + 1) * 3 + p * 3, none⟩) (by exact HL.out)).trans d0; have f1 := (hgg.below.cell (p := ⟨blk, (j + 1) * 3 + p * 3 + 1, none⟩) (by exact HL.out)).trans d1; have f2 := (hgg.below.cell (p := ⟨blk, (j + 1) * 3 + p * 3 + 2, none⟩) (by exact HL.out)).trans d2; clear hgg hg))
            go_wp2
            exact ⟨⟨kk, p + 1 + 1, es, rfl, by go_num, by omega, by omega, by omega, HLe.out, HCx.out _ HG1.out⟩, by simp [intOf]; omega⟩
          · have hq : (x.name.toList == y.name.toList) = false := by simpa using he
            clear he
            go_wp2
            go_region_held3 (fun w' => w'.cell? ⟨blk, (j + 1) * 3 + (p + 1) * 3, none⟩ = some (.string x.name) ∧ w'.cell? ⟨blk, (j + 1) * 3 + (p + 1) * 3 + 1, none⟩ = some (.int .i64 x.kind) ∧ w'.cell? ⟨blk, (j + 1) * 3 + (p + 1) * 3 + 2, none⟩ = some (.int .i64 x.goal) ∧ w'.cell? ⟨blk, (j + 1) * 3 + p * 3, none⟩ = some (.string y.name) ∧ w'.cell? ⟨blk, (j + 1) * 3 + p * 3 + 1, none⟩ = some (.int .i64 y.kind) ∧ w'.cell? ⟨blk, (j + 1) * 3 + p * 3 + 2, none⟩ = some (.int .i64 y.goal)) (go_keep)
              (first
                | (go_at_call 156; refine (clo2_met _ _ _ _ (HBall.out _ ((HCx.out _ ((Gr.refl wr).drew 1)).gr))).mono ?_; rintro e w1 ⟨rfl, hg⟩; rw [hq]; have hgg := ((Gr.refl wr).drew 1).trans hg; have HG1 := Lib.hid hgg; have e0 := (hgg.below.cell (p := ⟨blk, (j + 1) * 3 + (p + 1) * 3, none⟩) (by exact HL.out)).trans c0; have e1 := (hgg.below.cell (p := ⟨blk, (j + 1) * 3 + (p + 1) * 3 + 1, none⟩) (by exact HL.out)).trans c1; have e2 := (hgg.below.cell (p := ⟨blk, (j + 1) * 3 + (p + 1) * 3 + 2, none⟩) (by exact HL.out)).trans c2; have f0 := (hgg.below.cell (p := ⟨blk, (j + 1) * 3 + p * 3, none⟩) (by exact HL.out)).trans d0; have f1 := (hgg.below.cell (p := ⟨blk, (j + 1) * 3 + p * 3 + 1, none⟩) (by exact HL.out)).trans d1; have f2 := (hgg.below.cell (p := ⟨blk, (j + 1) * 3 + p * 3 + 2, none⟩) (by exact HL.out)).trans d2; have u0 := (hgg.below.cell (p := ⟨blk, kk * 3, none⟩) (by exact HL.out)).trans t0; have u1 := (hgg.below.cell (p := ⟨blk, kk * 3 + 1, none⟩) (by exact HL.out)).trans t1; have u2 := (hgg.below.cell (p := ⟨blk, kk * 3 + 2, none⟩) (by exact HL.out)).trans t2; clear hgg hg))
            have z1 := (HCx.out _ HG1.out).free
            go_wp2
            exact ⟨⟨kk + 1, p + 1 + 1, es', by go_num, by go_num, by omega, by omega, by omega, HLen.out, HPut.out _ HG1.out⟩, by simp [intOf]; omega⟩
        · have hlen := HR.out.1
          have hk3 : kk < ds.length := by omega
          obtain ⟨m6, hm6⟩ : ∃ m6, ds.length = kk + m6 := ⟨ds.length - kk, by omega⟩
          have e6 : ds.length - kk = m6 := by omega
          have hcl := fun ty => HCL.out wr ty (kk * 3) m6 m6 (by omega) (fun q hq => by
            have hq' : q < m6 * 3 := hq
            have hd : kk + q / 3 < es.length := by omega
            have := HR.out.2.cell (kk + q / 3) hd (q % 3) (by omega)
            rw [show (kk + q / 3) * 3 + q % 3 = kk * 3 + q by omega] at this
            rw [this, List.getElem?_eq_getElem (by have : (Met.row (es[kk + q / 3])).length = 3 := rfl; omega)]
            rfl) (fun q _ => HR.out.2.free _)
          have HGc := Lib.hid (grw_trans HR.out.2.gr (grw_setCells wr blk (kk * 3) (Builtin.zeroCells #[.string ⟨#[]⟩, .int .i64 0, .int .i64 0] m6).toList))
          generalize (Builtin.zeroCells #[.string ⟨#[]⟩, .int .i64 0, .int .i64 0] m6).toList = zs at *
          rw [← e6] at hcl
          have g9 : ¬ (kk : Int) < 0 := by omega
          clear hm6 e6 hlen hm4
          go_wp2
          go_ret
          exact ⟨kk, rfl, HGc.out, .inr ⟨hk3, HSd.out⟩⟩
    · have e : k = ds.length := by omega
      subst e
      have HN : Hid (¬ Side Met.name ds) := fun ⟨i, h, h0, he⟩ => hr.out i h h h0 he
      go_wp2
      go_ret
      exact ⟨_, rfl, HR.out.gr, .inl ⟨rfl, HN.out, HR.out⟩⟩


set_option maxRecDepth 100000 in
set_option maxHeartbeats 8000000 in
theorem compact_not {B blk : Nat} (ds : List Not) (w : World) (hB : w.cell? ⟨B, 0, none⟩ = some (.func (.func 103) #[] #[])) (hne : B ≠ blk) (hR : Rw Not.row 2 w w blk ds) (hblk : blk < w.heap.size) (h4 : ds.length ≤ 4) :
    Calls Tryz.prog 162 #[.slice (some ⟨blk, 0, none⟩) ds.length ds.length, .func (.func 163) #[] #[.pointer (some ⟨B, 0, none⟩)]] w fun e w' =>
      ∃ m, e = .returned (.slice (some ⟨blk, 0, none⟩) m ds.length) ∧ w.grownBy w' (some blk) ∧ ((m = ds.length ∧ ¬ Side Not.key ds ∧ Rw Not.row 2 w w' blk ds) ∨ (m < ds.length ∧ Side Not.key ds)) := by
  by_cases h2 : ds.length < 2
  · have HR := Lib.hid hR
    have HN : Hid (¬ Side Not.key ds) := fun ⟨i, h, h0, _⟩ => by omega
    clear hR hB
    go_enter Tryz.func162, Tryz.ntmps162
    go_wp2
    go_ret
    exact ⟨_, rfl, HR.out.gr, .inl ⟨rfl, HN.out, HR.out⟩⟩
  have HBall : Hid (∀ wr, w.grownBy wr (some blk) → wr.cell? ⟨B, 0, none⟩ = some (.func (.func 103) #[] #[])) := fun wr hg => by
    rw [World.cell?_of_block (w := w) (hg.block B (World.block_lt_of_cell? _ _ hB) (by simpa using hne))]; exact hB
  have HR0 := Lib.hid hR
  have hcl := fun (wr : World) (ty : TypeId) (o m c : Nat) (hm : 0 < m) hc hf => clear_run (P := Tryz.prog) wr 36 98 ty #[.string ⟨#[]⟩, .string ⟨#[]⟩] Tryz.underlying36 Tryz.zeroValue98 (by decide) (by decide) blk o m c hm hc hf
  have HCL := Lib.hid hcl
  clear hR hB hcl
  have h2' : ¬ (ds.length : Int) < 2 := by omega
  go_enter Tryz.func162, Tryz.ntmps162
  go_wp2
  go_loopw [5] (fun i wr => ∃ k : Nat, 1 ≤ k ∧ k ≤ ds.length ∧ i = .int .i64 k ∧ Hid (∀ i (h : i < ds.length), i < k → 0 < i → ¬ (Not.key ds[i]).toList = (Not.key (ds[i - 1]'(by omega))).toList) ∧ Hid (Rw Not.row 2 w wr blk ds)) (fun i _ => ds.length - (intOf i).toNat)
  case atStart => exact ⟨1, Nat.le_refl _, by omega, rfl, fun i _ h1 h0 => absurd h1 (by omega), HR0.out⟩
  case round =>
    obtain ⟨k, hk1, hk, rfl, hr, HR⟩ := hrel
    have HL : Hid (blk < wr.heap.size) := Nat.lt_of_lt_of_le hblk HR.out.gr.size
    by_cases hlt : k < ds.length
    · obtain ⟨j, rfl⟩ : ∃ j, k = j + 1 := ⟨k - 1, by omega⟩
      have g1 : ¬ ((j : Int) + 1 < 0) := by omega
      have g2 : ¬ ds.length ≤ j := by omega
      have g3 : IntKind.i64.wrap (j : Int) = j := by rw [IntKind.wrap_i64]; omega
      have g5 : (0 : Int) ≤ (j : Int) := by omega
      have g6 : (j : Int) < ds.length := by omega
      have g7 : ¬ (j : Int) < 0 := by omega
      have g8 : ¬ (ds.length : Int) ≤ j := by omega
      have c0 : wr.cell? ⟨blk, (j + 1) * 2, none⟩ = some (.string ds[j + 1].key) := by exact HR.out.cell (j + 1) (by omega) 0 (by decide)
      have c1 : wr.cell? ⟨blk, (j + 1) * 2 + 1, none⟩ = some (.string ds[j + 1].text) := by exact HR.out.cell (j + 1) (by omega) 1 (by decide)
      have d0 : wr.cell? ⟨blk, j * 2, none⟩ = some (.string ds[j].key) := by exact HR.out.cell (j) (by omega) 0 (by decide)
      have d1 : wr.cell? ⟨blk, j * 2 + 1, none⟩ = some (.string ds[j].text) := by exact HR.out.cell (j) (by omega) 1 (by decide)
      have HCx : Hid (∀ w1, Gr wr w1 → Rw Not.row 2 w w1 blk ds) := fun w1 hg => HR.out.next hg HL.out
      by_cases he : ds[j + 1].key.toList = ds[j].key.toList
      case neg =>
        have hq : (ds[j + 1].key.toList == ds[j].key.toList) = false := by simpa using he
        have HS : Hid (∀ i (h : i < ds.length), i < j + 1 + 1 → 0 < i → ¬ (Not.key ds[i]).toList = (Not.key (ds[i - 1]'(by omega))).toList) := fun i h hi h0 => by
          by_cases e : i = j + 1
          · subst e; exact he
          · exact hr.out i h (by omega) h0
        clear he
        generalize ds[j + 1] = x at *
        generalize ds[j] = y at *
        go_wp2
        go_region_held3 (fun w' => w'.cell? ⟨blk, (j + 1) * 2, none⟩ = some (.string x.key) ∧ w'.cell? ⟨blk, (j + 1) * 2 + 1, none⟩ = some (.string x.text) ∧ w'.cell? ⟨blk, j * 2, none⟩ = some (.string y.key) ∧ w'.cell? ⟨blk, j * 2 + 1, none⟩ = some (.string y.text)) (go_keep)
          (first
            | (go_at_call 163; refine (clo2_not _ _ _ _ (HBall.out _ ((HCx.out _ ((Gr.refl wr).drew 1)).gr))).mono ?_; rintro e w1 ⟨rfl, hg⟩; rw [hq]; have hgg := ((Gr.refl wr).drew 1).trans hg; have HG1 := Lib.hid hgg; have e0 := (hgg.below.cell (p := ⟨blk, (j + 1) * 2, none⟩) (by exact HL.out)).trans c0; have e1 := (hgg.below.cell (p := ⟨blk, (j + 1) * 2 + 1, none⟩) (by exact HL.out)).trans c1; have f0 := (hgg.below.cell (p := ⟨blk, j * 2, none⟩) (by exact HL.out)).trans d0; have f1 := (hgg.below.cell (p := ⟨blk, j * 2 + 1, none⟩) (by exact HL.out)).trans d1; clear hgg hg))
        go_wp2
        exact ⟨⟨j + 1 + 1, by omega, by omega, by go_num, HS.out, HCx.out _ HG1.out⟩, by simp [intOf]; omega⟩
      have hq : (ds[j + 1].key.toList == ds[j].key.toList) = true := by simpa using he
      have HSd : Hid (Side Not.key ds) := ⟨j + 1, hlt, by omega, he⟩
      clear he
      generalize ds[j + 1] = x at *
      generalize ds[j] = y at *
      go_wp2
      go_region_held3 (fun w' => w'.cell? ⟨blk, (j + 1) * 2, none⟩ = some (.string x.key) ∧ w'.cell? ⟨blk, (j + 1) * 2 + 1, none⟩ = some (.string x.text) ∧ w'.cell? ⟨blk, j * 2, none⟩ = some (.string y.key) ∧ w'.cell? ⟨blk, j * 2 + 1, none⟩ = some (.string y.text)) (go_keep)
        (first
          | (go_at_call 163; refine (clo2_not _ _ _ _ (HBall.out _ ((HCx.out _ ((Gr.refl wr).drew 1)).gr))).mono ?_; rintro e w1 ⟨rfl, hg⟩; rw [hq]; have hgg := ((Gr.refl wr).drew 1).trans hg; have HG1 := Lib.hid hgg; have e0 := (hgg.below.cell (p := ⟨blk, (j + 1) * 2, none⟩) (by exact HL.out)).trans c0; have e1 := (hgg.below.cell (p := ⟨blk, (j + 1) * 2 + 1, none⟩) (by exact HL.out)).trans c1; have f0 := (hgg.below.cell (p := ⟨blk, j * 2, none⟩) (by exact HL.out)).trans d0; have f1 := (hgg.below.cell (p := ⟨blk, j * 2 + 1, none⟩) (by exact HL.out)).trans d1; clear hgg hg))
      clear c0 d0 e0 f0 c1 d1 e1 f1
      go_wp2
      obtain ⟨m2, hm2⟩ : ∃ m2, ds.length = j + 1 + m2 := ⟨ds.length - (j + 1), by omega⟩
      rw [show ds.length - (j + 1) = m2 by omega]
      have HM2 := Lib.hid hm2
      have hm3 : 1 ≤ m2 := by omega
      clear hm2 g1 g2 g3 g5 g6 g7 g8 hq
      go_loopw [5, 7] (fun i i2 wr => ∃ (kk k2 : Nat) (es : List Not), i = .int .i64 kk ∧ i2 = .int .i64 k2 ∧ 1 ≤ k2 ∧ k2 ≤ m2 ∧ kk + 1 ≤ j + 1 + k2 ∧ Hid (es.length = ds.length ∧ Rw Not.row 2 w wr blk es)) (fun _ i2 _ => m2 - (intOf i2).toNat)
      case atStart => exact ⟨j + 1, 1, ds, rfl, rfl, Nat.le_refl _, hm3, by omega, rfl, HCx.out _ HG1.out⟩
      case round =>
        clear HCx HG1 HL HR
        obtain ⟨kk, k2, es, rfl, rfl, h1k, h2k, h3k, HR⟩ := hrel
        have HL : Hid (blk < wr.heap.size) := Nat.lt_of_lt_of_le hblk HR.out.2.gr.size
        have hm4 := HM2.out
        have hm5 : j + 1 + m2 ≤ 4 := by omega
        by_cases hlt2 : k2 < m2
        · obtain ⟨p, rfl⟩ : ∃ p, k2 = p + 1 := ⟨k2 - 1, by omega⟩
          have hlen := HR.out.1
          have b1 : j + 1 + (p + 1) < es.length := by omega
          have b0 : j + 1 + p < es.length := by omega
          have bk : kk < es.length := by omega
          have c0 : wr.cell? ⟨blk, (j + 1) * 2 + (p + 1) * 2, none⟩ = some (.string es[j + 1 + (p + 1)].key) := by have := HR.out.2.cell (j + 1 + (p + 1)) b1 0 (by decide); rw [show (j + 1 + (p + 1)) * 2 + 0 = (j + 1) * 2 + (p + 1) * 2 + 0 by omega] at this; exact this
          have c1 : wr.cell? ⟨blk, (j + 1) * 2 + (p + 1) * 2 + 1, none⟩ = some (.string es[j + 1 + (p + 1)].text) := by have := HR.out.2.cell (j + 1 + (p + 1)) b1 1 (by decide); rw [show (j + 1 + (p + 1)) * 2 + 1 = (j + 1) * 2 + (p + 1) * 2 + 1 by omega] at this; exact this
          have d0 : wr.cell? ⟨blk, (j + 1) * 2 + p * 2, none⟩ = some (.string es[j + 1 + p].key) := by have := HR.out.2.cell (j + 1 + p) b0 0 (by decide); rw [show (j + 1 + p) * 2 + 0 = (j + 1) * 2 + p * 2 + 0 by omega] at this; exact this
          have d1 : wr.cell? ⟨blk, (j + 1) * 2 + p * 2 + 1, none⟩ = some (.string es[j + 1 + p].text) := by have := HR.out.2.cell (j + 1 + p) b0 1 (by decide); rw [show (j + 1 + p) * 2 + 1 = (j + 1) * 2 + p * 2 + 1 by omega] at this; exact this
          have t0 : wr.cell? ⟨blk, kk * 2, none⟩ = some (.string es[kk].key) := HR.out.2.cell kk bk 0 (by decide)
          have t1 : wr.cell? ⟨blk, kk * 2 + 1, none⟩ = some (.string es[kk].text) := HR.out.2.cell kk bk 1 (by decide)
          have z0 := HR.out.2.free
          have g1 : ¬ ((p : Int) + 1 < 0) := by omega
          have g2 : ¬ m2 ≤ p := by omega
          have g3 : IntKind.i64.wrap (p : Int) = p := by rw [IntKind.wrap_i64]; omega
          have g5 : (0 : Int) ≤ (p : Int) := by omega
          have g6 : (p : Int) < m2 := by omega
          have g7 : ¬ (p : Int) < 0 := by omega
          have g8 : ¬ (m2 : Int) ≤ p := by omega
          have g9 : (kk : Int) < ds.length := by omega
          have g10 : ¬ ds.length ≤ kk := by omega
          have HCx : Hid (∀ w1, Gr wr w1 → Rw Not.row 2 w w1 blk es) := fun w1 hg => HR.out.2.next hg HL.out
          have HPut : Hid (∀ w1, Gr wr w1 → Rw Not.row 2 w (w1.setCells blk (kk * 2) (Not.row es[j + 1 + (p + 1)])) blk (es.set kk es[j + 1 + (p + 1)])) := fun w1 hg => Rw.put (enc := Not.row) (k := 2) (fun _ => rfl) (HCx.out w1 hg) bk _
          have HLen : Hid ((es.set kk es[j + 1 + (p + 1)]).length = ds.length) := by show _ = _; rw [List.length_set]; exact hlen
          have HLe := Lib.hid hlen
          clear hm4 hlen
          generalize hes : es.set kk es[j + 1 + (p + 1)] = es' at *
          clear hes
          generalize es[j + 1 + (p + 1)] = x at *
          generalize es[j + 1 + p] = y at *
          generalize es[kk] = zz at *
          clear b1 b0 bk
          by_cases he : x.key.toList = y.key.toList
          · have hq : (x.key.toList == y.key.toList) = true := by simpa using he
            clear he
            go_wp2
            go_region_held3 (fun w' => w'.cell? ⟨blk, (j + 1) * 2 + (p + 1) * 2, none⟩ = some (.string x.key) ∧ w'.cell? ⟨blk, (j + 1) * 2 + (p + 1) * 2 + 1, none⟩ = some (.string x.text) ∧ w'.cell? ⟨blk, (j + 1) * 2 + p * 2, none⟩ = some (.string y.key) ∧ w'.cell? ⟨blk, (j + 1) * 2 + p * 2 + 1, none⟩ = some (.string y.text)) (go_keep)
              (first
                | (go_at_call 163; refine (clo2_not _ _ _ _ (HBall.out _ ((HCx.out _ ((Gr.refl wr).drew 1)).gr))).mono ?_; rintro e w1 ⟨rfl, hg⟩; rw [hq]; have hgg := ((Gr.refl wr).drew 1).trans hg; have HG1 := Lib.hid hgg; have e0 := (hgg.below.cell (p := ⟨blk, (j + 1) * 2 + (p + 1) * 2, none⟩) (by exact HL.out)).trans c0; have e1 := (hgg.below.cell (p := ⟨blk, (j + 1) * 2 + (p + 1) * 2 + 1, none⟩) (by exact HL.out)).trans c1; have f0 := (hgg.below.cell (p := ⟨blk, (j + 1) * 2 + p * 2, none⟩) (by exact HL.out)).trans d0; have f1 := (hgg.below.cell (p := ⟨blk, (j + 1) * 2 + p * 2 + 1, none⟩) (by exact HL.out)).trans d1; clear hgg hg))
            go_wp2
            exact ⟨⟨kk, p + 1 + 1, es, rfl, by go_num, by omega, by omega, by omega, HLe.out, HCx.out _ HG1.out⟩, by simp [intOf]; omega⟩
          · have hq : (x.key.toList == y.key.toList) = false := by simpa using he
            clear he
            go_wp2
            go_region_held3 (fun w' => w'.cell? ⟨blk, (j + 1) * 2 + (p + 1) * 2, none⟩ = some (.string x.key) ∧ w'.cell? ⟨blk, (j + 1) * 2 + (p + 1) * 2 + 1, none⟩ = some (.string x.text) ∧ w'.cell? ⟨blk, (j + 1) * 2 + p * 2, none⟩ = some (.string y.key) ∧ w'.cell? ⟨blk, (j + 1) * 2 + p * 2 + 1, none⟩ = some (.string y.text)) (go_keep)
              (first
                | (go_at_call 163; refine (clo2_not _ _ _ _ (HBall.out _ ((HCx.out _ ((Gr.refl wr).drew 1)).gr))).mono ?_; rintro e w1 ⟨rfl, hg⟩; rw [hq]; have hgg := ((Gr.refl wr).drew 1).trans hg; have HG1 := Lib.hid hgg; have e0 := (hgg.below.cell (p := ⟨blk, (j + 1) * 2 + (p + 1) * 2, none⟩) (by exact HL.out)).trans c0; have e1 := (hgg.below.cell (p := ⟨blk, (j + 1) * 2 + (p + 1) * 2 + 1, none⟩) (by exact HL.out)).trans c1; have f0 := (hgg.below.cell (p := ⟨blk, (j + 1) * 2 + p * 2, none⟩) (by exact HL.out)).trans d0; have f1 := (hgg.below.cell (p := ⟨blk, (j + 1) * 2 + p * 2 + 1, none⟩) (by exact HL.out)).trans d1; have u0 := (hgg.below.cell (p := ⟨blk, kk * 2, none⟩) (by exact HL.out)).trans t0; have u1 := (hgg.below.cell (p := ⟨blk, kk * 2 + 1, none⟩) (by exact HL.out)).trans t1; clear hgg hg))
            have z1 := (HCx.out _ HG1.out).free
            go_wp2
            exact ⟨⟨kk + 1, p + 1 + 1, es', by go_num, by go_num, by omega, by omega, by omega, HLen.out, HPut.out _ HG1.out⟩, by simp [intOf]; omega⟩
        · have hlen := HR.out.1
          have hk3 : kk < ds.length := by omega
          obtain ⟨m6, hm6⟩ : ∃ m6, ds.length = kk + m6 := ⟨ds.length - kk, by omega⟩
          have e6 : ds.length - kk = m6 := by omega
          have hcl := fun ty => HCL.out wr ty (kk * 2) m6 m6 (by omega) (fun q hq => by
            have hq' : q < m6 * 2 := hq
            have hd : kk + q / 2 < es.length := by omega
            have := HR.out.2.cell (kk + q / 2) hd (q % 2) (by omega)
            rw [show (kk + q / 2) * 2 + q % 2 = kk * 2 + q by omega] at this
            rw [this, List.getElem?_eq_getElem (by have : (Not.row (es[kk + q / 2])).length = 2 := rfl; omega)]
            rfl) (fun q _ => HR.out.2.free _)
          have HGc := Lib.hid (grw_trans HR.out.2.gr (grw_setCells wr blk (kk * 2) (Builtin.zeroCells #[.string ⟨#[]⟩, .string ⟨#[]⟩] m6).toList))
          generalize (Builtin.zeroCells #[.string ⟨#[]⟩, .string ⟨#[]⟩] m6).toList = zs at *
          rw [← e6] at hcl
          have g9 : ¬ (kk : Int) < 0 := by omega
          clear hm6 e6 hlen hm4
          go_wp2
          go_ret
          exact ⟨kk, rfl, HGc.out, .inr ⟨hk3, HSd.out⟩⟩
    · have e : k = ds.length := by omega
      subst e
      have HN : Hid (¬ Side Not.key ds) := fun ⟨i, h, h0, he⟩ => hr.out i h h h0 he
      go_wp2
      go_ret
      exact ⟨_, rfl, HR.out.gr, .inl ⟨rfl, HN.out, HR.out⟩⟩

end Go.Proofs.YtfmkhogpnnobeaaGreatDoor

/- plain facts on rows of small structs that are laid one by one. -/
namespace Go.Proofs.YtfmkhogpnnobeaaGreatDoor
open Go Go.RowKit

/-- Cells stored one behind the other. -/
def setL (w : World) (b o : Nat) : List Value → World
  | [] => w
  | v :: vs => setL (w.setCell ⟨b, o, none⟩ v) b (o + 1) vs

theorem setL_other (w : World) (b o : Nat) (vs : List Value) (k : Nat) (h : k ≠ b) : (setL w b o vs).heap[k]? = w.heap[k]? := by
  induction vs generalizing w o with
  | nil => rfl
  | cons v vs ih => rw [setL, ih, Below.heap_setCell _ _ _ _ h]

theorem setL_below {B : Nat} {a w : World} (h : Below B a w) {b : Nat} (hb : B ≤ b) (o : Nat) (vs : List Value) : Below B a (setL w b o vs) := by
  induction vs generalizing w o with
  | nil => exact h
  | cons v vs ih => exact ih (h.setCell hb _) _

theorem setL_size (w : World) (b o : Nat) (vs : List Value) : (setL w b o vs).heap.size = w.heap.size := by
  induction vs generalizing w o with
  | nil => rfl
  | cons v vs ih => rw [setL, ih]; simp [World.setCell]

theorem setL_row {w : World} {b : Nat} {t : TypeId} {N : Nat} {f : Nat → Value} (h : w.rowIs b t N f) (o : Nat) (vs : List Value) :
    ∃ g, (setL w b o vs).rowIs b t N g ∧ (∀ c (_ : c < vs.length), some (g (o + c)) = vs[c]?) ∧ ∀ j, (j < o ∨ o + vs.length ≤ j) → g j = f j := by
  induction vs generalizing w o f with
  | nil => exact ⟨f, h, fun c hc => absurd hc (by simp), fun _ _ => rfl⟩
  | cons v vs ih =>
    obtain ⟨g, hg, h1, h2⟩ := ih (h.set o v) (o + 1)
    refine ⟨g, hg, fun c hc => ?_, fun j hj => ?_⟩
    · cases c with
      | zero => rw [Nat.add_zero, h2 o (by omega)]; simp
      | succ c =>
        have := h1 c (by simpa using hc)
        rw [show o + (c + 1) = o + 1 + c by omega, this]; simp
    · simp only [List.length_cons] at hj
      rw [h2 j (by omega)]
      have : ¬ j = o := by omega
      simp [this]

/-- A row of structs of k cells that has been laid up to n. -/
def LaidRow {α : Type} (enc : α → List Value) (k : Nat) (t : TypeId) (w wr : World) (xs : List α) (n : Nat) : Prop :=
  ∃ f : Nat → Value, wr.rowIs w.heap.size t (xs.length * k) f ∧ (∀ j (h : j < xs.length), j < n → ∀ c, c < k → some (f (j * k + c)) = (enc xs[j])[c]?) ∧ Below w.heap.size w wr

theorem LaidRow.start {α : Type} {enc : α → List Value} {k : Nat} {t : TypeId} {w wr : World} {xs : List α} {f : Nat → Value} (h : wr.rowIs w.heap.size t (xs.length * k) f) (hb : Below w.heap.size w wr) : LaidRow enc k t w wr xs 0 :=
  ⟨f, h, fun _ _ h => absurd h (by omega), hb⟩

theorem LaidRow.step {α : Type} {enc : α → List Value} {k : Nat} {t : TypeId} {w wr w1 : World} {xs : List α} {n : Nat} (hk : ∀ a, (enc a).length = k) (h : LaidRow enc k t w wr xs n) (hn : n < xs.length) (hb1 : Below wr.heap.size wr w1) :
    LaidRow enc k t w (setL w1 w.heap.size (n * k) (enc xs[n])) xs (n + 1) := by
  obtain ⟨f, hrow, hall, hb⟩ := h
  have hrow1 := hrow.of_block (hb1.block _ hrow.lt)
  obtain ⟨g, hg, hg1, hg2⟩ := setL_row hrow1 (n * k) (enc xs[n])
  rw [hk] at hg1 hg2
  refine ⟨g, hg, fun j hj hjn c hc => ?_, setL_below (hb.trans (hb1.mono hb.size)) (Nat.le_refl _) _ _⟩
  by_cases e : j = n
  · subst e
    exact hg1 c hc
  · have : j * k + c < n * k := by
      have : (j + 1) * k ≤ n * k := Nat.mul_le_mul_right k (by omega)
      rw [Nat.add_mul] at this
      omega
    rw [hg2 _ (by omega)]
    exact hall j hj (by omega) c hc

theorem LaidRow.done {α : Type} {enc : α → List Value} {ok : α → Prop} {k : Nat} {t : TypeId} {w wr : World} {xs : List α} (h : LaidRow enc k t w wr xs xs.length) (hm : xs.length ≤ maxLen) (hok : ∀ x ∈ xs, ok x) :
    ∃ F, RowAt enc ok k wr (.slice (some ⟨w.heap.size, 0, none⟩) xs.length xs.length) xs F ∧ Fresh w wr F ∧ (∀ b ∈ F, b = w.heap.size) ∧ Below w.heap.size w wr := by
  obtain ⟨f, hrow, hall, hb⟩ := h
  have hF : ∀ b ∈ (if xs.length = 0 then [] else [w.heap.size]), b = w.heap.size := by
    intro b h
    split at h <;> simp_all
  refine ⟨_, ⟨_, _, w.heap.size, 0, rfl, Nat.le_refl _, hm, fun _ => rfl, rfl, fun i hi => ⟨hok _ (List.getElem_mem hi), fun j hj => ?_⟩, fun i hi => by rw [Nat.zero_add, hrow.cell hi]; rfl⟩, ⟨by split <;> simp, fun b h => Nat.le_of_eq (hF b h).symm, fun b h o => by rw [hF b h]; exact hrow.frozen o⟩, hF, hb⟩
  have : i * k + j < xs.length * k := by
    have : (i + 1) * k ≤ xs.length * k := Nat.mul_le_mul_right k (by omega)
    rw [Nat.add_mul] at this
    omega
  rw [Nat.zero_add, hrow.cell this]
  exact hall i hi hi j hj

theorem rowIs_made (w : World) (z : Array Value) (n : Nat) (t : TypeId) : ∃ f, (w.alloc (.cells (madeCells z n) t)).rowIs w.heap.size t n f :=
  ⟨fun i => (madeCells z n)[i]?.getD default, by
    have := World.rowIs_alloc w (madeCells z n) t (fun i => (madeCells z n)[i]?.getD default) (fun i hi => by rw [Array.getElem?_eq_getElem hi]; rfl)
    rwa [size_madeCells] at this⟩
end Go.Proofs.YtfmkhogpnnobeaaGreatDoor

/- how much of a room the laws take metrics, notes and orders for: less what they hold, or -1 where that is more. -/
namespace Go.Proofs.YtfmkhogpnnobeaaGreatDoor
open Go Go.RowKit

def Met.sz (m : Met) : Nat := m.name.size
def Not.sz (m : Not) : Nat := m.key.size + m.text.size
def Ord.sz (o : Ord) : Nat := o.name.size + o.target.size + (o.mets.length + (o.mets.map Met.sz).sum) + (o.notes.length + (o.notes.map Not.sz).sum)

set_option maxHeartbeats 1000000 in
theorem sz_met (m : Met) (hm : m.ok) (r : Int) (h0 : 0 ≤ r) (h1 : r ≤ 1048576) (w : World) :
    Calls Tryz.prog 50 #[.agg #[.string m.name, .int .i64 m.kind, .int .i64 m.goal], .int .i64 r] w fun e w' => e = .returned (.int .i64 (left r m.sz)) ∧ Below w.heap.size w w' := by
  have HB : Hid (∀ o, Below w.heap.size w (w.alloc o)) := fun o => (Below.refl _ w).alloc (Nat.le_refl _) o
  have hn := hm.1
  unfold maxLen at hn
  clear hm
  unfold Met.sz
  generalize m.name = s at *
  by_cases h : (s.size : Int) ≤ r
  · rw [left_ok h]
    go_enter Tryz.func50, Tryz.ntmps50
    go_wp2
    go_ret
    exact ⟨rfl, HB.out _⟩
  · rw [left_no h]
    go_enter Tryz.func50, Tryz.ntmps50
    go_wp2
    go_ret
    exact ⟨rfl, HB.out _⟩

set_option maxHeartbeats 1000000 in
theorem sz_not (m : Not) (hm : m.ok) (r : Int) (h0 : 0 ≤ r) (h1 : r ≤ 1048576) (w : World) :
    Calls Tryz.prog 51 #[.agg #[.string m.key, .string m.text], .int .i64 r] w fun e w' => e = .returned (.int .i64 (left r m.sz)) ∧ Below w.heap.size w w' := by
  have HB : Hid (∀ o, Below w.heap.size w (w.alloc o)) := fun o => (Below.refl _ w).alloc (Nat.le_refl _) o
  have hn := hm.1
  have hn' := hm.2
  unfold maxLen at hn hn'
  clear hm
  unfold Not.sz
  generalize m.key = s at *
  generalize m.text = t at *
  by_cases h : (s.size : Int) ≤ r
  · by_cases h' : (t.size : Int) ≤ r - s.size
    · have e : left r (s.size + t.size) = r - s.size - t.size := by rw [left_ok (by omega)]; omega
      rw [e]
      clear e
      go_enter Tryz.func51, Tryz.ntmps51
      go_wp2
      go_ret
      exact ⟨rfl, HB.out _⟩
    · rw [left_no (by omega)]
      go_enter Tryz.func51, Tryz.ntmps51
      go_wp2
      go_ret
      exact ⟨rfl, HB.out _⟩
  · rw [left_no (by omega)]
    go_enter Tryz.func51, Tryz.ntmps51
    go_wp2
    go_ret
    exact ⟨rfl, HB.out _⟩


set_option maxHeartbeats 1000000 in
theorem sz_mets {v : Value} {xs : List Met} {F : List Nat} (w : World) (hs : MetsAt w v xs F) (r : Int) (h0 : 0 ≤ r) (h1 : r ≤ 1048576) :
    Calls Tryz.prog 19 #[v, .int .i64 r] w fun e w' => e = .returned (.int .i64 (left r (xs.length + (xs.map Met.sz).sum))) ∧ Below w.heap.size w w' := by
  obtain ⟨o, cap, b, off, rfl, hlc, hcm, ho, -, hcell, -⟩ := hs
  have HC := Lib.hid hcell
  have HO := Lib.hid ho
  clear hcell ho
  unfold maxLen at hcm
  by_cases hl : (xs.length : Int) ≤ r
  · go_enter Tryz.func19, Tryz.ntmps19
    go_wp2
    go_loopw [1, 5] (fun l i wr => ∃ k : Nat, k ≤ xs.length ∧ i = .int .i64 k ∧ l = .int .i64 (r - xs.length - ((xs.take k).map Met.sz).sum) ∧ (((xs.take k).map Met.sz).sum : Int) ≤ r - xs.length ∧ Below w.heap.size w wr) (fun _ i _ => xs.length - (intOf i).toNat)
    case atStart => exact ⟨0, Nat.zero_le _, rfl, by simp, by simp; omega, Below.refl _ _⟩
    case round =>
      obtain ⟨k, hk, rfl, rfl, hr, hb⟩ := hrel
      have HB := Lib.hid hb
      by_cases hlt : k < xs.length
      · have ho := HO.out (by omega)
        subst ho
        have c0 : wr.cell? ⟨b, off + k * 3, none⟩ = some (.string xs[k].name) := by
          have := (HC.out k hlt).2 0 (by decide)
          rw [hb.cell (by exact World.block_lt_of_cell? _ _ this)]; exact this
        have c1 : wr.cell? ⟨b, off + k * 3 + 1, none⟩ = some (.int .i64 xs[k].kind) := by
          have := (HC.out k hlt).2 1 (by decide)
          rw [hb.cell (by exact World.block_lt_of_cell? _ _ this)]; exact this
        have c2 : wr.cell? ⟨b, off + k * 3 + 2, none⟩ = some (.int .i64 xs[k].goal) := by
          have := (HC.out k hlt).2 2 (by decide)
          rw [hb.cell (by exact World.block_lt_of_cell? _ _ this)]; exact this
        clear hb
        have HS := Lib.hid (sum_take xs Met.sz k hlt)
        have HM := Lib.hid (sum_take_le xs Met.sz (k + 1))
        have hih := Lib.hid (sz_met xs[k] (HC.out k hlt).1)
        generalize hq : ((xs.take k).map Met.sz).sum = q at *
        generalize hx : xs[k] = x at *
        clear hx hq
        by_cases hn : (x.sz : Int) ≤ r - xs.length - q
        · have HQ := Lib.hid (left_ok hn)
          go_wp2_with (first | (go_at_call 50; refine (hih.out _ (by omega) (by omega) _).mono ?_; rintro e w1 ⟨rfl, hb1⟩; rw [HQ.out]) | fail)
          have g1 := HS.out
          exact ⟨⟨k + 1, by omega, by go_num, by rw [g1]; congr 1; omega, by rw [g1]; omega, HB.out.trans (hb1.mono HB.out.size)⟩, by simp [intOf]; omega⟩
        · have HQ := Lib.hid (left_no hn)
          go_wp2_with (first | (go_at_call 50; refine (hih.out _ (by omega) (by omega) _).mono ?_; rintro e w1 ⟨rfl, hb1⟩; rw [HQ.out]) | fail)
          have g1 := HS.out
          have g2 := HM.out
          go_ret
          refine ⟨?_, HB.out.trans (hb1.mono HB.out.size)⟩
          rw [left_no (by omega)]
          rfl
      · have e : xs.take k = xs := List.take_of_length_le (by omega)
        rw [e] at hr ⊢
        go_wp2
        go_ret
        refine ⟨?_, HB.out⟩
        rw [left_ok (by omega)]
        exact ret_int (by omega)
  · go_enter Tryz.func19, Tryz.ntmps19
    go_wp2
    go_ret
    refine ⟨?_, Below.refl _ _⟩
    rw [left_no (by omega)]
    rfl


set_option maxHeartbeats 1000000 in
theorem sz_nots {v : Value} {xs : List Not} {F : List Nat} (w : World) (hs : NotsAt w v xs F) (r : Int) (h0 : 0 ≤ r) (h1 : r ≤ 1048576) :
    Calls Tryz.prog 20 #[v, .int .i64 r] w fun e w' => e = .returned (.int .i64 (left r (xs.length + (xs.map Not.sz).sum))) ∧ Below w.heap.size w w' := by
  obtain ⟨o, cap, b, off, rfl, hlc, hcm, ho, -, hcell, -⟩ := hs
  have HC := Lib.hid hcell
  have HO := Lib.hid ho
  clear hcell ho
  unfold maxLen at hcm
  by_cases hl : (xs.length : Int) ≤ r
  · go_enter Tryz.func20, Tryz.ntmps20
    go_wp2
    go_loopw [1, 5] (fun l i wr => ∃ k : Nat, k ≤ xs.length ∧ i = .int .i64 k ∧ l = .int .i64 (r - xs.length - ((xs.take k).map Not.sz).sum) ∧ (((xs.take k).map Not.sz).sum : Int) ≤ r - xs.length ∧ Below w.heap.size w wr) (fun _ i _ => xs.length - (intOf i).toNat)
    case atStart => exact ⟨0, Nat.zero_le _, rfl, by simp, by simp; omega, Below.refl _ _⟩
    case round =>
      obtain ⟨k, hk, rfl, rfl, hr, hb⟩ := hrel
      have HB := Lib.hid hb
      by_cases hlt : k < xs.length
      · have ho := HO.out (by omega)
        subst ho
        have c0 : wr.cell? ⟨b, off + k * 2, none⟩ = some (.string xs[k].key) := by
          have := (HC.out k hlt).2 0 (by decide)
          rw [hb.cell (by exact World.block_lt_of_cell? _ _ this)]; exact this
        have c1 : wr.cell? ⟨b, off + k * 2 + 1, none⟩ = some (.string xs[k].text) := by
          have := (HC.out k hlt).2 1 (by decide)
          rw [hb.cell (by exact World.block_lt_of_cell? _ _ this)]; exact this
        clear hb
        have HS := Lib.hid (sum_take xs Not.sz k hlt)
        have HM := Lib.hid (sum_take_le xs Not.sz (k + 1))
        have hih := Lib.hid (sz_not xs[k] (HC.out k hlt).1)
        generalize hq : ((xs.take k).map Not.sz).sum = q at *
        generalize hx : xs[k] = x at *
        clear hx hq
        by_cases hn : (x.sz : Int) ≤ r - xs.length - q
        · have HQ := Lib.hid (left_ok hn)
          go_wp2_with (first | (go_at_call 51; refine (hih.out _ (by omega) (by omega) _).mono ?_; rintro e w1 ⟨rfl, hb1⟩; rw [HQ.out]) | fail)
          have g1 := HS.out
          exact ⟨⟨k + 1, by omega, by go_num, by rw [g1]; congr 1; omega, by rw [g1]; omega, HB.out.trans (hb1.mono HB.out.size)⟩, by simp [intOf]; omega⟩
        · have HQ := Lib.hid (left_no hn)
          go_wp2_with (first | (go_at_call 51; refine (hih.out _ (by omega) (by omega) _).mono ?_; rintro e w1 ⟨rfl, hb1⟩; rw [HQ.out]) | fail)
          have g1 := HS.out
          have g2 := HM.out
          go_ret
          refine ⟨?_, HB.out.trans (hb1.mono HB.out.size)⟩
          rw [left_no (by omega)]
          rfl
      · have e : xs.take k = xs := List.take_of_length_le (by omega)
        rw [e] at hr ⊢
        go_wp2
        go_ret
        refine ⟨?_, HB.out⟩
        rw [left_ok (by omega)]
        exact ret_int (by omega)
  · go_enter Tryz.func20, Tryz.ntmps20
    go_wp2
    go_ret
    refine ⟨?_, Below.refl _ _⟩
    rw [left_no (by omega)]
    rfl


set_option maxHeartbeats 1000000 in
theorem sz_order {O : Ord} {mv nv : Value} {FM FN : List Nat} (w : World) (ho : OrdAt w O mv nv FM FN) (r : Int) (h0 : 0 ≤ r) (h1 : r ≤ 1048576) :
    Calls Tryz.prog 6 #[.agg #[.string O.name, .string O.target, .int .i64 O.low, .int .i64 O.high, mv, .int .i64 O.pace.up, .int .i64 O.pace.down, .int .i64 O.pace.ups, .int .i64 O.pace.downs, nv], .int .i64 r] w fun e w' => e = .returned (.int .i64 (left r O.sz)) ∧ Below w.heap.size w w' := by
  have HX := Lib.hid (Bx.start w #[.string O.name, .string O.target, .int .i64 O.low, .int .i64 O.high, mv, .int .i64 O.pace.up, .int .i64 O.pace.down, .int .i64 O.pace.ups, .int .i64 O.pace.downs, nv] 27)
  have hn := ho.name
  have ht := ho.target
  unfold maxLen at hn ht
  have HM := Lib.hid fun wr (hb : Below w.heap.size w wr) => sz_mets wr (RowAt.stay ho.mets (by decide) hb (Nat.le_refl _))
  have HN := Lib.hid fun wr (hb : Below w.heap.size w wr) => sz_nots wr (RowAt.stay ho.notes (by decide) hb (Nat.le_refl _))
  obtain ⟨⟨o1, c1, rfl⟩, o2, c2, rfl⟩ := ho.slices
  clear ho
  unfold Ord.sz
  generalize O.mets.length + (O.mets.map Met.sz).sum = m at *
  generalize O.notes.length + (O.notes.map Not.sz).sum = n at *
  generalize O.name = s at *
  generalize O.target = t at *
  generalize O.low = x2 at *
  generalize O.high = x3 at *
  generalize O.pace.up = x5 at *
  generalize O.pace.down = x6 at *
  generalize O.pace.ups = x7 at *
  generalize O.pace.downs = x8 at *
  generalize O.mets.length = l4 at *
  generalize O.notes.length = l9 at *
  by_cases h2 : (s.size : Int) ≤ r
  case neg =>
    rw [left_no (by omega)]
    go_enter Tryz.func6, Tryz.ntmps6
    go_wp2
    go_ret
    exact ⟨rfl, HX.out.below⟩
  by_cases h3 : (t.size : Int) ≤ r - s.size
  case neg =>
    rw [left_no (by omega)]
    go_enter Tryz.func6, Tryz.ntmps6
    go_wp2
    go_ret
    exact ⟨rfl, HX.out.below⟩
  by_cases h4 : (m : Int) ≤ r - s.size - t.size
  case neg =>
    have H4 := Lib.hid (left_no h4)
    rw [left_no (by omega)]
    go_enter Tryz.func6, Tryz.ntmps6
    go_wp2_with (first
      | (go_at_call 19; refine (HM.out _ HX.out.below _ (by omega) (by omega)).mono ?_; rintro e w1 ⟨rfl, hb1⟩; rw [H4.out]; replace HX := Lib.hid (HX.out.next hb1); clear hb1)
      | fail)
    go_ret
    exact ⟨rfl, HX.out.below⟩
  have H4 := Lib.hid (left_ok h4)
  by_cases h5 : (n : Int) ≤ r - s.size - t.size - m
  · have H5 := Lib.hid (left_ok h5)
    have e : left r (s.size + t.size + m + n) = r - s.size - t.size - m - n := by rw [left_ok (by omega)]; omega
    rw [e]
    clear e
    go_enter Tryz.func6, Tryz.ntmps6
    go_wp2_with (first
      | (go_at_call 19; refine (HM.out _ HX.out.below _ (by omega) (by omega)).mono ?_; rintro e w1 ⟨rfl, hb1⟩; rw [H4.out]; replace HX := Lib.hid (HX.out.next hb1); clear hb1; have c9 := HX.out.cell 9)
      | (go_at_call 20; refine (HN.out _ HX.out.below _ (by omega) (by omega)).mono ?_; rintro e w1 ⟨rfl, hb1⟩; rw [H5.out]; replace HX := Lib.hid (HX.out.next hb1); clear hb1)
      | fail)
    go_ret
    exact ⟨rfl, HX.out.below⟩
  · have H5 := Lib.hid (left_no h5)
    rw [left_no (by omega)]
    go_enter Tryz.func6, Tryz.ntmps6
    go_wp2_with (first
      | (go_at_call 19; refine (HM.out _ HX.out.below _ (by omega) (by omega)).mono ?_; rintro e w1 ⟨rfl, hb1⟩; rw [H4.out]; replace HX := Lib.hid (HX.out.next hb1); clear hb1; have c9 := HX.out.cell 9)
      | (go_at_call 20; refine (HN.out _ HX.out.below _ (by omega) (by omega)).mono ?_; rintro e w1 ⟨rfl, hb1⟩; rw [H5.out]; replace HX := Lib.hid (HX.out.next hb1); clear hb1)
      | fail)
    go_ret
    exact ⟨rfl, HX.out.below⟩
end Go.Proofs.YtfmkhogpnnobeaaGreatDoor
