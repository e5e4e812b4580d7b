/- The walk of RowOwns: it returns true at all arguments and leaves what was there as it was. -/
import Derived.Test.YtcgkamceglennaaRowO
import Derived.Test.YtcgkamceglennaaBitsI
import Derived.StillTailTactics
namespace Go.Proofs.Ytcgkamceglennaa.rowOwns
open Go.RowKit

theorem layCell {w : World} {B : Nat} {a : World} {g : List Int} (hB : Below B a w) (hg : g.length = 7) (h : B ≤ w.heap.size) :
    Room (w.alloc (.cells (iA (zeros 7)) 24)) w.heap.size 0 7 ∧ IBlk ((w.alloc (.cells (iA (zeros 7)) 24)).setCells w.heap.size 0 (iV g)) w.heap.size 24 g ∧
      Only (fun _ => False) w ((w.alloc (.cells (iA (zeros 7)) 24)).setCells w.heap.size 0 (iV g)) ∧ Below B a ((w.alloc (.cells (iA (zeros 7)) 24)).setCells w.heap.size 0 (iV g)) := by
  have hnew : IBlk (w.alloc (.cells (iA (zeros 7)) 24)) w.heap.size 24 (zeros 7) := IBlk.new _ _ _
  have hO : Only (fun _ => False) w ((w.alloc (.cells (iA (zeros 7)) 24)).setCells w.heap.size 0 (iV g)) := Only.setCells _ (.inr (Nat.le_refl _)) _ _ ((Only.refl _ _).alloc _)
  exact ⟨hnew.room 0 7 (by rw [zeros_length]; decide), hnew.fill (by rw [hg, zeros_length]), hO, below_only hB hO (fun _ e => e.elim) h⟩
theorem mod5 (who : Int) : ∃ Q q : Nat, bits .and .i64 who 255 = (Q : Int) ∧ (Q : Int) % 5 = (q : Int) ∧ q < 5 := by
  refine ⟨(who % 256).toNat, (who % 256).toNat % 5, ?_, by omega, by omega⟩
  rw [show bits .and .i64 who 255 = who % 256 from i64_and_mask who 8 (by omega)]; omega

attribute [local go_sem ↓] loadRowF_fold loadCellF_fold storeCellF_fold allocCellF_fold buildCellF_fold
attribute [local go_sem] loadRowF_has loadCellF_has storeCellF_has allocCellF_run buildCellF_none
set_option maxRecDepth 100000 in
set_option maxHeartbeats 6400000 in
theorem walk (w : World) (xs : List Int) (hl : xs.length = 174) (hw : wf64 xs) (who : Int) (_ : -9223372036854775808 ≤ who) (_ : who ≤ 9223372036854775807) (of : Int) (_ : -9223372036854775808 ≤ of) (_ : of ≤ 9223372036854775807) :
    Calls Try.prog 4 #[.agg (iA xs), .int .i64 who, .int .i64 of] w fun e w' => e = .returned (.bool true) ∧ Below w.heap.size w w' := by
  obtain ⟨Q, q, hQ, hq, hq5⟩ := mod5 who
  obtain ⟨O, o, hO_, ho, ho5⟩ := mod5 of
  have hI0 : IBlk (w.alloc (.cells (iA xs) 28)) w.heap.size 28 xs := IBlk.new _ _ _
  have hB0 : Below w.heap.size w (w.alloc (.cells (iA xs) 28)) := (Below.refl _ _).alloc (Nat.le_refl _) _
  have HR := lawRight_any xs hl hw
  have HOW := fun w => own_any xs hl q hq5 w
  have HCE := fun (k : Nat) (hk : k < 4) w => cellRow_any xs hl (fun i hi => (wf_bd hw (29 + i) (by omega)).2) q o k hq5 ho5 hk w
  have HX := hide hl
  have HW := hide hw
  clear hl hw
  go_enter Try.func4, Try.ntmps4
  go_wp2_with fail
  generalize w.alloc (.cells (iA xs) 28) = w0 at hI0 hB0
  generalize hbe : w.heap.size = b at hI0
  (with_reducible refine (fit4_any w0).mono ?_)
  rintro e w1 ⟨rfl, hb1⟩
  have hI1 := hI0.below hb1 hI0.lt
  have hB1 := hB0.trans (hb1.mono hB0.size)
  clear hI0 hB0 hb1
  obtain ⟨r1, h1⟩ := hI1.whole HX.out
  go_wp2_with fail
  (with_reducible refine (HR w1).mono ?_)
  rintro e w2 ⟨rfl, hb2⟩
  have hI2 := hI1.below hb2 hI1.lt
  have hB2 := hB1.trans (hb2.mono hB1.size)
  clear hI1 hB1 hb2 r1 h1 HR
  cases hok : okRow xs with
  | false =>
    go_wp2_with fail
    go_ret
    first | exact ⟨rfl, hB2⟩ | exact ⟨rfl, hbe ▸ hB2⟩
  | true =>
  clear hok
  go_upto_region 6 with fail
  rw [hq, ho]
  clear hQ hq hO_ ho
  obtain ⟨r1, h1⟩ := hI2.whole HX.out
  go_wp2_with fail
  (with_reducible refine (HOW w2).mono ?_)
  rintro e w3 ⟨⟨g, c, rfl, hO3⟩, hb3⟩
  have hI3 := hI2.below hb3 hI2.lt
  have hB3 := hB2.trans (hb3.mono hB2.size)
  have HCA := hide (fun i (hi : i < 5) (h : (i == q || heirB xs i) = true) => cnt_at (heirB xs) hq5 hi h)
  have HCS := hide (cnt_step (heirB xs) q)
  have HCL := hide (cnt_all (heirB xs) q)
  have HSN : Hid ((sortedL (heirB xs) q).length ≤ 5) := hide (by have := own_sorted (heirB xs) hq5; omega)
  clear hI2 hB2 hb3 r1 h1 HOW
  generalize hsl : sortedL (heirB xs) q = sl at *
  clear hsl
  generalize hn : sl.length = n at *
  go_wp2_with fail
  go_loopw [8, 27] (fun s8 s27 wr => ∃ i : Nat, i ≤ 5 ∧ s27 = .int .i64 i ∧ s8 = .int .i64 (cntL (heirB xs) q i) ∧ IBlk wr b 28 xs ∧ IOwn wr w2.heap.size g n c sl ∧ Below w.heap.size w wr) (fun _ s27 _ => 5 - (intOf s27).toNat)
  case atStart => exact ⟨0, by omega, rfl, rfl, hI3, hO3, hB3⟩
  case round =>
    clear hI3 hO3 hB3
    obtain ⟨i, hi, rfl, rfl, hI, hO, hB⟩ := hrel
    by_cases hlt : i < 5
    · have hst := HCS.out i
      have ch : wr.cell? ⟨b, 29 + i, none⟩ = some (.int .i64 (xs.getD (29 + i) 0)) := hI.cell (by go_light; have := HX.out; omega)
      by_cases hp : (i == q || heirB xs i) = true
      · obtain ⟨ha, hg⟩ := HCA.out i hlt hp
        rw [if_pos hp] at hst
        obtain ⟨co, _⟩ := hO.cell (k := cntL (heirB xs) q i) (by go_light; omega)
        rw [hg] at co
        have HST := hide hst
        have dn : decide ((n : Int) ≤ ((cntL (heirB xs) q i : Nat) : Int)) = false := decide_eq_false (by go_light; omega)
        have dl : ((cntL (heirB xs) q i : Nat) : Int) < (n : Int) := by go_light; omega
        have hcb : cntL (heirB xs) q i < 5 := by go_light; have := HSN.out; omega
        clear hst hg ha
        by_cases e : i = q
        · subst e
          clear hp
          generalize xs.getD (29 + i) 0 = hh at ch
          generalize hcn : cntL (heirB xs) i i = cn at *
          clear hcn
          go_wp2_with fail
          go_roundw
          case rel => go_light; exact ⟨i + 1, by omega, by go_num, by rw [HST.out]; go_num, hI, hO, hB⟩
          case measure => go_light; simp [intOf]; omega
        · have e' : ((i : Int) == (q : Int)) = false := by simp; go_light; omega
          have dh : decide (0 < xs.getD (29 + i) 0) = true := by
            have : heirB xs i = true := by simpa [e] using hp
            exact this
          clear hp
          generalize xs.getD (29 + i) 0 = hh at ch dh
          generalize hcn : cntL (heirB xs) q i = cn at *
          clear hcn
          go_wp2_with fail
          go_roundw
          case rel => go_light; exact ⟨i + 1, by omega, by go_num, by rw [HST.out]; go_num, hI, hO, hB⟩
          case measure => go_light; simp [intOf]; omega
      · rw [if_neg hp, Nat.add_zero] at hst
        have HST := hide hst
        have e : ¬ i = q := fun e => hp (by simp [e])
        have e' : ((i : Int) == (q : Int)) = false := by simp; go_light; omega
        have dh : decide (0 < xs.getD (29 + i) 0) = false := by
          have : heirB xs i = false := by
            rw [← Bool.not_eq_true]
            exact fun h => hp (by simp [h])
          exact this
        clear hp hst
        generalize xs.getD (29 + i) 0 = hh at ch dh
        generalize hcn : cntL (heirB xs) q i = cn at *
        clear hcn
        go_wp2_with fail
        go_roundw
        case rel => go_light; exact ⟨i + 1, by omega, by go_num, by rw [HST.out]; rfl, hI, hO, hB⟩
        case measure => go_light; simp [intOf]; omega
    · have hi5 : i = 5 := by go_light; omega
      have hcn : cntL (heirB xs) q i = n := by rw [hi5]; exact HCL.out
      rw [hcn]
      clear hcn hi5 HCA HCS HCL hi hO
      go_wp2_with fail
      go_loopw [55] (fun s55 wr => ∃ k : Nat, k ≤ 4 ∧ s55 = .int .i64 k ∧ IBlk wr b 28 xs ∧ Below w.heap.size w wr) (fun s55 _ => 4 - (intOf s55).toNat)
      case atStart => exact ⟨0, by omega, rfl, hI, hB⟩
      case round =>
        clear hI hB hlt
        obtain ⟨k, hk, rfl, hI, hB⟩ := hrel
        by_cases hlt : k < 4
        · obtain ⟨r1, h1⟩ := hI.whole HX.out
          have HC := HCE k hlt wr
          have hcl := cellV_length HX.out (q := q) ho5 hlt
          have HV : Hid (cellV xs q o k = if o = q then ((xs.drop (1 + k * 7)).take 7, xs.getD 0 0) else if 0 < xs.getD (29 + o) 0 then ((xs.drop (34 + o * 28 + k * 7)).take 7, xs.getD (29 + o) 0 - 1) else (zeros 7, -1)) := hide rfl
          obtain ⟨cc, cv, hce⟩ : ∃ cc cv, cellV xs q o k = (cc, cv) := ⟨_, _, rfl⟩
          rw [hce] at HC hcl HV
          clear hce
          have hic : Is 7 cc := hcl
          go_wp2_with fail
          (with_reducible refine HC.mono ?_)
          rintro e w5 ⟨rfl, hx⟩
          have hI5 := hI.below hx hI.lt
          have hB5 := hB.trans (hx.mono hB.size)
          clear hI hB hx r1 h1 HC
          obtain ⟨rm, hL, hO, hB6⟩ := layCell (g := cc) hB5 hcl hB5.size
          have hI6 := hI5.only hO (fun h => h)
          go_upto_region 22 with fail
          generalize hpe : w5.heap.size = p at hL hO hI6 hB6
          generalize (w5.alloc (.cells (iA (zeros 7)) 24)).setCells p 0 (iV cc) = w6 at hL hI6 hB6 hO
          clear hpe rm hI5 hB5 hO
          have hId := hI6.drew
          have hBd := hB6.drew
          obtain ⟨rl, hl'⟩ := hL.drew.whole hcl
          by_cases e : o = q
          · have HV2 := hide (HV.out.trans (if_pos e))
            obtain ⟨hcc, hcv⟩ := Prod.mk.inj HV2.out
            subst e
            obtain ⟨rx, hx⟩ := hI6.drew.got (1 + k * 7) 7 (by go_light; have := HX.out; omega)
            rw [← hcc] at rx
            have cx : w6.drew.cell? ⟨b, 0, none⟩ = some (.int .i64 cv) := by rw [hcv]; exact hI6.drew.cell (by go_light; have := HX.out; omega)
            have hwc : wf64 cc := by rw [hcc]; exact wf64_chunk HW.out _ _
            have eq1 := Try.eqCellT hcl hwc
            clear HV HV2 hcc hcv hwc hI6 hB6
            go_upto_region 23 with fail
            go_cut [88] (fun s88 wx => s88 = .bool false ∧ IBlk wx b 28 xs ∧ Below w.heap.size w wx)
            case first =>
              refine wp_region_still_lit (by kernel_rfl) (by kernel_rfl) ?_
              change wpStill _ _ w6.drew _ _ _
              repeat still_step
              refine wpStill_nil ?_
              change Exit.then _ _ _ _ w6.drew
              generalize w6.drew = w9 at hId hBd
              clear rx hx cx rl hl' hL
              go_wp2_with fail
              go_meet
              exact ⟨rfl, hId, hBd⟩
            case rest =>
              clear rx hx cx rl hl' hL hId hBd
              obtain ⟨rfl, hI, hB⟩ := hcut
              go_wp2_with fail
              go_roundw
              case rel => go_light; exact ⟨k + 1, by omega, by go_num, hI, hB⟩
              case measure => go_light; simp [intOf]; omega
          · have e' : ((o : Int) == (q : Int)) = false := by simp; go_light; omega
            have HV1 := hide (HV.out.trans (if_neg e))
            clear HV
            have ch : w6.cell? ⟨b, 29 + o, none⟩ = some (.int .i64 (xs.getD (29 + o) 0)) := hI6.cell (by go_light; have := HX.out; omega)
            have hub := (wf_bd HW.out (29 + o) (by go_light; have := HX.out; omega)).2
            by_cases hp : 0 < xs.getD (29 + o) 0
            · have dp := decide_eq_true hp
              obtain ⟨hcc, hcv⟩ := Prod.mk.inj (HV1.out.trans (if_pos hp))
              obtain ⟨rx, hx⟩ := hI6.drew.got (34 + o * 28 + k * 7) 7 (by go_light; have := HX.out; omega)
              rw [← hcc] at rx
              have chd : w6.drew.cell? ⟨b, 29 + o, none⟩ = some (.int .i64 (xs.getD (29 + o) 0)) := ch
              have hwc : wf64 cc := by rw [hcc]; exact wf64_chunk HW.out _ _
              have eq1 := Try.eqCellT hcl hwc
              have hwr : IntKind.i64.wrap (xs.getD (29 + o) 0 - 1) = xs.getD (29 + o) 0 - 1 := IntWalk.i64_in _ (by go_light; omega)
              rw [hcv]
              have ho5i : (o : Int) < 5 := by go_light; omega
              have ho0i : (0 : Int) ≤ o := by go_light; omega
              have hk4i : (k : Int) < 4 := by go_light; omega
              clear HV1 hcc hcv hwc hI6 hB6
              generalize xs.getD (29 + o) 0 = hh at ch chd dp hwr hub hp
              go_upto_region 26 with fail
              go_cut [111] (fun s111 wx => s111 = .bool false ∧ IBlk wx b 28 xs ∧ Below w.heap.size w wx)
              case first =>
                refine wp_region_still_lit (by kernel_rfl) (by kernel_rfl) ?_
                change wpStill _ _ w6.drew _ _ _
                repeat still_step
                refine wpStill_nil ?_
                change Exit.then _ _ _ _ w6.drew
                generalize w6.drew = w9 at hId hBd
                clear rx hx rl hl' hL ch chd
                go_wp2_with fail
                go_meet
                exact ⟨rfl, hId, hBd⟩
              case rest =>
                clear rx hx rl hl' hL hId hBd ch chd
                obtain ⟨rfl, hI, hB⟩ := hcut
                go_wp2_with fail
                go_roundw
                case rel => go_light; exact ⟨k + 1, by omega, by go_num, hI, hB⟩
                case measure => go_light; simp [intOf]; omega
            · have dp := decide_eq_false hp
              obtain ⟨hcc, hcv⟩ := Prod.mk.inj (HV1.out.trans (if_neg hp))
              obtain ⟨rl2, hl2⟩ := hL.whole hcl
              rw [hcc] at rl2
              rw [hcv]
              have eq1 := Try.eqCellT (xs := zeros 7) (zeros_length 7) (wf_zeros 7)
              clear HV1 hcc hcv hId hBd rl hl'
              generalize xs.getD (29 + o) 0 = hh at ch dp
              go_wp2_with fail
              go_roundw
              case rel => go_light; exact ⟨k + 1, by omega, by go_num, hI6, hB6⟩
              case measure => go_light; simp [intOf]; omega
        · obtain rfl : k = 4 := by go_light; omega
          go_wp2_with fail
          go_ret
          first | exact ⟨rfl, hB⟩ | exact ⟨rfl, hbe ▸ hB⟩
end Go.Proofs.Ytcgkamceglennaa.rowOwns
