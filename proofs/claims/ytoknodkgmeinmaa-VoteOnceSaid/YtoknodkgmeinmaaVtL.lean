/- What is read of a vote that lies in memory. -/
import Derived.Test.YtoknodkgmeinmaaVtP
namespace Go.Proofs.Ytoknodkgmeinmaa
open Go.RowKit

section
variable {w : World} {p : Nat} {t : TypeId} {x : Vt}
theorem vt_lit (hx : x.Ok) : ∃ a b c d e f g k u j, zV x.v = [a, b, c, d, e, f, g] ∧ x.c = [k, u, j] := by
  have h1 := zV_length hx.v.len
  have h2 := hx.c
  match hv : zV x.v, h1 with
  | [a, b, c, d, e, f, g], _ =>
    match hh : x.c, h2 with
    | [k, u, j], _ => exact ⟨a, b, c, d, e, f, g, k, u, j, rfl, rfl⟩
theorem vt_gotV (hx : x.Ok) (h : IBlk w p t (vtL x)) : rowAt w p 0 7 = iA (zV x.v) ∧ HasRow w p 0 7 := by
  have := h.got 0 7 (by rw [vtL_length hx]; decide)
  have e : ((vtL x).drop 0).take 7 = zV x.v := by
    obtain ⟨a, b, c, d, e, f, g, k, u, j, h1, h2⟩ := vt_lit hx
    rw [vtL, h1, h2]; rfl
  rwa [e] at this
theorem vt_gotB (hx : x.Ok) (h : IBlk w p t (vtL x)) : rowAt w p 7 2 = iA ([x.r, x.w]) ∧ HasRow w p 7 2 := by
  have := h.got 7 2 (by rw [vtL_length hx]; decide)
  have e : ((vtL x).drop 7).take 2 = [x.r, x.w] := by
    obtain ⟨a, b, c, d, e, f, g, k, u, j, h1, h2⟩ := vt_lit hx
    rw [vtL, h1, h2]; rfl
  rwa [e] at this
theorem vt_gotC (hx : x.Ok) (h : IBlk w p t (vtL x)) : rowAt w p 9 3 = iA (x.c) ∧ HasRow w p 9 3 := by
  have := h.got 9 3 (by rw [vtL_length hx]; decide)
  have e : ((vtL x).drop 9).take 3 = x.c := by
    obtain ⟨a, b, c, d, e, f, g, k, u, j, h1, h2⟩ := vt_lit hx
    rw [vtL, h1, h2]; rfl
  rwa [e] at this
theorem vt_gotH (hx : x.Ok) (h : IBlk w p t (vtL x)) : rowAt w p 12 2 = iA ([x.hr, x.hw]) ∧ HasRow w p 12 2 := by
  have := h.got 12 2 (by rw [vtL_length hx]; decide)
  have e : ((vtL x).drop 12).take 2 = [x.hr, x.hw] := by
    obtain ⟨a, b, c, d, e, f, g, k, u, j, h1, h2⟩ := vt_lit hx
    rw [vtL, h1, h2]; rfl
  rwa [e] at this
theorem vt_vo (hx : x.Ok) (h : IBlk w p t (vtL x)) : w.cell? ⟨p, 14, none⟩ = some (.int .i64 (x.vo : Int)) :=
  h.cellAt 14 _ (by
    obtain ⟨a, b, c, d, e, f, g, k, u, j, h1, h2⟩ := vt_lit hx
    rw [vtL, h1, h2]; rfl)
theorem vt_tk (hx : x.Ok) (h : IBlk w p t (vtL x)) : w.cell? ⟨p, 15, none⟩ = some (.int .i64 (x.tk : Int)) :=
  h.cellAt 15 _ (by
    obtain ⟨a, b, c, d, e, f, g, k, u, j, h1, h2⟩ := vt_lit hx
    rw [vtL, h1, h2]; rfl)
/-- Who vowed, who took, what was told: written. -/
theorem vt_setVo (hx : x.Ok) (m : Nat) : (vtL x).set 14 (m : Int) = vtL { x with vo := m } := by
  obtain ⟨a, b, c, d, e, f, g, k, u, j, h1, h2⟩ := vt_lit hx
  rw [vtL, vtL, h1, h2]; rfl
theorem vt_setTk (hx : x.Ok) (m : Nat) : (vtL x).set 15 (m : Int) = vtL { x with tk := m } := by
  obtain ⟨a, b, c, d, e, f, g, k, u, j, h1, h2⟩ := vt_lit hx
  rw [vtL, vtL, h1, h2]; rfl
theorem vt_setHad (hx : x.Ok) (hr hw : Int) : (vtL x).take 12 ++ [hr, hw] ++ (vtL x).drop (12 + [hr, hw].length) = vtL { x with hr := hr, hw := hw } := by
  obtain ⟨a, b, c, d, e, f, g, k, u, j, h1, h2⟩ := vt_lit hx
  rw [vtL, vtL, h1, h2]; rfl
theorem vt_setChg (hx : x.Ok) {c : List Int} (hc : c.length = 3) : (vtL x).take 9 ++ c ++ (vtL x).drop (9 + c.length) = vtL { x with c := c } := by
  obtain ⟨a, b, c', d, e, f, g, k, u, j, h1, h2⟩ := vt_lit hx
  rw [vtL, vtL, h1, h2]
  match c, hc with
  | [y1, y2, y3], _ => rfl
end
end Go.Proofs.Ytoknodkgmeinmaa
