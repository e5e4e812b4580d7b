/- Books, rows of five, cells of five by value, folded: laws for the walk. -/
import Derived.Test.YtlegcjniakocoaaRowO
import Derived.Test.YtlegcjniakocoaaRowL
import Derived.Test.YtlegcjniakocoaaRowGA
namespace Go.Proofs.Ytlegcjniakocoaa
open Go.RowKit

theorem Try.infoBook : (Try.prog.info? 34).map (·.size) = some 870 := by kernel_rfl
theorem Try.infoRows : (Try.prog.info? 32).map (·.size) = some 870 := by kernel_rfl
theorem Try.infoC5 : (Try.prog.info? 58).map (·.size) = some 35 := by kernel_rfl
theorem Try.allocBook (w : World) : (Instr.alloc 34 true (.tuple #[])).run Try.prog w = .ok (.pointer (some ⟨w.heap.size, 0, none⟩)) (w.alloc (.cells (iA (zeros 870)) 34)) := by kernel_rfl
theorem Try.allocRows (w : World) : (Instr.alloc 32 true (.tuple #[])).run Try.prog w = .ok (.pointer (some ⟨w.heap.size, 0, none⟩)) (w.alloc (.cells (iA (zeros 870)) 32)) := by kernel_rfl
theorem Try.allocC5 (w : World) : (Instr.alloc 58 true (.tuple #[])).run Try.prog w = .ok (.pointer (some ⟨w.heap.size, 0, none⟩)) (w.alloc (.cells (iA (zeros 35)) 58)) := by kernel_rfl
def allocBookF (b : Bool) (x : Value) : Sem Value := Instr.alloc 34 b x
theorem allocBookF_fold (b : Bool) (x : Value) : Instr.alloc 34 b x = allocBookF b x := rfl
theorem allocBookF_run (w : World) : (allocBookF true (.tuple #[])).run Try.prog w = .ok (.pointer (some ⟨w.heap.size, 0, none⟩)) (w.alloc (.cells (iA (zeros 870)) 34)) := Try.allocBook w
def allocRowsF (b : Bool) (x : Value) : Sem Value := Instr.alloc 32 b x
theorem allocRowsF_fold (b : Bool) (x : Value) : Instr.alloc 32 b x = allocRowsF b x := rfl
theorem allocRowsF_run (w : World) : (allocRowsF true (.tuple #[])).run Try.prog w = .ok (.pointer (some ⟨w.heap.size, 0, none⟩)) (w.alloc (.cells (iA (zeros 870)) 32)) := Try.allocRows w
def allocC5F (b : Bool) (x : Value) : Sem Value := Instr.alloc 58 b x
theorem allocC5F_fold (b : Bool) (x : Value) : Instr.alloc 58 b x = allocC5F b x := rfl
theorem allocC5F_run (w : World) : (allocC5F true (.tuple #[])).run Try.prog w = .ok (.pointer (some ⟨w.heap.size, 0, none⟩)) (w.alloc (.cells (iA (zeros 35)) 58)) := Try.allocC5 w
def loadRowsF (x : Value) : Sem Value := Instr.loadAt 32 x
theorem loadRowsF_fold (x : Value) : Instr.loadAt 32 x = loadRowsF x := rfl
theorem loadRowsF_has {w : World} {b o : Nat} (h : HasRow w b o 870) : (loadRowsF (.pointer (some ⟨b, o, none⟩))).run Try.prog w = .ok (.agg (rowAt w b o 870)) w := run_loadAt_has Try.underlying32 rfl Try.infoRows h
def storeRowsF (x v : Value) : Sem Unit := Instr.storeAt 32 x v
theorem storeRowsF_fold (x v : Value) : Instr.storeAt 32 x v = storeRowsF x v := rfl
theorem storeRowsF_has {w : World} {b o : Nat} {ys : List Int} (h : Room w b o 870) (hl : Is 870 ys) : (storeRowsF (.pointer (some ⟨b, o, none⟩)) (.agg (iA ys))).run Try.prog w = .ok () (w.setCells b o (iV ys)) := run_storeAt_is Try.infoRows h hl
def loadC5F (x : Value) : Sem Value := Instr.loadAt 58 x
theorem loadC5F_fold (x : Value) : Instr.loadAt 58 x = loadC5F x := rfl
theorem loadC5F_has {w : World} {b o : Nat} (h : HasRow w b o 35) : (loadC5F (.pointer (some ⟨b, o, none⟩))).run Try.prog w = .ok (.agg (rowAt w b o 35)) w := run_loadAt_has Try.underlying58 rfl Try.infoC5 h
def storeC5F (x v : Value) : Sem Unit := Instr.storeAt 58 x v
theorem storeC5F_fold (x v : Value) : Instr.storeAt 58 x v = storeC5F x v := rfl
theorem storeC5F_has {w : World} {b o : Nat} {ys : List Int} (h : Room w b o 35) (hl : Is 35 ys) : (storeC5F (.pointer (some ⟨b, o, none⟩)) (.agg (iA ys))).run Try.prog w = .ok () (w.setCells b o (iV ys)) := run_storeAt_is Try.infoC5 h hl
def indexRowsF (x y : Value) : Sem Value := Instr.index 32 x y
theorem indexRowsF_fold (x y : Value) : Instr.index 32 x y = indexRowsF x y := rfl
theorem indexRowsF_at {zs : List Int} {k : Nat} (hk : k < 5) (w : World) : (indexRowsF (.agg (iA zs)) (.int .i64 (k : Int))).run Try.prog w = .ok (.agg (iA ((zs.drop (k * 174)).take 174))) w :=
  run_index_agg Try.underlying32 Try.underlying31 rfl Try.infoRow zs k hk
def indexC5F (x y : Value) : Sem Value := Instr.index 58 x y
theorem indexC5F_fold (x y : Value) : Instr.index 58 x y = indexC5F x y := rfl
theorem indexC5F_at {zs : List Int} {k : Nat} (hk : k < 5) (w : World) : (indexC5F (.agg (iA zs)) (.int .i64 (k : Int))).run Try.prog w = .ok (.agg (iA ((zs.drop (k * 7)).take 7))) w :=
  run_index_agg Try.underlying58 Try.underlying27 rfl Try.infoCell zs k hk

/-! ### plain -/
/-- The row of one machine in a book. -/
def rowB (bs : List Int) (q : Nat) : List Int := (bs.drop (q * 174)).take 174
theorem rowB_length {bs : List Int} (hl : bs.length = 870) {q : Nat} (hq : q < 5) : (rowB bs q).length = 174 := by rw [rowB, List.length_take, List.length_drop]; omega
theorem rowB_getD (bs : List Int) (q j : Nat) (hj : j < 174) : (rowB bs q).getD j 0 = bs.getD (q * 174 + j) 0 := getD_part bs _ _ _ hj
/-- A book with a row put in. -/
def putB (bs : List Int) (q : Nat) (xs : List Int) : List Int := bs.take (q * 174) ++ xs ++ bs.drop (q * 174 + xs.length)
theorem putB_length {bs xs : List Int} (hl : bs.length = 870) (hx : xs.length = 174) {q : Nat} (hq : q < 5) : (putB bs q xs).length = 870 := by rw [putB, put_length (by omega), hl]
theorem rowB_put {bs xs : List Int} (hl : bs.length = 870) (hx : xs.length = 174) {q i : Nat} (hq : q < 5) (hi : i < 5) : rowB (putB bs q xs) i = if i = q then xs else rowB bs i := by
  refine ext_getD ?_ (fun j hj => ?_)
  · rw [rowB_length (putB_length hl hx hq) hi]
    split
    · exact hx.symm
    · exact (rowB_length hl hi).symm
  · rw [rowB_length (putB_length hl hx hq) hi] at hj
    rw [rowB_getD _ _ _ hj, putB, getD_put (by omega)]
    split
    · subst_vars
      rw [if_pos (by omega)]; congr 1; omega
    · rw [if_neg (by omega), rowB_getD _ _ _ hj]
/-- A book of rows that may be. -/
structure BookOk (bs : List Int) : Prop where
  len : bs.length = 870
  wf : wf64 bs
  ok : ∀ q, q < 5 → okRow (rowB bs q) = true
theorem rowB_zeros : ∀ q : Fin 5, rowB (zeros 870) q.val = zeros 174 := by decide +kernel
theorem bookOk_zeros : BookOk (zeros 870) := ⟨zeros_length 870, wf_zeros 870, fun q hq => by rw [rowB_zeros ⟨q, hq⟩]; exact ok_zeros⟩
theorem BookOk.put {bs xs : List Int} (h : BookOk bs) (hx : xs.length = 174) (wx : wf64 xs) (ok : okRow xs = true) {q : Nat} (hq : q < 5) : BookOk (putB bs q xs) := by
  refine ⟨putB_length h.len hx hq, wf_put h.wf wx _ _, fun i hi => ?_⟩
  rw [rowB_put h.len hx hq hi]
  split
  · exact ok
  · exact h.ok i hi
theorem BookOk.row_wf {bs : List Int} (h : BookOk bs) (q : Nat) : wf64 (rowB bs q) := wf64_chunk h.wf _ _
/-- Whether a row is news. -/
def newsB (bs : List Int) (who : Int) (xs : List Int) : Bool := inK who 5 && okRow xs && decide ((rowB bs who.toNat).getD 0 0 < xs.getD 0 0)
/-- A book behind Merge. -/
def mergeB (bs : List Int) (who : Int) (xs : List Int) : List Int := if newsB bs who xs = true then putB bs who.toNat xs else bs
theorem newsB_in {bs xs : List Int} {who : Int} (h : newsB bs who xs = true) : inK who 5 = true ∧ okRow xs = true := by
  simp only [newsB, Bool.and_eq_true] at h; exact h.1
theorem BookOk.merge {bs xs : List Int} (h : BookOk bs) (who : Int) (hx : xs.length = 174) (wx : wf64 xs) : BookOk (mergeB bs who xs) := by
  unfold mergeB
  split
  · rename_i hn
    obtain ⟨h1, h2⟩ := newsB_in hn
    have := inK_true.1 h1
    exact h.put hx wx h2 (by omega)
  · exact h
end Go.Proofs.Ytlegcjniakocoaa
