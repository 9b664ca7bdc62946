/- pages: above. -/
import Derived.Test.YtjkbhaplngnniaaDoorPg4
import Derived.Deep.CutRange
import Derived.Deep.RegionHeld3
namespace Go.Proofs.YtjkbhaplngnniaaDoor
open Go.RowKit Go.Maps
set_option linter.unusedSimpArgs false
set_option linter.unusedVariables false

def emptyN (y : ANd) : Bool := decide (y.kids = zNd.kids) && decide (y.vals = zNd.vals)
/-- Make, but not of a node that has nothing. -/
def abI (rf : Int → Nat) (most : Int) (n : Nat) (y : ANd) (x : Nat) : Int := if emptyN y then 0 else mkI rf most n (bareN y) x
def abE (rf : Int → Nat) (most : Int) (n : Nat) (y : ANd) : Int := if emptyN y then 0 else mkE rf most n (bareN y)
def abN (rf : Int → Nat) (most : Int) (n : Nat) (y : ANd) (x : Nat) : Nat := if emptyN y then n else mkN rf most n (bareN y) x
def abF (rf : Int → Nat) (most : Int) (n : Nat) (y : ANd) (x : Nat) : Int → Nat := if emptyN y then rf else mkF rf most n (bareN y) x
def abD (rf : Int → Nat) (most : Int) (n : Nat) (nd : Int → ANd) (y : ANd) (x : Nat) : Int → ANd := if emptyN y then nd else mkD rf most n nd (bareN y) x
theorem wpl_boxN {ops : Array Oper} {rest : List Oper} {o : Oper} {a : Act} {w : World} {Q : Exit → Act → World → Prop} {L : List Value} (hg : o.guard = none) {x : Operand} (ho : o.op = .box 91 x) (hx : a.eval x = .agg L.toArray)
    (h : wpList Tryd.prog ops Q rest (a.put o.dst (.pointer (some ⟨w.heap.size, 0, none⟩))) (w.alloc (.cells L.toArray 91))) : wpList Tryd.prog ops Q (o :: rest) a w := by
  refine wpl_to hg _ _ ?_ h
  unfold execOp
  simp only [ho, hx]
  go_simp
section
variable {w0 W : World} {g p q : Nat} {F : Nat → Prop} {codes most : Int} {n : Nat} {rf : Int → Nat} {nd : Int → ANd} {M : Nat} {n2 : Nat} {rf2 : Int → Nat} {nd2 : Int → ANd} {M2 : Nat}
theorem BA.fewer {F' : Nat → Prop} (h : BA w0 W p q F most n rf nd M n2 rf2 nd2 M2) (hF : ∀ j, F' j → F j) : BA w0 W p q F' most n rf nd M n2 rf2 nd2 M2 := h.with (Kept.refl _) (fun j hj => .inl (hF j hj))
theorem BA.raiseA (h : BA w0 W p q F most n rf nd M n2 rf2 nd2 M2) {M' : Nat} (h1 : M ≤ M') (h2 : M' ≤ 4611686018427387904) : BA w0 W p q F most n rf nd M' n2 rf2 nd2 M2 := by
  obtain ⟨ow, bL, bN, cL, cN, xs, a1, a2, a3, a4⟩ := h
  exact ⟨ow, bL, bN, cL, cN, xs, a1.raise h1 h2, a2, a3, a4⟩
theorem Fx.pg {W' : World} (hx : Fx F W W') (hG : PG W g p codes) (hF : F g) : PG W' g p codes := ⟨hx.cell hF hG.c0, hx.cell hF hG.c1, hx.cell hF hG.c2, hG.k1, hG.k2⟩
set_option maxHeartbeats 4000000 in
set_option maxRecDepth 100000 in
theorem pg_above (h : BA w0 W p q F most n rf nd M n2 rf2 nd2 M2) (hV : Vars w0) (hG : PG W g p codes) (hF : F g) (hM : M + 9 ≤ 4611686018427387904) (below : Int) (y : ANd) (hy : y.kids.length = 8 ∧ y.vals.length = 8) (x : Nat) (hx : LowN rf x) (r : Int → Nat) (hr : DropZ (abD rf most n nd y x) (abF rf most n y x) below r) :
    Calls Tryd.prog 42 #[.pointer (some ⟨g, 0, none⟩), .int .i64 below, ndV y] W fun e w' => e = .returned (.tuple #[.int .i64 (abI rf most n y x), .int .i64 (abE rf most n y)]) ∧ BA w0 w' p q F most (abN rf most n y x) r (abD rf most n nd y x) (M + 9) n2 rf2 nd2 M2 ∧ Fx F W w' := by
  obtain ⟨b, hb⟩ : ∃ b, b = W.heap.size := ⟨_, rfl⟩
  have hlen := ndL_len y hy.1 hy.2
  obtain ⟨W1, hW1⟩ : ∃ W1, W1 = W.alloc (.cells (ndL y).toArray 91) := ⟨_, rfl⟩
  have k1 : Kept W W1 := by rw [hW1]; exact (Kept.refl W).alloc _
  have r1 : W1.rangeAt b 0 (ndL y) := by rw [hW1, hb]; exact new_range _ _ _
  have d0 : W1.cell? ⟨b, 0, none⟩ = some (.bool y.leaf) := by
    have := r1 0 (.bool y.leaf) rfl
    simpa using this
  have c0 := (hG.kept k1).c0
  have hBb : BA w0 W1 p q (fun j => F j ∨ j = b) most n rf nd M n2 rf2 nd2 M2 := h.with k1 (fun j hj => hj.imp id (fun e => ⟨by omega, by rw [e]; exact cell_lt d0⟩))
  have HFG := hidMk hF
  have HMK := hidMk (ba_Make (hBb.keep ((Kept.refl W1).drew)) hV hM y hy x hx)
  have HDR := hidMk (fun (Y : World) (n' : Nat) (rf' : Int → Nat) (nd' : Int → ANd) (hb' : BA w0 Y p q (fun j => F j ∨ j = b) most n' rf' nd' (M + 9) n2 rf2 nd2 M2) (hg' : PG Y g p codes) (hr' : DropZ nd' rf' below r) => pg_Drop hb' hg' below r hr')
  have HRR := hidMk hr
  have HBB := hidMk (hBb.raiseA (M' := M + 9) (by omega) hM)
  have HG1 := hidMk (hG.kept k1)
  have HK1 := hidMk k1
  have HFL := hidMk (And.intro h.flt hBb.flt)
  have heq := fun W => an_eq hy.1 hy.2 (z := ⟨y.leaf, zNd.kids, zNd.vals⟩) rfl rfl W
  have HSZ := hidMk (show (Tryd.prog.info? 91).map (·.size) = some (ndL y).length by rw [hlen]; exact nd_size)
  have HR1 := hidMk r1
  have HEM := hidMk (show emptyN y = (decide (y.kids = zNd.kids) && decide (y.vals = zNd.vals)) from rfl)
  simp only [decide_true, Bool.true_and] at heq
  have heq2 : ∀ W, (Op.equalIn 10000 91 (.agg (ndL y).toArray) (.agg (ndL ⟨y.leaf, zNd.kids, zNd.vals⟩).toArray)).run Tryd.prog W = .ok (emptyN y) W := heq
  obtain ⟨d91, hu91, hd91⟩ := nd_row
  have HLY := hidMk hlen
  unfold ndV at *
  generalize hZ : ndL ⟨y.leaf, zNd.kids, zNd.vals⟩ = Z at *
  have HZ := hidMk hZ
  generalize hLY : ndL y = LY at *
  generalize hlf : y.leaf = lf at *
  clear h hG hF hy hr hBb k1 r1 heq hZ hlen hLY hlf
  have HE1 := hidMk (show emptyN y = true → abI rf most n y x = 0 ∧ abE rf most n y = 0 ∧ abN rf most n y x = n ∧ abF rf most n y x = rf ∧ abD rf most n nd y x = nd from fun e => by
    unfold abI abE abN abF abD; rw [e]; exact ⟨rfl, rfl, rfl, rfl, rfl⟩)
  have HE2 := hidMk (show emptyN y = false → abI rf most n y x = mkI rf most n (bareN y) x ∧ abE rf most n y = mkE rf most n (bareN y) ∧ abN rf most n y x = mkN rf most n (bareN y) x ∧ abF rf most n y x = mkF rf most n (bareN y) x ∧ abD rf most n nd y x = mkD rf most n nd (bareN y) x from fun e => by
    unfold abI abE abN abF abD; rw [e]; exact ⟨rfl, rfl, rfl, rfl, rfl⟩)
  generalize abI rf most n y x = ri at *
  generalize abE rf most n y = re at *
  generalize abN rf most n y x = rn at *
  generalize abF rf most n y x = rF at *
  generalize abD rf most n nd y x = rD at *
  go_enter Tryd.func42, Tryd.ntmps42
  go_upto_if 14 with (first | (refine wpl_boxN rfl rfl rfl ?_; rw [← hW1, ← hb]; clear hW1 hb) | (refine wpl_loadN rfl _ rfl b 0 rfl LY HLY.out HR1.out ?_) | (refine wpl_an lf HZ.out rfl rfl rfl ?_))
  go_cut [8, 9] from 10 to 23 (fun s t W' => s = .int .i64 ri ∧ t = .int .i64 re ∧ Hid (BA w0 W' p q (fun j => F j ∨ j = b) most rn rF rD (M + 9) n2 rf2 nd2 M2 ∧ PG W' g p codes ∧ Fx F W W'))
  case first =>
    cases hem : emptyN y with
    | true =>
      have HEE := hidMk (HE1.out hem)
      rw [hem] at heq2
      clear hem
      go_wp2_with fail
      go_meet
      obtain ⟨e1, e2, e3, e4, e5⟩ := HEE.out
      rw [e1, e2, e3, e4, e5]
      exact ⟨rfl, rfl, hidMk ⟨HBB.out, HG1.out, Fx.of_kept HK1.out HFL.out.1⟩⟩
    | false =>
      have HEE := hidMk (HE2.out hem)
      rw [hem] at heq2
      generalize mkI rf most n (bareN y) x = mi at *
      generalize mkE rf most n (bareN y) = me at *
      clear hem
      go_wp2_with fail
      refine wp_region_held_drew (S := (fun w' => w'.cell? ⟨g, 0, none⟩ = some (.pointer (some ⟨p, 0, none⟩)) ∧ w'.rangeAt b 0 LY)) (by kernel_rfl) ?_ (fun hHeld => ?_)
      · exact ⟨((Kept.refl W1).drew).cellp c0, ((Kept.refl W1).drew).range HR1.out⟩
      refine wpAnyH_take (i := 0) (oi := { dst := some 16, op := _, type := _, pos := _, after := _, guard := _ }) (v := ?_) rfl (by kernel_rfl) (by kernel_rfl) (by kernel_rfl) (fun _ _ _ h => h) (Or.inl ⟨by rfl, ?_⟩) (by assumption) ?_
      rotate_left
      · (intro w hSw; (try obtain ⟨hSw1, hSw2⟩ := hSw); go_simp; (try with_reducible rfl))
      (try simp only [Act.put, List.setIfInBounds_toArray, List.set_cons_zero, List.set_cons_succ])
      refine wpAnyH_take (i := 1) (oi := { dst := some 17, op := _, type := _, pos := _, after := _, guard := _ }) (v := ?_) rfl (by kernel_rfl) (by kernel_rfl) (by kernel_rfl) (fun _ _ _ h => h) (Or.inl ⟨by rfl, ?_⟩) (by assumption) ?_
      rotate_left
      · (intro w hSw; (try obtain ⟨hSw1, hSw2⟩ := hSw); go_simp; (try with_reducible rfl))
      (try simp only [Act.put, List.setIfInBounds_toArray, List.set_cons_zero, List.set_cons_succ])
      refine wpAnyH_take (i := 2) (oi := { dst := some 18, op := _, type := _, pos := _, after := _, guard := _ }) (v := ?_) rfl (by kernel_rfl) (by kernel_rfl) (by kernel_rfl) (fun _ _ _ h => h) (Or.inl ⟨by rfl, ?_⟩) (by assumption) ?_
      rotate_left
      · (intro w hSw; (try obtain ⟨hSw1, hSw2⟩ := hSw); go_simp; (try with_reducible rfl))
      (try simp only [Act.put, List.setIfInBounds_toArray, List.set_cons_zero, List.set_cons_succ])
      refine wpAnyH_take (i := 3) (oi := { dst := some 19, op := _, type := _, pos := _, after := _, guard := _ }) (v := ?_) rfl (by kernel_rfl) (by kernel_rfl) (by kernel_rfl) (fun _ _ _ h => h) (Or.inl ⟨by rfl, ?_⟩) (by assumption) ?_
      rotate_left
      · (intro w hSw; (try obtain ⟨hSw1, hSw2⟩ := hSw); go_simp; (try with_reducible rfl))
      (try simp only [Act.put, List.setIfInBounds_toArray, List.set_cons_zero, List.set_cons_succ])
      refine wpAnyH_take (i := 4) (oi := { dst := some 20, op := _, type := _, pos := _, after := _, guard := _ }) (v := _) rfl (by kernel_rfl) (by kernel_rfl) (by kernel_rfl) (fun _ _ _ h => h) (yieldsIf_load_mid (by rfl) _ _ rfl b 0 rfl LY d91 (fun w hSw => hSw.2) hu91 hd91 HSZ.out) (by assumption) ?_
      (try simp only [Act.put, List.setIfInBounds_toArray, List.set_cons_zero, List.set_cons_succ])
      refine wpAnyH_ready (rs := [5]) (by kernel_rfl) (by simp) ?_
      refine AllReadyH.cons (o := { dst := some 21, op := _, type := _, pos := _, after := _, guard := _ }) rfl (fun K hK => ?_) AllReadyH.nil
      go_simp
      refine (HMK.out).mono ?_
      rintro e w5 ⟨rfl, hb5, hx5⟩
      have HB5 := hidMk hb5
      have HX5 := hidMk hx5
      clear hb5 hx5
      (try go_wp2_with fail)
      refine hK.out _ _ ?_ (fun hHeld => ?_)
      · exact ⟨HX5.out.cell (.inl HFG.out) hHeld.1, HX5.out.range (.inr rfl) hHeld.2⟩
      clear hK K
      (try simp only [Act.put, List.setIfInBounds_toArray, List.set_cons_zero, List.set_cons_succ])
      refine wpAnyH_take (i := 6) (oi := { dst := some 15, op := _, type := _, pos := _, after := _, guard := _ }) (v := ?_) rfl (by kernel_rfl) (by kernel_rfl) (by kernel_rfl) (fun _ _ _ h => h) (Or.inl ⟨by rfl, ?_⟩) (by assumption) ?_
      rotate_left
      · (intro w hSw; (try obtain ⟨hSw1, hSw2⟩ := hSw); go_simp; (try with_reducible rfl))
      (try simp only [Act.put, List.setIfInBounds_toArray, List.set_cons_zero, List.set_cons_succ])
      refine wpAnyH_take (i := 7) (oi := { dst := some 22, op := _, type := _, pos := _, after := _, guard := _ }) (v := ?_) rfl (by kernel_rfl) (by kernel_rfl) (by kernel_rfl) (fun _ _ _ h => h) (Or.inl ⟨by rfl, ?_⟩) (by assumption) ?_
      rotate_left
      · (intro w hSw; (try obtain ⟨hSw1, hSw2⟩ := hSw); go_simp; (try with_reducible rfl))
      (try simp only [Act.put, List.setIfInBounds_toArray, List.set_cons_zero, List.set_cons_succ])
      refine wpAnyH_take (i := 8) (oi := { dst := some 23, op := _, type := _, pos := _, after := _, guard := _ }) (v := ?_) rfl (by kernel_rfl) (by kernel_rfl) (by kernel_rfl) (fun _ _ _ h => h) (Or.inl ⟨by rfl, ?_⟩) (by assumption) ?_
      rotate_left
      · (intro w hSw; (try obtain ⟨hSw1, hSw2⟩ := hSw); go_simp; (try with_reducible rfl))
      (try simp only [Act.put, List.setIfInBounds_toArray, List.set_cons_zero, List.set_cons_succ])
      refine wpAnyH_take (i := 9) (oi := { dst := some 8, op := _, type := _, pos := _, after := _, guard := _ }) (v := ?_) rfl (by kernel_rfl) (by kernel_rfl) (by kernel_rfl) (fun _ _ _ h => h) (Or.inl ⟨by rfl, ?_⟩) (by assumption) ?_
      rotate_left
      · (intro w hSw; (try obtain ⟨hSw1, hSw2⟩ := hSw); go_simp; (try with_reducible rfl))
      (try simp only [Act.put, List.setIfInBounds_toArray, List.set_cons_zero, List.set_cons_succ])
      refine wpAnyH_take (i := 10) (oi := { dst := some 9, op := _, type := _, pos := _, after := _, guard := _ }) (v := ?_) rfl (by kernel_rfl) (by kernel_rfl) (by kernel_rfl) (fun _ _ _ h => h) (Or.inl ⟨by rfl, ?_⟩) (by assumption) ?_
      rotate_left
      · (intro w hSw; (try obtain ⟨hSw1, hSw2⟩ := hSw); go_simp; (try with_reducible rfl))
      (try simp only [Act.put, List.setIfInBounds_toArray, List.set_cons_zero, List.set_cons_succ])
      refine wpAnyH_done (by kernel_rfl) ?_ _
      go_wp2_with fail
      go_meet
      have hxx : Fx (fun j => F j ∨ j = b) W1 w5 := (Fx.of_kept (F := fun j => F j ∨ j = b) ((Kept.refl W1).drew) HFL.out.2).trans HX5.out
      obtain ⟨e1, e2, e3, e4, e5⟩ := HEE.out
      rw [e1, e2, e3, e4, e5]
      exact ⟨rfl, rfl, hidMk ⟨HB5.out, hxx.pg HG1.out (.inl HFG.out), (Fx.of_kept HK1.out HFL.out.1).trans (hxx.fewer (fun j hj => .inl hj))⟩⟩
  case rest =>
    obtain ⟨rfl, rfl, HC⟩ := hcut
    have HD := hidMk (HDR.out wc _ _ _ HC.out.1 HC.out.2.1 HRR.out)
    generalize (if below = 0 then 0 else atE rF below) = er at HD
    clear HDR HMK HBB HG1 heq2 c0 d0
    go_wp2_with fail
    refine HD.out.mono ?_
    rintro e w6 ⟨rfl, hb6, hx6⟩
    have H6 := hidMk (And.intro hb6 hx6)
    clear hb6 hx6 HD
    go_wp2_with fail
    go_ret2
    exact ⟨rfl, H6.out.1.fewer (fun j hj => .inl hj), HC.out.2.2.trans (H6.out.2.fewer (fun j hj => .inl hj))⟩
end
end Go.Proofs.YtjkbhaplngnniaaDoor
