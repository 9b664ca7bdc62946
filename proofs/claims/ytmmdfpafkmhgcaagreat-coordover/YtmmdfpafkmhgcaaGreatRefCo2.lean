/- The definition's space: prepare. -/
import Derived.Test.YtmmdfpafkmhgcaaGreatRefCo1
namespace Go.Proofs.YtmmdfpafkmhgcaaGreat
open Go.RowKit Go.Maps
set_option linter.unusedSimpArgs false
set_option linter.unusedVariables false

theorem Rw.vals {w : World} {B : Nat} {e : TypeId} {v : Value} {n n' : Nat} {val val' : Nat → Value} {lo hi lo' hi' : Nat → Nat} {R R' : Nat → World → Prop} (h : Rw w B e v n val lo hi R) (hn : n' = n) (hv : ∀ k, k < n → val' k = val k ∧ lo' k = lo k ∧ hi' k = hi k ∧ ∀ y, R k y → R' k y) : Rw w B e v n' val' lo' hi' R' := by
  subst hn
  refine ⟨?_, fun k hk => ?_⟩
  · have e : (List.range n').map val' = (List.range n').map val := List.map_congr_left (fun k hk => (hv k (by simpa using hk)).1)
    rw [e]
    exact h.own
  · obtain ⟨_, h2, h3, h4⟩ := hv k hk
    rw [h2, h3]
    exact ⟨⟨(h.el k hk).1.hi_le, fun S y c hS => h4 y ((h.el k hk).1.all S y c hS)⟩, (h.el k hk).2⟩
/-- While the tables are made: n1, n2, n3 of them lie behind X's blocks. -/
structure PS (W0 X : World) (r q : Nat) (ds : List Dm) (n1 n2 n3 : Nat) (y4 y5 : Value) (wr : World) : Prop where
  kp : Kept W0 wr
  ch : Chg (fun j => j = r) X wr
  c0 : wr.cell? ⟨r, 0, none⟩ = some (.pointer (some ⟨q, 0, none⟩))
  c4 : wr.cell? ⟨r, 4, none⟩ = some y4
  c5 : wr.cell? ⟨r, 5, none⟩ = some y5
  fz : ∀ k, wr.frozen? ⟨r, k, none⟩ = false
  tb : ∃ v1 v2 v3 x1 x2 x3 l1 l2 l3 t1 t2 t3, wr.cell? ⟨r, 1, none⟩ = some v1 ∧ wr.cell? ⟨r, 2, none⟩ = some v2 ∧ wr.cell? ⟨r, 3, none⟩ = some v3 ∧ RTab wr X.heap.size ds n1 n2 n3 v1 v2 v3 x1 x2 x3 l1 l2 l3 t1 t2 t3
section
variable {W0 X wr y0 y : World} {r q : Nat} {ds : List Dm} {n1 n2 n3 m1 m2 m3 : Nat} {y4 y5 : Value}
theorem PS.lt (h : PS W0 X r q ds n1 n2 n3 y4 y5 wr) : r < wr.heap.size := cell_lt h.c0
theorem PS.keep (h : PS W0 X r q ds n1 n2 n3 y4 y5 wr) (k : Kept wr y) : PS W0 X r q ds n1 n2 n3 y4 y5 y := by
  obtain ⟨v1, v2, v3, x1, x2, x3, l1, l2, l3, t1, t2, t3, a1, a2, a3, hT⟩ := h.tb
  exact ⟨h.kp.trans k, h.ch.trans (Chg.of_kept k), k.cellp h.c0, k.cellp h.c4, k.cellp h.c5, fun j => (k.frozen (p := ⟨r, j, none⟩) h.lt).trans (h.fz j), ⟨v1, v2, v3, x1, x2, x3, l1, l2, l3, t1, t2, t3, k.cellp a1, k.cellp a2, k.cellp a3, hT.kept k⟩⟩
/-- A row was pushed to, and its field holds the new one. -/
theorem PS.put (h : PS W0 X r q ds n1 n2 n3 y4 y5 wr) (hr : W0.heap.size ≤ r) (hX : r < X.heap.size) (k : Kept wr y0) {v : Value} (hc : Chg (fun k => v.ownBlock = some k) y0 y) (ho : ∀ g, v.ownBlock = some g → X.heap.size ≤ g) {f : Nat} (hf : f = 1 ∨ f = 2 ∨ f = 3) {v' v1 v2 v3 : Value} {x1 x2 x3 : Nat → Value} {l1 l2 l3 t1 t2 t3 : Nat → Nat}
    (a1 : (if f = 1 then some v' else wr.cell? ⟨r, 1, none⟩) = some v1) (a2 : (if f = 2 then some v' else wr.cell? ⟨r, 2, none⟩) = some v2) (a3 : (if f = 3 then some v' else wr.cell? ⟨r, 3, none⟩) = some v3) (hT : RTab y X.heap.size ds m1 m2 m3 v1 v2 v3 x1 x2 x3 l1 l2 l3 t1 t2 t3) : PS W0 X r q ds m1 m2 m3 y4 y5 (y.setCell ⟨r, f, none⟩ v') := by
  have hlt := h.lt
  have n0 : ¬ v.ownBlock = some r := fun e => by have := ho r e; omega
  have cy : ∀ {o : Nat} {u : Value}, wr.cell? ⟨r, o, none⟩ = some u → y.cell? ⟨r, o, none⟩ = some u := fun hu => hc.cellp (k.cellp hu) n0
  have co : ∀ {o : Nat} {u : Value}, o ≠ f → wr.cell? ⟨r, o, none⟩ = some u → (y.setCell ⟨r, f, none⟩ v').cell? ⟨r, o, none⟩ = some u := fun ho hu => by
    rw [World.cell?_setCell_other _ _ _ _ (by intro e; injection e with _ e1 _; exact ho e1.symm)]; exact cy hu
  obtain ⟨w1, w2, w3, _, _, _, _, _, _, _, _, _, b1, b2, b3, _⟩ := h.tb
  have cf : ∃ u, y.cell? ⟨r, f, none⟩ = some u := by
    rcases hf with rfl | rfl | rfl
    · exact ⟨_, cy b1⟩
    · exact ⟨_, cy b2⟩
    · exact ⟨_, cy b3⟩
  obtain ⟨uf, hcf⟩ := cf
  have cn : (y.setCell ⟨r, f, none⟩ v').cell? ⟨r, f, none⟩ = some v' := World.cell?_setCell_same _ _ _ hcf
  have c1 : Chg (fun j => j = r) X y := ⟨hc.os.trans (k.os.trans h.ch.os), hc.tape.trans (k.tape.trans h.ch.tape), hc.output.trans (k.output.trans h.ch.output), Nat.le_trans h.ch.size (Nat.le_trans k.size hc.size), fun j hj hb => by
    have e1 : j < wr.heap.size := Nat.lt_of_lt_of_le hj h.ch.size
    rw [hc.block j (Nat.lt_of_lt_of_le e1 k.size) (fun e => by have := ho j e; omega), k.block j e1, h.ch.block j hj hb]⟩
  have get : ∀ (o : Nat) (u : Value), (o = 1 ∨ o = 2 ∨ o = 3) → (if f = o then some v' else wr.cell? ⟨r, o, none⟩) = some u → (y.setCell ⟨r, f, none⟩ v').cell? ⟨r, o, none⟩ = some u := fun o u _ hu => by
    by_cases e : f = o
    · subst e; rw [if_pos rfl] at hu; rw [cn]; exact hu
    · rw [if_neg e] at hu; exact co (fun e' => e e'.symm) hu
  refine ⟨Chg.kept h.kp (((Chg.of_kept k : Chg (fun j => v.ownBlock = some j ∨ j = r) _ _).trans (hc.mono (fun j _ e => .inl e))).setCell (p := ⟨r, f, none⟩) (.inl (.inr rfl)) _) (fun j e => ?_), c1.setCell (p := ⟨r, f, none⟩) (.inl rfl) _, co (by omega) h.c0, co (by omega) h.c4, co (by omega) h.c5, fun j => ?_, ⟨v1, v2, v3, x1, x2, x3, l1, l2, l3, t1, t2, t3, get 1 _ (.inl rfl) a1, get 2 _ (.inr (.inl rfl)) a2, get 3 _ (.inr (.inr rfl)) a3, ?_⟩⟩
  · rcases e with e | e
    · have := ho j e; omega
    · omega
  · rw [World.frozen?_setCell]
    exact ((hc.frozen (p := ⟨r, j, none⟩) (Nat.lt_of_lt_of_le hlt k.size) n0).trans (k.frozen (p := ⟨r, j, none⟩) hlt)).trans (h.fz j)
  · exact hT.chg (S := fun j => j = r) (Chg.setCell (S := fun j => j = r) (Chg.refl _ y) (p := ⟨r, f, none⟩) (.inl rfl) _) (fun j e => by omega)
end
/-- The rows of one tree while they are made. -/
structure TS (WI : World) (l : List Nd) (k : Nat) (v4 v5 : Value) (xv : Nat → Value) (lo hi : Nat → Nat) (wr : World) : Prop where
  rk : Rw wr WI.heap.size 3 v4 k (fun j => .int .i64 (rankI l (j : Nat))) (fun _ => 0) (fun _ => 0) (fun _ _ => True)
  rn : Rw wr WI.heap.size 64 v5 k xv lo hi (fun i y => RwB y (lo i) (xv i) (inR l i))
  a45 : Apt v4 v5 k lo hi
  a54 : Apt v5 v4 k (fun _ => 0) (fun _ => 0)
  kp : Kept WI wr
def BR (w : World) (B : Nat) (v : Value) (l : List Nd) (i j : Nat) : Prop := Rw w B 4 v j (fun t => .bool (decide ((t : Int) ∈ abvA l (i : Int)))) (fun _ => 0) (fun _ => 0) (fun _ _ => True)
theorem br_done {w : World} {B : Nat} {v : Value} {l : List Nd} {i : Nat} (h : BR w B v l i l.length) : RwB w B v (inR l i) := h.vals (inR_len l i) (fun k hk => ⟨by rw [inR_get hk], rfl, rfl, fun _ h => h⟩)
theorem rk_done {w : World} {B : Nat} {v : Value} {l : List Nd} (h : Rw w B 3 v l.length (fun j => .int .i64 (rankI l (j : Nat))) (fun _ => 0) (fun _ => 0) (fun _ _ => True)) : RwI w B v (rkL l) := h.vals (rkL_len l) (fun k hk => ⟨by rw [rkL_get hk], rfl, rfl, fun _ h => h⟩)
theorem TS.keep {WI wr y : World} {l : List Nd} {k : Nat} {v4 v5 : Value} {xv : Nat → Value} {lo hi : Nat → Nat} (h : TS WI l k v4 v5 xv lo hi wr) (kk : Kept wr y) : TS WI l k v4 v5 xv lo hi y := ⟨h.rk.kept kk, h.rn.kept kk, h.a45, h.a54, h.kp.trans kk⟩
set_option maxHeartbeats 8000000 in
set_option maxRecDepth 100000 in
theorem r7_prep {W0 X : World} {r q : Nat} {ds : List Dm} {ms : List ByteArray} {rt : Nat → Nat} {y4 y5 : Value} (hr : r = W0.heap.size) (hX : r < X.heap.size) (hd : RDm W0 q ds rt ms) (hc : Ct ds ms) (h : PS W0 X r q ds 0 0 0 y4 y5 X) : Calls Tryz.prog 42 #[.pointer (some ⟨r, 0, none⟩)] X fun e w' => e = .returned (.tuple #[]) ∧ PS W0 X r q ds ds.length ds.length ds.length y4 y5 w' := by
  have hd1 := hc.d1
  have hd4 := hc.d4
  obtain ⟨ta, tc, hT0, hT1⟩ := hd.c4
  obtain ⟨tb, htb, hTc⟩ := hT1 (by omega)
  subst htb
  have HT0 := hidMk (fun Y (k : Kept W0 Y) => k.cellp hT0)
  have HTC := hidMk (fun Y (k : Kept W0 Y) i (hi : i < ds.length) => k.cellp (hTc i hi))
  have HRT := hidMk (fun Y (k : Kept W0 Y) i (hi : i < ds.length) => (hd.tr i hi).kept k)
  have HTR := hidMk hc.tr
  have HRW := hidMk (show W0.heap.size ≤ r by omega)
  have HX := hidMk hX
  have HPS := hidMk h
  obtain ⟨D, hD⟩ : ∃ D, D = ds.length := ⟨_, rfl⟩
  rw [← hD] at HT0 hd1 hd4 ⊢
  have HDD := hidMk hD
  have hne : ((0 : Int) == (D : Int)) = false := by simp; omega
  obtain ⟨v1, v2, v3, x1, x2, x3, l1, l2, l3, t1, t2, t3, a1, a2, a3, hT⟩ := h.tb
  obtain ⟨f1, g1, e1⟩ := hT.r1.form
  subst e1
  have c0 := h.c0
  have q4 := HT0.out X h.kp
  clear hT0 hT1 hTc hd hc hr hX h hT a2 a3 hD
  go_enter Tryz.func42, Tryz.ntmps42
  go_wp2_with fail
  go_quiet (fail)
  have HP0 := hidMk (HPS.out.keep ((Kept.refl X).drewN nq))
  clear c0 q4 a1 HPS
  go_wp2_with fail
  go_loopg [2] (D + 1) (fun gg x wr => ∃ i : Nat, i + gg = D + 1 ∧ i ≤ D ∧ x = .int .i64 i ∧ Hid (PS W0 X r q ds i i i y4 y5 wr))
  case atStart => exact ⟨0, by omega, by omega, rfl, HP0⟩
  case round =>
    clear HP0
    obtain ⟨i, hig, hiD, rfl, HS⟩ := hrel
    obtain ⟨ga, hga⟩ : ∃ g, g = gk := ⟨_, rfl⟩
    subst hga
    have HG := hidMk hig
    clear hig
    have q4 := HT0.out wr HS.out.kp
    have c0 := HS.out.c0
    by_cases hi : i < D
    · have hi' : (i : Int) < (D : Int) := by omega
      have hid : i < ds.length := by have := HDD.out; omega
      have qe := HTC.out wr HS.out.kp i hid
      have HTI := hidMk (HTR.out i hid)
      go_upto_region 5 with fail
      clear q4 qe c0
      go_cut [] from 45 to 110 (fun W' => Hid (PS W0 X r q ds (i + 1) i i y4 y5 W'))
      case first =>
        obtain ⟨v1, v2, v3, x1, x2, x3, l1, l2, l3, t1, t2, t3, a1, a2, a3, hT⟩ := HS.out.tb
        obtain ⟨f1, g1, e1⟩ := hT.r1.form
        subst e1
        have HA1 := hidMk a1
        have HA2 := hidMk a2
        have HA3 := hidMk a3
        have HTB := hidMk hT
        have HLV := hidMk (r_Leaves (HRT.out wr.drew HS.out.kp.drew i hid) HTI.out)
        have HLL := hidMk (show (ints (lvsN (dmL ds i))).length ≤ maxLen from by rw [ints_len]; have h1 := lvs_len HTI.out; have h2 := (HRT.out wr HS.out.kp i hid).big; unfold maxLen; omega)
        clear a1 a2 a3 hT
        refine wp_region_held_drew (S := (fun _ => True)) (by kernel_rfl) ?_ (fun hHeld => ?_)
        · trivial
        refine wpAnyH_take (i := 0) (oi := { dst := some 45, op := _, type := _, pos := _, after := _, guard := _ }) (v := ?_) rfl (by kernel_rfl) (by kernel_rfl) (by kernel_rfl) (fun _ _ _ h => h) (Or.inl ⟨by rfl, ?_⟩) (by assumption) ?_
        rotate_left
        · (intro w9 hSw; go_simp; (try with_reducible rfl))
        (try simp only [Act.put, List.setIfInBounds_toArray, List.set_cons_zero, List.set_cons_succ])
        refine wpAnyH_take (i := 1) (oi := { dst := some 46, op := _, type := _, pos := _, after := _, guard := _ }) (v := ?_) rfl (by kernel_rfl) (by kernel_rfl) (by kernel_rfl) (fun _ _ _ h => h) (Or.inl ⟨by rfl, ?_⟩) (by assumption) ?_
        rotate_left
        · (intro w9 hSw; go_simp; (try with_reducible rfl))
        (try simp only [Act.put, List.setIfInBounds_toArray, List.set_cons_zero, List.set_cons_succ])
        refine wpAnyH_take (i := 2) (oi := { dst := some 47, op := _, type := _, pos := _, after := _, guard := _ }) (v := ?_) rfl (by kernel_rfl) (by kernel_rfl) (by kernel_rfl) (fun _ _ _ h => h) (Or.inl ⟨by rfl, ?_⟩) (by assumption) ?_
        rotate_left
        · (intro w9 hSw; go_simp; (try with_reducible rfl))
        (try simp only [Act.put, List.setIfInBounds_toArray, List.set_cons_zero, List.set_cons_succ])
        refine wpAnyH_take (i := 3) (oi := { dst := some 48, op := _, type := _, pos := _, after := _, guard := _ }) (v := ?_) rfl (by kernel_rfl) (by kernel_rfl) (by kernel_rfl) (fun _ _ _ h => h) (Or.inl ⟨by rfl, ?_⟩) (by assumption) ?_
        rotate_left
        · (intro w9 hSw; go_simp; (try with_reducible rfl))
        (try simp only [Act.put, List.setIfInBounds_toArray, List.set_cons_zero, List.set_cons_succ])
        refine wpAnyH_take (i := 5) (oi := { dst := some 50, op := _, type := _, pos := _, after := _, guard := _ }) (v := ?_) rfl (by kernel_rfl) (by kernel_rfl) (by kernel_rfl) (fun _ _ _ h => h) (Or.inl ⟨by rfl, ?_⟩) (by assumption) ?_
        rotate_left
        · (intro w9 hSw; go_simp; (try with_reducible rfl))
        (try simp only [Act.put, List.setIfInBounds_toArray, List.set_cons_zero, List.set_cons_succ])
        refine wpAnyH_ready (rs := [4, 6]) (by kernel_rfl) (by simp) ?_
        refine (AllReadyH.cons (o := { dst := some 49, op := _, type := _, pos := _, after := _, guard := _ }) rfl (fun K hK => ?_) (AllReadyH.cons (o := { dst := some 51, op := _, type := _, pos := _, after := _, guard := _ }) rfl (fun K hK => ?_) AllReadyH.nil))
        · have b1 := ((Kept.refl wr).drew).cellp HA1.out
          go_simp
          clear b1
          refine hK.out _ _ ?_ (fun hHeld => ?_)
          · trivial
          clear hK K
          (try simp only [Act.put, List.setIfInBounds_toArray, List.set_cons_zero, List.set_cons_succ])
          refine wpAnyH_ready (rs := [6]) (by kernel_rfl) (by simp) ?_
          refine (AllReadyH.cons (o := { dst := some 51, op := _, type := _, pos := _, after := _, guard := _ }) rfl (fun K hK => ?_) AllReadyH.nil)
          go_simp
          refine HLV.out.mono ?_
          rintro e wN ⟨v, rfl, hoN, kN⟩
          obtain ⟨na, nc, hna, hns⟩ := hoN.sl HLL.out
          subst hna
          have HKN := hidMk (((Kept.refl wr).drew).trans kN)
          have HSN := hidMk (show Sol wr.heap.size wN.heap.size (fun y => RwI y wr.heap.size (.slice na (ints (lvsN (dmL ds i))).length nc) (ints (lvsN (dmL ds i)))) wN from (rwI_of hoN).sol)
          clear hns hoN kN
          (try go_wp2_with fail)
          refine hK.out _ _ ?_ (fun hHeld => ?_)
          · trivial
          clear hK K
          (try simp only [Act.put, List.setIfInBounds_toArray, List.set_cons_zero, List.set_cons_succ])
          refine wpAnyH_ready (rs := [7]) (by kernel_rfl) (by simp) ?_
          refine (AllReadyH.cons (o := { dst := some 52, op := _, type := _, pos := _, after := _, guard := _ }) rfl (fun K hK => ?_) AllReadyH.nil)
          go_simp
          refine hK.out _ _ ?_ (fun hHeld => ?_)
          · trivial
          clear hK K
          (try simp only [Act.put, List.setIfInBounds_toArray, List.set_cons_zero, List.set_cons_succ])
          refine wpAnyH_ready (rs := [8]) (by kernel_rfl) (by simp) ?_
          refine (AllReadyH.cons (o := { dst := some 53, op := _, type := _, pos := _, after := _, guard := _ }) rfl (fun K hK => ?_) AllReadyH.nil)
          refine step_pushR _ (by rfl) _ _ 62 40 (by rfl) (.slice none 0 0) 24 Tryz.underlying62 one_ints rfl (by decide) X.heap.size (.slice f1 i g1) i x1 l1 t1 _ (by rfl) (HTB.out.r1.kept (HKN.out.alloc _)) (by have h1 := HS.out.ch.size; have h2 := HKN.out.size; rw [World.size_alloc]; omega) wN.heap.size _ (by rfl) (new_cell _ _ _ _ 0 _ rfl rfl) rfl wr.heap.size wN.heap.size _ (HSN.out.chg (S := fun _ => False) (Chg.of_kept ((Kept.refl wN).alloc _)) (fun _ _ _ e => e)) (fun _ => HS.out.ch.size) (fun g hg e => by have := (HTB.out.r1.lt g hg).2; omega) (by omega) ?_
          intro g' cap wP hrP hcP hgP
          have HRP := hidMk hrP
          have HCP := hidMk hcP
          have HGP := hidMk hgP
          have HXX := hidMk (show ∀ g, (v2.ownBlock = some g ∨ v3.ownBlock = some g) → ¬ (wr.heap.size ≤ g ∧ g < wN.heap.size) from fun g hg e => by
              rcases hg with hg | hg
              · have := (HTB.out.r2.lt g hg).2; omega
              · have := (HTB.out.r3.lt g hg).2; omega)
          clear hrP hcP hgP
          refine hK.out _ _ ?_ (fun hHeld => ?_)
          · trivial
          clear hK K
          (try simp only [Act.put, List.setIfInBounds_toArray, List.set_cons_zero, List.set_cons_succ])
          refine wpAnyH_take (i := 9) (oi := { dst := some 54, op := _, type := _, pos := _, after := _, guard := _ }) (v := ?_) rfl (by kernel_rfl) (by kernel_rfl) (by kernel_rfl) (fun _ _ _ h => h) (Or.inl ⟨by rfl, ?_⟩) (by assumption) ?_
          rotate_left
          · (intro w9 hSw; go_simp; (try with_reducible rfl))
          (try simp only [Act.put, List.setIfInBounds_toArray, List.set_cons_zero, List.set_cons_succ])
          refine wpAnyH_take (i := 10) (oi := { dst := some 55, op := _, type := _, pos := _, after := _, guard := _ }) (v := ?_) rfl (by kernel_rfl) (by kernel_rfl) (by kernel_rfl) (fun _ _ _ h => h) (Or.inl ⟨by rfl, ?_⟩) (by assumption) ?_
          rotate_left
          · (intro w9 hSw; go_simp; (try with_reducible rfl))
          (try simp only [Act.put, List.setIfInBounds_toArray, List.set_cons_zero, List.set_cons_succ])
          refine wpAnyH_ready (rs := [11]) (by kernel_rfl) (by simp) ?_
          refine (AllReadyH.cons (o := { dst := none, op := _, type := _, pos := _, after := _, guard := _ }) rfl (fun K hK => ?_) AllReadyH.nil)
          have n1 : ¬ (Value.slice f1 i g1).ownBlock = some r := fun e => by have h1 := (HTB.out.r1.lt r e).1; have h2 := HX.out; omega
          have b1 := HCP.out.cellp ((HKN.out.alloc (.cells #[.slice na (ints (lvsN (dmL ds i))).length nc] 40)).cellp HA1.out) n1
          have bf : wP.frozen? ⟨r, 1, none⟩ = false := ((HCP.out.frozen (p := ⟨r, 1, none⟩) (cell_lt ((HKN.out.alloc (.cells #[.slice na (ints (lvsN (dmL ds i))).length nc] 40)).cellp HA1.out)) n1).trans ((HKN.out.alloc (.cells #[.slice na (ints (lvsN (dmL ds i))).length nc] 40)).frozen (p := ⟨r, 1, none⟩) HS.out.lt)).trans (HS.out.fz 1)
          go_simp
          clear b1 bf
          refine hK.out _ _ ?_ (fun hHeld => ?_)
          · trivial
          clear hK K
          (try simp only [Act.put, List.setIfInBounds_toArray, List.set_cons_zero, List.set_cons_succ])
          refine wpAnyH_done (by kernel_rfl) ?_ _
          go_wp2_with fail
          go_meet
          exact hidMk (HS.out.put HRW.out HX.out (HKN.out.alloc (.cells #[.slice na (ints (lvsN (dmL ds i))).length nc] 40)) HCP.out (fun g hg => (HTB.out.r1.lt g hg).1) (f := 1) (.inl rfl) rfl HA2.out HA3.out ((HTB.out.kept (HKN.out.alloc (.cells #[.slice na (ints (lvsN (dmL ds i))).length nc] 40))).push1 HRP.out HCP.out HGP.out HXX.out))
        · go_simp
          refine HLV.out.mono ?_
          rintro e wN ⟨v, rfl, hoN, kN⟩
          obtain ⟨na, nc, hna, hns⟩ := hoN.sl HLL.out
          subst hna
          have HKN := hidMk (((Kept.refl wr).drew).trans kN)
          have HSN := hidMk (show Sol wr.heap.size wN.heap.size (fun y => RwI y wr.heap.size (.slice na (ints (lvsN (dmL ds i))).length nc) (ints (lvsN (dmL ds i)))) wN from (rwI_of hoN).sol)
          clear hns hoN kN
          (try go_wp2_with fail)
          refine hK.out _ _ ?_ (fun hHeld => ?_)
          · trivial
          clear hK K
          (try simp only [Act.put, List.setIfInBounds_toArray, List.set_cons_zero, List.set_cons_succ])
          refine wpAnyH_ready (rs := [4, 7]) (by kernel_rfl) (by simp) ?_
          refine (AllReadyH.cons (o := { dst := some 49, op := _, type := _, pos := _, after := _, guard := _ }) rfl (fun K hK => ?_) (AllReadyH.cons (o := { dst := some 52, op := _, type := _, pos := _, after := _, guard := _ }) rfl (fun K hK => ?_) AllReadyH.nil))
          · have b1 := HKN.out.cellp HA1.out
            go_simp
            clear b1
            refine hK.out _ _ ?_ (fun hHeld => ?_)
            · trivial
            clear hK K
            (try simp only [Act.put, List.setIfInBounds_toArray, List.set_cons_zero, List.set_cons_succ])
            refine wpAnyH_ready (rs := [7]) (by kernel_rfl) (by simp) ?_
            refine (AllReadyH.cons (o := { dst := some 52, op := _, type := _, pos := _, after := _, guard := _ }) rfl (fun K hK => ?_) AllReadyH.nil)
            go_simp
            refine hK.out _ _ ?_ (fun hHeld => ?_)
            · trivial
            clear hK K
            (try simp only [Act.put, List.setIfInBounds_toArray, List.set_cons_zero, List.set_cons_succ])
            refine wpAnyH_ready (rs := [8]) (by kernel_rfl) (by simp) ?_
            refine (AllReadyH.cons (o := { dst := some 53, op := _, type := _, pos := _, after := _, guard := _ }) rfl (fun K hK => ?_) AllReadyH.nil)
            refine step_pushR _ (by rfl) _ _ 62 40 (by rfl) (.slice none 0 0) 24 Tryz.underlying62 one_ints rfl (by decide) X.heap.size (.slice f1 i g1) i x1 l1 t1 _ (by rfl) (HTB.out.r1.kept (HKN.out.alloc _)) (by have h1 := HS.out.ch.size; have h2 := HKN.out.size; rw [World.size_alloc]; omega) wN.heap.size _ (by rfl) (new_cell _ _ _ _ 0 _ rfl rfl) rfl wr.heap.size wN.heap.size _ (HSN.out.chg (S := fun _ => False) (Chg.of_kept ((Kept.refl wN).alloc _)) (fun _ _ _ e => e)) (fun _ => HS.out.ch.size) (fun g hg e => by have := (HTB.out.r1.lt g hg).2; omega) (by omega) ?_
            intro g' cap wP hrP hcP hgP
            have HRP := hidMk hrP
            have HCP := hidMk hcP
            have HGP := hidMk hgP
            have HXX := hidMk (show ∀ g, (v2.ownBlock = some g ∨ v3.ownBlock = some g) → ¬ (wr.heap.size ≤ g ∧ g < wN.heap.size) from fun g hg e => by
                rcases hg with hg | hg
                · have := (HTB.out.r2.lt g hg).2; omega
                · have := (HTB.out.r3.lt g hg).2; omega)
            clear hrP hcP hgP
            refine hK.out _ _ ?_ (fun hHeld => ?_)
            · trivial
            clear hK K
            (try simp only [Act.put, List.setIfInBounds_toArray, List.set_cons_zero, List.set_cons_succ])
            refine wpAnyH_take (i := 9) (oi := { dst := some 54, op := _, type := _, pos := _, after := _, guard := _ }) (v := ?_) rfl (by kernel_rfl) (by kernel_rfl) (by kernel_rfl) (fun _ _ _ h => h) (Or.inl ⟨by rfl, ?_⟩) (by assumption) ?_
            rotate_left
            · (intro w9 hSw; go_simp; (try with_reducible rfl))
            (try simp only [Act.put, List.setIfInBounds_toArray, List.set_cons_zero, List.set_cons_succ])
            refine wpAnyH_take (i := 10) (oi := { dst := some 55, op := _, type := _, pos := _, after := _, guard := _ }) (v := ?_) rfl (by kernel_rfl) (by kernel_rfl) (by kernel_rfl) (fun _ _ _ h => h) (Or.inl ⟨by rfl, ?_⟩) (by assumption) ?_
            rotate_left
            · (intro w9 hSw; go_simp; (try with_reducible rfl))
            (try simp only [Act.put, List.setIfInBounds_toArray, List.set_cons_zero, List.set_cons_succ])
            refine wpAnyH_ready (rs := [11]) (by kernel_rfl) (by simp) ?_
            refine (AllReadyH.cons (o := { dst := none, op := _, type := _, pos := _, after := _, guard := _ }) rfl (fun K hK => ?_) AllReadyH.nil)
            have n1 : ¬ (Value.slice f1 i g1).ownBlock = some r := fun e => by have h1 := (HTB.out.r1.lt r e).1; have h2 := HX.out; omega
            have b1 := HCP.out.cellp ((HKN.out.alloc (.cells #[.slice na (ints (lvsN (dmL ds i))).length nc] 40)).cellp HA1.out) n1
            have bf : wP.frozen? ⟨r, 1, none⟩ = false := ((HCP.out.frozen (p := ⟨r, 1, none⟩) (cell_lt ((HKN.out.alloc (.cells #[.slice na (ints (lvsN (dmL ds i))).length nc] 40)).cellp HA1.out)) n1).trans ((HKN.out.alloc (.cells #[.slice na (ints (lvsN (dmL ds i))).length nc] 40)).frozen (p := ⟨r, 1, none⟩) HS.out.lt)).trans (HS.out.fz 1)
            go_simp
            clear b1 bf
            refine hK.out _ _ ?_ (fun hHeld => ?_)
            · trivial
            clear hK K
            (try simp only [Act.put, List.setIfInBounds_toArray, List.set_cons_zero, List.set_cons_succ])
            refine wpAnyH_done (by kernel_rfl) ?_ _
            go_wp2_with fail
            go_meet
            exact hidMk (HS.out.put HRW.out HX.out (HKN.out.alloc (.cells #[.slice na (ints (lvsN (dmL ds i))).length nc] 40)) HCP.out (fun g hg => (HTB.out.r1.lt g hg).1) (f := 1) (.inl rfl) rfl HA2.out HA3.out ((HTB.out.kept (HKN.out.alloc (.cells #[.slice na (ints (lvsN (dmL ds i))).length nc] 40))).push1 HRP.out HCP.out HGP.out HXX.out))
          · go_simp
            refine hK.out _ _ ?_ (fun hHeld => ?_)
            · trivial
            clear hK K
            (try simp only [Act.put, List.setIfInBounds_toArray, List.set_cons_zero, List.set_cons_succ])
            refine wpAnyH_ready (rs := [4]) (by kernel_rfl) (by simp) ?_
            refine (AllReadyH.cons (o := { dst := some 49, op := _, type := _, pos := _, after := _, guard := _ }) rfl (fun K hK => ?_) AllReadyH.nil)
            have b1 := (HKN.out.alloc (.cells #[.slice na (ints (lvsN (dmL ds i))).length nc] 40)).cellp HA1.out
            go_simp
            clear b1
            refine hK.out _ _ ?_ (fun hHeld => ?_)
            · trivial
            clear hK K
            (try simp only [Act.put, List.setIfInBounds_toArray, List.set_cons_zero, List.set_cons_succ])
            refine wpAnyH_ready (rs := [8]) (by kernel_rfl) (by simp) ?_
            refine (AllReadyH.cons (o := { dst := some 53, op := _, type := _, pos := _, after := _, guard := _ }) rfl (fun K hK => ?_) AllReadyH.nil)
            refine step_pushR _ (by rfl) _ _ 62 40 (by rfl) (.slice none 0 0) 24 Tryz.underlying62 one_ints rfl (by decide) X.heap.size (.slice f1 i g1) i x1 l1 t1 _ (by rfl) (HTB.out.r1.kept (HKN.out.alloc _)) (by have h1 := HS.out.ch.size; have h2 := HKN.out.size; rw [World.size_alloc]; omega) wN.heap.size _ (by rfl) (new_cell _ _ _ _ 0 _ rfl rfl) rfl wr.heap.size wN.heap.size _ (HSN.out.chg (S := fun _ => False) (Chg.of_kept ((Kept.refl wN).alloc _)) (fun _ _ _ e => e)) (fun _ => HS.out.ch.size) (fun g hg e => by have := (HTB.out.r1.lt g hg).2; omega) (by omega) ?_
            intro g' cap wP hrP hcP hgP
            have HRP := hidMk hrP
            have HCP := hidMk hcP
            have HGP := hidMk hgP
            have HXX := hidMk (show ∀ g, (v2.ownBlock = some g ∨ v3.ownBlock = some g) → ¬ (wr.heap.size ≤ g ∧ g < wN.heap.size) from fun g hg e => by
                rcases hg with hg | hg
                · have := (HTB.out.r2.lt g hg).2; omega
                · have := (HTB.out.r3.lt g hg).2; omega)
            clear hrP hcP hgP
            refine hK.out _ _ ?_ (fun hHeld => ?_)
            · trivial
            clear hK K
            (try simp only [Act.put, List.setIfInBounds_toArray, List.set_cons_zero, List.set_cons_succ])
            refine wpAnyH_take (i := 9) (oi := { dst := some 54, op := _, type := _, pos := _, after := _, guard := _ }) (v := ?_) rfl (by kernel_rfl) (by kernel_rfl) (by kernel_rfl) (fun _ _ _ h => h) (Or.inl ⟨by rfl, ?_⟩) (by assumption) ?_
            rotate_left
            · (intro w9 hSw; go_simp; (try with_reducible rfl))
            (try simp only [Act.put, List.setIfInBounds_toArray, List.set_cons_zero, List.set_cons_succ])
            refine wpAnyH_take (i := 10) (oi := { dst := some 55, op := _, type := _, pos := _, after := _, guard := _ }) (v := ?_) rfl (by kernel_rfl) (by kernel_rfl) (by kernel_rfl) (fun _ _ _ h => h) (Or.inl ⟨by rfl, ?_⟩) (by assumption) ?_
            rotate_left
            · (intro w9 hSw; go_simp; (try with_reducible rfl))
            (try simp only [Act.put, List.setIfInBounds_toArray, List.set_cons_zero, List.set_cons_succ])
            refine wpAnyH_ready (rs := [11]) (by kernel_rfl) (by simp) ?_
            refine (AllReadyH.cons (o := { dst := none, op := _, type := _, pos := _, after := _, guard := _ }) rfl (fun K hK => ?_) AllReadyH.nil)
            have n1 : ¬ (Value.slice f1 i g1).ownBlock = some r := fun e => by have h1 := (HTB.out.r1.lt r e).1; have h2 := HX.out; omega
            have b1 := HCP.out.cellp ((HKN.out.alloc (.cells #[.slice na (ints (lvsN (dmL ds i))).length nc] 40)).cellp HA1.out) n1
            have bf : wP.frozen? ⟨r, 1, none⟩ = false := ((HCP.out.frozen (p := ⟨r, 1, none⟩) (cell_lt ((HKN.out.alloc (.cells #[.slice na (ints (lvsN (dmL ds i))).length nc] 40)).cellp HA1.out)) n1).trans ((HKN.out.alloc (.cells #[.slice na (ints (lvsN (dmL ds i))).length nc] 40)).frozen (p := ⟨r, 1, none⟩) HS.out.lt)).trans (HS.out.fz 1)
            go_simp
            clear b1 bf
            refine hK.out _ _ ?_ (fun hHeld => ?_)
            · trivial
            clear hK K
            (try simp only [Act.put, List.setIfInBounds_toArray, List.set_cons_zero, List.set_cons_succ])
            refine wpAnyH_done (by kernel_rfl) ?_ _
            go_wp2_with fail
            go_meet
            exact hidMk (HS.out.put HRW.out HX.out (HKN.out.alloc (.cells #[.slice na (ints (lvsN (dmL ds i))).length nc] 40)) HCP.out (fun g hg => (HTB.out.r1.lt g hg).1) (f := 1) (.inl rfl) rfl HA2.out HA3.out ((HTB.out.kept (HKN.out.alloc (.cells #[.slice na (ints (lvsN (dmL ds i))).length nc] 40))).push1 HRP.out HCP.out HGP.out HXX.out))
      case rest =>
        have HI := hcut
        clear hcut HS
        obtain ⟨L, hL⟩ : ∃ L, L = (dmL ds i).length := ⟨_, rfl⟩
        have HLD := hidMk hL
        have HRI := hidMk (fun Y (k : Kept wc Y) => HRT.out Y (HI.out.kp.trans k) i hid)
        have HL60 := hidMk (show L ≤ 60 from by rw [hL]; exact (HRI.out wc (Kept.refl _)).big)
        have HTL := hidMk (show ∃ b c, ∀ Y, Kept wc Y → Y.cell? ⟨rt i, 0, none⟩ = some (.slice (some ⟨b, 0, none⟩) L c) from by
          obtain ⟨b, c, h1, _⟩ := (HRI.out wc (Kept.refl _)).ex
          rw [← hL] at h1
          exact ⟨b, c, fun Y k => k.cellp h1⟩)
        obtain ⟨nb, nc, hNL⟩ := HTL.out
        have HNL := hidMk hNL
        clear hNL HTL hL
        go_wp2_with fail
        go_loopg [4, 5, 6] (L + 1) (fun gg s4 s5 x wr => ∃ (k : Nat) (xv : Nat → Value) (lo hi : Nat → Nat), k + gg = L + 1 ∧ k ≤ L ∧ x = .int .i64 k ∧ Hid (TS wc (dmL ds i) k s4 s5 xv lo hi wr))
        case atStart => exact ⟨0, fun _ => undef, fun _ => 0, fun _ => 0, by omega, by omega, rfl, hidMk ⟨rw_nil _ _ _ _ _ _ _, rw_nil _ _ _ _ _ _ _, fun g hg => (by simp [Value.ownBlock] at hg), fun g hg => (by simp [Value.ownBlock] at hg), Kept.refl _⟩⟩
        case round =>
          obtain ⟨k, xv, lo, hi2, hkg, hkL, rfl, HT⟩ := hrel
          obtain ⟨gb, hgb⟩ : ∃ g, g = gk := ⟨_, rfl⟩
          subst hgb
          have HG2 := hidMk hkg
          clear hkg
          have qn := HNL.out wr HT.out.kp
          obtain ⟨f4, g4, e4⟩ := HT.out.rk.form
          subst e4
          obtain ⟨f5, g5, e5⟩ := HT.out.rn.form
          subst e5
          by_cases hk : k < L
          · have hk' : (k : Int) < (L : Int) := by omega
            have hk6 : k ≤ 1000 := by have := HL60.out; omega
            have HRK := hidMk (fun Y (kk : Kept wc Y) => r_Rank (HRI.out Y kk) HTI.out (k : Int))
            go_wp2_with fail
            refine (HRK.out _ HT.out.kp).mono ?_
            rintro e wR ⟨rfl, kR⟩
            have HTR2 := hidMk (HT.out.keep kR)
            clear kR qn
            go_upto_region 12 with (at_builtin; refine wpList_pushR _ (by rfl) _ _ 40 3 (by rfl) (.int .i64 0) 8 Tryz.underlying40 one_int rfl (by decide) wc.heap.size (.slice f4 k g4) k _ _ _ _ (by rfl) (HTR2.out.rk.kept ((Kept.refl wR).alloc _)) (by have := HTR2.out.kp.size; rw [World.size_alloc]; omega) wR.heap.size _ (by rfl) (new_cell _ _ _ _ 0 _ rfl rfl) rfl 0 0 (fun _ => True) (sol_true _) (fun e => absurd e (by omega)) (fun g _ e => by omega) hk6 ?_; intro g' cap wP hrP hcP hgP; have HRP := hidMk hrP; have HCP := hidMk hcP; have HGP := hidMk hgP; clear hrP hcP hgP)
            have HK4 := hidMk (show Rw wP wc.heap.size 3 (.slice (some ⟨g', 0, none⟩) (k + 1) cap) (k + 1) (fun j => .int .i64 (rankI (dmL ds i) (j : Nat))) (fun _ => 0) (fun _ => 0) (fun _ _ => True) from HRP.out.vals rfl (fun j hj => by
              by_cases e : j = k
              · subst e; simp
              · simp [e]))
            have hkR := (HTR2.out.rk.kept ((Kept.refl wR).alloc (.cells #[.int .i64 (rankI (dmL ds i) (k : Int))] 3)))
            have hnR := (HTR2.out.rn.kept ((Kept.refl wR).alloc (.cells #[.int .i64 (rankI (dmL ds i) (k : Int))] 3)))
            have HN5 := hidMk (hnR.chg HCP.out (fun g hg e => (HTR2.out.a45 g e).1 hg) (fun t ht j h1 h2 e => (HTR2.out.a45 j e).2 t ht ⟨h1, h2⟩))
            have HA45 := hidMk (apt_new (n := k + 1) (cap := cap) HTR2.out.a45 hnR HGP.out)
            have HA54 := hidMk (show Apt (.slice f5 k g5) (.slice (some ⟨g', 0, none⟩) (k + 1) cap) (k + 1) (fun _ => 0) (fun _ => 0) from fun g hg => ⟨(apt_old (cap := cap) (l := 0) (u := 0) HTR2.out.a54 hnR HGP.out (fun _ _ e => by omega) g hg).1, fun _ _ e => by omega⟩)
            have HKP := hidMk (Chg.kept (HTR2.out.kp.alloc _) HCP.out (fun j e => (HTR2.out.rk.lt j e).1))
            clear hkR hnR HRP HCP HGP HTR2 HT
            generalize Value.slice (some ⟨g', 0, none⟩) (k + 1) cap = v4n at *
            go_wp2_with fail
            go_loopg [7, 8] (L + 1) (fun gg s7 x wr => ∃ j : Nat, j + gg = L + 1 ∧ j ≤ L ∧ x = .int .i64 j ∧ Hid (BR wr wP.heap.size s7 (dmL ds i) k j ∧ Kept wP wr))
            case atStart => exact ⟨0, by omega, by omega, rfl, hidMk ⟨rw_nil _ _ _ _ _ _ _, Kept.refl _⟩⟩
            case round =>
              obtain ⟨j, hjg, hjL, rfl, HB⟩ := hrel
              have HG3 := hidMk hjg
              clear hjg
              have qn := HNL.out wr (HKP.out.trans HB.out.2)
              obtain ⟨f7, g7, e7⟩ := HB.out.1.form
              subst e7
              by_cases hj : j < L
              · have hj' : (j : Int) < (L : Int) := by omega
                have hj6 : j ≤ 1000 := by have := HL60.out; omega
                have HWI := hidMk (r_Within (HRI.out wr (HKP.out.trans HB.out.2)) (k : Int) (j : Int))
                go_wp2_with fail
                refine HWI.out.mono ?_
                rintro e wV ⟨rfl, kV⟩
                have HBV := hidMk (show BR wV wP.heap.size (.slice f7 j g7) (dmL ds i) k j from HB.out.1.kept kV)
                have HKV := hidMk (HB.out.2.trans kV)
                clear kV qn HWI
                go_wp2_with (at_builtin; refine wpList_pushR _ (by rfl) _ _ 64 4 (by rfl) (.bool false) 1 Tryz.underlying64 one_bool rfl (by decide) wP.heap.size (.slice f7 j g7) j _ _ _ _ (by rfl) (Rw.kept HBV.out ((Kept.refl wV).alloc _)) (by have := HKV.out.size; rw [World.size_alloc]; omega) wV.heap.size _ (by rfl) (new_cell _ _ _ _ 0 _ rfl rfl) rfl 0 0 (fun _ => True) (sol_true _) (fun e => absurd e (by omega)) (fun g _ e => by omega) hj6 ?_; intro h' cap7 wQ hrQ hcQ hgQ; have HRQ := hidMk hrQ; have HCQ := hidMk (Chg.kept (HKV.out.alloc _) hcQ (fun t e => (Rw.lt HBV.out t e).1)); clear hrQ hcQ hgQ)
                go_roundg (gk - 1)
                case measure => have := HG3.out; omega
                case rel => exact ⟨j + 1, by have := HG3.out; omega, by omega, by go_num, hidMk ⟨Rw.vals HRQ.out rfl (fun t ht => by
                  by_cases e : t = j
                  · subst e; simp
                  · simp [e]), HCQ.out⟩⟩
              · have hje : j = L := by omega
                subst hje
                have hj' : ¬ ((j : Int) < (j : Int)) := by omega
                have HBD := hidMk (show RwB wr wP.heap.size (.slice f7 j g7) (inR (dmL ds i) k) from br_done (by have := HB.out.1; rw [← HLD.out]; exact this))
                have HN6 := hidMk (HN5.out.kept HB.out.2)
                have HK6 := hidMk (HK4.out.kept HB.out.2)
                have HKW := hidMk (HKP.out.trans HB.out.2)
                have HBK := hidMk HB.out.2
                clear HB
                go_wp2_with (at_builtin; refine wpList_pushR _ (by rfl) _ _ 96 64 (by rfl) (.slice none 0 0) 24 Tryz.underlying96 one_bools rfl (by decide) wc.heap.size (.slice f5 k g5) k _ _ _ _ (by rfl) (HN6.out.kept ((Kept.refl wr).alloc _)) (by have := HKW.out.size; rw [World.size_alloc]; omega) wr.heap.size _ (by rfl) (new_cell _ _ _ _ 0 _ rfl rfl) rfl wP.heap.size wr.heap.size _ ((Rw.sol HBD.out).chg (S := fun _ => False) (Chg.of_kept ((Kept.refl wr).alloc _)) (fun _ _ _ e => e)) (fun _ => HKP.out.size) (fun g hg e => by have := (HN5.out.lt g hg).2; omega) hk6 ?_; intro h' cap5 wQ hrQ hcQ hgQ; have HRQ := hidMk hrQ; have HCQ := hidMk hcQ; have HGQ := hidMk hgQ; clear hrQ hcQ hgQ)
                go_roundg (gb - 1)
                case measure => have := HG2.out; omega
                case rel =>
                  have hk9 := HK6.out.kept ((Kept.refl wr).alloc (.cells #[.slice f7 j g7] 64))
                  refine ⟨k + 1, _, _, _, by have := HG2.out; omega, by omega, by go_num, hidMk ⟨hk9.chg HCQ.out (fun g hg e => (HA54.out g e).1 hg) (fun t ht j' h1 h2 e => by omega), HRQ.out.imp (fun t ht y hh => ?_), apt_old HA45.out hk9 HGQ.out (fun g hg e => by have := (HK4.out.lt g hg).2; omega), apt_new HA54.out hk9 HGQ.out, Chg.kept (HKW.out.alloc _) HCQ.out (fun t e => (HN5.out.lt t e).1)⟩⟩
                  by_cases e : t = k
                  · subst e; simp only [if_true] at hh ⊢; exact hh
                  · simp only [if_neg e] at hh ⊢; exact hh
          · have hke : k = L := by omega
            subst hke
            have hk' : ¬ ((k : Int) < (k : Int)) := by omega
            obtain ⟨v1, v2, v3, x1, x2, x3, l1, l2, l3, t1, t2, t3, a1, a2, a3, hT⟩ := HI.out.tb
            obtain ⟨f2, g2, e2⟩ := hT.r2.form
            subst e2
            obtain ⟨f3, g3, e3⟩ := hT.r3.form
            subst e3
            have HPW := hidMk (HI.out.keep HT.out.kp)
            have HTB := hidMk hT
            have HSK := hidMk (show Sol wc.heap.size wr.heap.size (fun y => RwI y wc.heap.size (.slice f4 k g4) (rkL (dmL ds i))) wr from Rw.sol (rk_done (by have := HT.out.rk; rw [← HLD.out]; exact this)))
            have HSI := hidMk (show Sol wc.heap.size wr.heap.size (fun y => RwT y wc.heap.size (.slice f5 k g5) (dmL ds i)) wr from ⟨Nat.le_refl _, fun S y c hS => ⟨xv, lo, hi2, by have := (Rw.sol HT.out.rn).all S y c hS; rw [← HLD.out]; exact this⟩⟩)
            have HKW := hidMk HT.out.kp
            have b1 := HKW.out.cellp a1
            have b2 := HKW.out.cellp a2
            have b3 := HKW.out.cellp a3
            have HB1 := hidMk b1
            have HB2 := hidMk b2
            have HB3 := hidMk b3
            clear a1 a2 a3 hT b1 b3
            have hi6 : i ≤ 1000 := by omega
            go_upto_region 19 with (at_builtin; refine wpList_pushR _ (by rfl) _ _ 62 40 (by rfl) (.slice none 0 0) 24 Tryz.underlying62 one_ints rfl (by decide) X.heap.size (.slice f2 i g2) i _ _ _ _ (by rfl) ((HTB.out.r2.kept HKW.out).kept ((Kept.refl wr).alloc _)) (by have h1 := HI.out.ch.size; have h2 := HKW.out.size; rw [World.size_alloc]; omega) wr.heap.size _ (by rfl) (new_cell _ _ _ _ 0 _ rfl rfl) rfl wc.heap.size wr.heap.size _ (HSK.out.chg (S := fun _ => False) (Chg.of_kept ((Kept.refl wr).alloc _)) (fun _ _ _ e => e)) (fun _ => HI.out.ch.size) (fun g hg e => by have := (HTB.out.r2.lt g hg).2; omega) hi6 ?_; intro g' cap wP hrP hcP hgP; have n1 : ¬ (Value.slice f2 i g2).ownBlock = some r := (fun e => by have h1 := (HTB.out.r2.lt r e).1; have h2 := HX.out; omega); have b9 := hcP.cellp (((Kept.refl wr).alloc _).cellp HB2.out) n1; have bf : wP.frozen? ⟨r, 2, none⟩ = false := ((hcP.frozen (p := ⟨r, 2, none⟩) (cell_lt (((Kept.refl wr).alloc _).cellp HB2.out)) n1).trans (((Kept.refl wr).alloc _).frozen (p := ⟨r, 2, none⟩) HPW.out.lt)).trans (HPW.out.fz 2); have HRP := hidMk hrP; have HCP := hidMk hcP; have HGP := hidMk hgP; clear hrP hcP hgP n1)
            clear b2 qn
            have HTB2 := hidMk (((HTB.out.kept HKW.out).kept ((Kept.refl wr).alloc (.cells #[.slice f4 k g4] 40))).push2 HRP.out HCP.out HGP.out (fun g hg e => by
              rcases hg with hg | hg
              · have := (HTB.out.r1.lt g hg).2; omega
              · have := (HTB.out.r3.lt g hg).2; omega))
            have HP2 := hidMk (HPW.out.put HRW.out HX.out ((Kept.refl wr).alloc (.cells #[.slice f4 k g4] 40)) HCP.out (fun g hg => (HTB.out.r2.lt g hg).1) (f := 2) (.inr (.inl rfl)) HB1.out rfl HB3.out HTB2.out)
            have HSI2 := hidMk (((HSI.out.chg (S := fun _ => False) (Chg.of_kept ((Kept.refl wr).alloc (.cells #[.slice f4 k g4] 40))) (fun _ _ _ e => e)).chg HCP.out (fun j h1 h2 e => by have := (HTB.out.r2.lt j e).2; omega)).chg (S := fun j => j = r) (Chg.setCell (S := fun j => j = r) (Chg.refl _ wP) (p := ⟨r, 2, none⟩) (.inl rfl) (.slice (some ⟨g', 0, none⟩) (i + 1) cap)) (fun j h1 h2 e => by have := HI.out.lt; omega))
            have HT3 := hidMk (HTB2.out.chg (S := fun j => j = r) (Chg.setCell (S := fun j => j = r) (Chg.refl _ wP) (p := ⟨r, 2, none⟩) (.inl rfl) (.slice (some ⟨g', 0, none⟩) (i + 1) cap)) (fun j e => by have := HX.out; omega))
            have b3 : (wP.setCell ⟨r, 2, none⟩ (.slice (some ⟨g', 0, none⟩) (i + 1) cap)).cell? ⟨r, 3, none⟩ = some (.slice f3 i g3) := by
              rw [World.cell?_setCell_other _ _ _ _ (by intro e; injection e with _ e1 _; omega)]
              exact HCP.out.cellp (((Kept.refl wr).alloc _).cellp HB3.out) (fun e => by have h1 := (HTB.out.r2.lt r e).1; have h2 := HX.out; omega)
            have b1 : (wP.setCell ⟨r, 2, none⟩ (.slice (some ⟨g', 0, none⟩) (i + 1) cap)).cell? ⟨r, 1, none⟩ = some v1 := by
              rw [World.cell?_setCell_other _ _ _ _ (by intro e; injection e with _ e1 _; omega)]
              exact HCP.out.cellp (((Kept.refl wr).alloc _).cellp HB1.out) (fun e => by have h1 := (HTB.out.r2.lt r e).1; have h2 := HX.out; omega)
            have b2 : (wP.setCell ⟨r, 2, none⟩ (.slice (some ⟨g', 0, none⟩) (i + 1) cap)).cell? ⟨r, 2, none⟩ = some (.slice (some ⟨g', 0, none⟩) (i + 1) cap) := World.cell?_setCell_same _ _ _ b9
            have HOG := hidMk (show ∀ g, (Value.slice (some ⟨g', 0, none⟩) (i + 1) cap).ownBlock = some g → ¬ (wc.heap.size ≤ g ∧ g < wr.heap.size) from fun g hg e => by
              have e' : g' = g := by simpa only [Value.ownBlock, Option.some.injEq] using hg
              subst e'
              rcases HGP.out with h4 | h4
              · have := (HTB.out.r2.lt g' h4).2; omega
              · rw [World.size_alloc] at h4; omega)
            have HC1 := hidMk b1
            have HC2 := hidMk b2
            have HC3 := hidMk b3
            have HSZ := hidMk (show X.heap.size ≤ (wP.setCell ⟨r, 2, none⟩ (.slice (some ⟨g', 0, none⟩) (i + 1) cap)).heap.size from HP2.out.ch.size)
            clear b1 b2 b9 bf HB1 HB2 HB3 HCP HGP HRP HTB2 HSI HSK HPW
            generalize wP.setCell ⟨r, 2, none⟩ (.slice (some ⟨g', 0, none⟩) (i + 1) cap) = wY at *
            go_wp2_with (at_builtin; refine wpList_pushR _ (by rfl) _ _ 63 96 (by rfl) (.slice none 0 0) 24 Tryz.underlying63 one_bools2 rfl (by decide) X.heap.size (.slice f3 i g3) i _ _ _ _ (by rfl) (HT3.out.r3.kept ((Kept.refl wY).alloc _)) (by have h1 := HSZ.out; rw [World.size_alloc]; omega) wY.heap.size _ (by rfl) (new_cell _ _ _ _ 0 _ rfl rfl) rfl wc.heap.size wr.heap.size _ (HSI2.out.chg (S := fun _ => False) (Chg.of_kept ((Kept.refl wY).alloc _)) (fun _ _ _ e => e)) (fun _ => HI.out.ch.size) (fun g hg e => by have := (HTB.out.r3.lt g hg).2; omega) hi6 ?_; intro g9 cap9 wP hrP hcP hgP; have n1 : ¬ (Value.slice f3 i g3).ownBlock = some r := (fun e => by have h1 := (HTB.out.r3.lt r e).1; have h2 := HX.out; omega); have b9 := hcP.cellp (((Kept.refl wY).alloc _).cellp HC3.out) n1; have bf : wP.frozen? ⟨r, 3, none⟩ = false := ((hcP.frozen (p := ⟨r, 3, none⟩) (cell_lt (((Kept.refl wY).alloc _).cellp HC3.out)) n1).trans (((Kept.refl wY).alloc _).frozen (p := ⟨r, 3, none⟩) HP2.out.lt)).trans (HP2.out.fz 3); have HRP := hidMk hrP; have HCP := hidMk hcP; have HGP := hidMk hgP; clear hrP hcP hgP n1)
            go_roundg (ga - 1)
            case measure => have := HG.out; omega
            case rel =>
              have hT4 := (HT3.out.kept ((Kept.refl wY).alloc (.cells #[.slice f5 k g5] 96))).push3 HRP.out HCP.out HGP.out (fun g hg e => by
                rcases hg with hg | hg
                · have := (HTB.out.r1.lt g hg).2; omega
                · exact HOG.out g hg e)
              exact ⟨i + 1, by have := HG.out; omega, by omega, by go_num, hidMk (HP2.out.put HRW.out HX.out ((Kept.refl wY).alloc (.cells #[.slice f5 k g5] 96)) HCP.out (fun g hg => (HTB.out.r3.lt g hg).1) (f := 3) (.inr (.inr rfl)) HC1.out HC2.out rfl hT4)⟩
    · have hie : i = D := by omega
      subst hie
      go_wp2_with fail
      go_end0
      exact ⟨rfl, HS.out⟩
end Go.Proofs.YtmmdfpafkmhgcaaGreat
