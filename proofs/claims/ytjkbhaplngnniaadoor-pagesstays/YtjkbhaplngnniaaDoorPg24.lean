/- pages: two trees are gone through, for Differ. -/
import Derived.Test.YtjkbhaplngnniaaDoorPg22
namespace Go.Proofs.YtjkbhaplngnniaaDoor
open Go.RowKit Go.Maps
set_option linter.unusedSimpArgs false
set_option linter.unusedVariables false

section
variable {w0 : World} {g p : Nat} {ow : Option Nat} {most : Int} {n : Nat} {rf : Int → Nat} {nd : Int → ANd} {M : Nat} {codes : Int} {pb sb fb ab B : Nat} {T lev : Int → Nat} {L : Nat}
set_option maxHeartbeats 8000000 in
set_option maxRecDepth 100000 in
theorem down1_Differ (iv : PInv n rf nd T lev L) (a b first : Int) (ws : World) (v : Value) (acc : List (Int × Int × Bool)) (hf0 : 0 ≤ first) (hf1 : first + 8 ≤ 100000) (ha : RootOk rf lev 1 a) (hb : RootOk rf lev 1 b) (hde : DE w0 g p ow most n rf nd M codes pb sb fb ab B (.func (.func 38) #[] #[.pointer (some ⟨ab, 0, none⟩)]) (.func (.func 49) #[] #[.pointer (some ⟨pb, 0, none⟩), .pointer (some ⟨sb, 0, none⟩), .pointer (some ⟨fb, 0, none⟩)]) ws) (hrw : RW ab B 3 1 cfI ws v acc) (hacc : acc.length + 8 ≤ 20000) :
    Calls Tryd.prog 49 #[.int .i64 a, .int .i64 b, .int .i64 1, .int .i64 first, .pointer (some ⟨pb, 0, none⟩), .pointer (some ⟨sb, 0, none⟩), .pointer (some ⟨fb, 0, none⟩)] ws fun e w' => e = .returned (.int .i64 0) ∧ StepR ab B 3 1 cfI ws v w' (acc ++ selL nd 1 a b first 8) := by
  have HDE := hidMk hde
  have HRW := hidMk hrw
  have HBA := hidMk ha
  have HBB := hidMk hb
  have HIV := hidMk iv
  clear hde hrw ha hb iv
  by_cases hab : a = b
  · subst hab
    go_enter Tryd.func49, Tryd.ntmps49
    go_wp2_with fail
    go_ret
    exact ⟨rfl, by rw [selL_same, List.append_nil]; exact StepR.same HRW.out (Kept.refl _)⟩
  have hab' : (a == b) = false := by simpa using hab
  have HN1 := hidMk (fun Y (hd : DE w0 g p ow most n rf nd M codes pb sb fb ab B (.func (.func 38) #[] #[.pointer (some ⟨ab, 0, none⟩)]) (.func (.func 49) #[] #[.pointer (some ⟨pb, 0, none⟩), .pointer (some ⟨sb, 0, none⟩), .pointer (some ⟨fb, 0, none⟩)]) Y) => pg_node hd.ar hd.pg a (HBA.out.imp id (fun e => e.1)))
  have HN2 := hidMk (fun Y (hd : DE w0 g p ow most n rf nd M codes pb sb fb ab B (.func (.func 38) #[] #[.pointer (some ⟨ab, 0, none⟩)]) (.func (.func 49) #[] #[.pointer (some ⟨pb, 0, none⟩), .pointer (some ⟨sb, 0, none⟩), .pointer (some ⟨fb, 0, none⟩)]) Y) => pg_node hd.ar hd.pg b (HBB.out.imp id (fun e => e.1)))
  have HKA := hidMk (ndZ_ok HIV.out.kok a)
  have HKB := hidMk (ndZ_ok HIV.out.kok b)
  unfold ndV at HN1 HN2
  obtain ⟨LA, hLA⟩ : ∃ L, L = ndL (ndZ nd a) := ⟨_, rfl⟩
  obtain ⟨LB, hLB⟩ : ∃ L, L = ndL (ndZ nd b) := ⟨_, rfl⟩
  rw [← hLA] at HN1
  rw [← hLB] at HN2
  have HLA := hidMk (show LA.length = 25 ∧ ∀ u ∈ LA, u.oneCell' = true from by rw [hLA]; exact ⟨ndL_len _ HKA.out.1 HKA.out.2, ndL_one _⟩)
  have HLB := hidMk (show LB.length = 25 ∧ ∀ u ∈ LB, u.oneCell' = true from by rw [hLB]; exact ⟨ndL_len _ HKB.out.1 HKB.out.2, ndL_one _⟩)
  have HEA := hidMk hLA
  have HEB := hidMk hLB
  have c4 := HDE.out.c4
  clear hLA hLB hab
  go_enter Tryd.func49, Tryd.ntmps49
  go_wp2_with fail
  refine (HN1.out _ HDE.out).mono ?_
  rintro e w1 ⟨rfl, k1⟩
  obtain ⟨xb, hxb⟩ : ∃ x, x = w1.heap.size := ⟨_, rfl⟩
  obtain ⟨W2, hW2⟩ : ∃ W, W = w1.alloc (.cells (ndL zNd).toArray 91) := ⟨_, rfl⟩
  have HT2 := hidMk (show W2.there xb 0 25 from by rw [hW2, hxb]; exact new_there _ _ _ _ (by rfl))
  obtain ⟨W3, hW3⟩ : ∃ W, W = W2.setCells xb 0 LA := ⟨_, rfl⟩
  have k3 : Kept ws W3 := by rw [hW3, hW2]; exact kept_setCells (by rw [hxb]; exact k1.size) _ _ (k1.alloc _)
  have HR3 := hidMk (show W3.rangeAt xb 0 LA from by rw [hW3]; exact World.rangeAt_setCells_same _ _ _ _ (by rw [HLA.out.1]; exact HT2.out))
  have HX := hidMk (show ws.heap.size ≤ xb ∧ xb < W3.heap.size from ⟨by rw [hxb]; exact k1.size, range_lt HR3.out (by rw [HLA.out.1]; omega)⟩)
  have HK3 := hidMk k3
  have c4' := k3.cellp c4
  clear k1 k3 c4
  go_wp2_with (first | (refine wpl_allocN rfl rfl ?_; rw [← hW2, ← hxb]; clear hW2 hxb) | (refine wpl_storeN rfl _ _ rfl _ _ rfl LA HLA.out.1 rfl HLA.out.2 HT2.out ?_; rw [← hW3]; clear hW3))
  refine (HN2.out _ (HDE.out.keep HK3.out)).mono ?_
  rintro e w4 ⟨rfl, k4⟩
  obtain ⟨yb, hyb⟩ : ∃ x, x = w4.heap.size := ⟨_, rfl⟩
  obtain ⟨W5, hW5⟩ : ∃ W, W = w4.alloc (.cells (ndL zNd).toArray 91) := ⟨_, rfl⟩
  have HT5 := hidMk (show W5.there yb 0 25 from by rw [hW5, hyb]; exact new_there _ _ _ _ (by rfl))
  obtain ⟨W6, hW6⟩ : ∃ W, W = W5.setCells yb 0 LB := ⟨_, rfl⟩
  have k6 : Kept W3 W6 := by rw [hW6, hW5]; exact kept_setCells (by rw [hyb]; exact k4.size) _ _ (k4.alloc _)
  have HR6 := hidMk (show W6.rangeAt yb 0 LB from by rw [hW6]; exact World.rangeAt_setCells_same _ _ _ _ (by rw [HLB.out.1]; exact HT5.out))
  have HY := hidMk (show ws.heap.size ≤ yb ∧ yb < W6.heap.size from ⟨by rw [hyb]; exact Nat.le_trans HK3.out.size k4.size, range_lt HR6.out (by rw [HLB.out.1]; omega)⟩)
  have HK6 := hidMk (HK3.out.trans k6)
  have HR36 := hidMk (k6.range HR3.out)
  have HXS := hidMk (Nat.lt_of_lt_of_le HX.out.2 k6.size)
  clear k4 k6 c4'
  go_wp2_with (first | (refine wpl_allocN rfl rfl ?_; rw [← hW5, ← hyb]; clear hW5 hyb) | (refine wpl_storeN rfl _ _ rfl _ _ rfl LB HLB.out.1 rfl HLB.out.2 HT5.out ?_; rw [← hW6]; clear hW6))
  have HBG := hidMk (show DnS w0 g p ow most n rf nd M codes pb sb fb ab B (.func (.func 38) #[] #[.pointer (some ⟨ab, 0, none⟩)]) (.func (.func 49) #[] #[.pointer (some ⟨pb, 0, none⟩), .pointer (some ⟨sb, 0, none⟩), .pointer (some ⟨fb, 0, none⟩)]) 3 1 cfI 1 a b first (1) acc ws v xb yb LA LB 0 W6 from
    ⟨v, by have := HRW.out.kept HK6.out; rw [Nat.zero_mul, selL_zero, List.append_nil]; exact this, HDE.out.keep HK6.out, HR36.out, HR6.out, Chg.of_kept HK6.out, fun k hk => .inl hk, fun k hk => by have := (World.ownsRow.lt HRW.out.ow k hk).2; have := HX.out.1; have := HY.out.1; omega, ⟨HXS.out, HY.out.2⟩, by have h1 : ab < ws.heap.size := cell_lt HRW.out.c; have := HX.out.1; have := HY.out.1; omega⟩)
  clear HT2 HT5 HR3 HR6 HR36 HK3 HX HY HK6 HN1 HN2 HXS
  go_loopg [38] 10 (fun gg s wr => ∃ i : Nat, i + gg = 10 ∧ i ≤ 8 ∧ s = .int .i64 i ∧ Hid (DnS w0 g p ow most n rf nd M codes pb sb fb ab B (.func (.func 38) #[] #[.pointer (some ⟨ab, 0, none⟩)]) (.func (.func 49) #[] #[.pointer (some ⟨pb, 0, none⟩), .pointer (some ⟨sb, 0, none⟩), .pointer (some ⟨fb, 0, none⟩)]) 3 1 cfI 1 a b first (1) acc ws v xb yb LA LB i wr))
  case atStart => exact ⟨0, by omega, by omega, rfl, HBG⟩
  case round =>
    clear HBG
    obtain ⟨i, hig, hi8, rfl, HS⟩ := hrel
    have HG := hidMk hig
    clear hig
    by_cases hi : i < 8
    · have hi' : (i : Int) < 8 := by omega
      obtain ⟨vv, hr, hd, ra, rb, hc, ho, hne, hlt, hge⟩ := HS.out
      have HNX := hidMk (show ∀ wK, StepR ab B 3 1 cfI wr.drew vv wK (acc ++ selL nd 1 a b first ((i + 1) * 1)) → DE w0 g p ow most n rf nd M codes pb sb fb ab B (.func (.func 38) #[] #[.pointer (some ⟨ab, 0, none⟩)]) (.func (.func 49) #[] #[.pointer (some ⟨pb, 0, none⟩), .pointer (some ⟨sb, 0, none⟩), .pointer (some ⟨fb, 0, none⟩)]) wK ∧ wK.rangeAt xb 0 LA ∧ wK.rangeAt yb 0 LB from fun wK hst => by
        have := (dns_step hr hd ra rb hc ho hne hlt hge hst)
        obtain ⟨_, _, q1, q2, q3, _⟩ := this
        exact ⟨q1, q2, q3⟩)
      have HFN := hidMk (show ∀ wK, StepR ab B 3 1 cfI wr.drew vv wK (acc ++ selL nd 1 a b first ((i + 1) * 1)) → DnS w0 g p ow most n rf nd M codes pb sb fb ab B (.func (.func 38) #[] #[.pointer (some ⟨ab, 0, none⟩)]) (.func (.func 49) #[] #[.pointer (some ⟨pb, 0, none⟩), .pointer (some ⟨sb, 0, none⟩), .pointer (some ⟨fb, 0, none⟩)]) 3 1 cfI 1 a b first (1) acc ws v xb yb LA LB (i + 1) wK from fun wK hst => dns_step hr hd ra rb hc ho hne hlt hge hst)
      have HN0 := hidMk (show DE w0 g p ow most n rf nd M codes pb sb fb ab B (.func (.func 38) #[] #[.pointer (some ⟨ab, 0, none⟩)]) (.func (.func 49) #[] #[.pointer (some ⟨pb, 0, none⟩), .pointer (some ⟨sb, 0, none⟩), .pointer (some ⟨fb, 0, none⟩)]) wr.drew ∧ wr.drew.rangeAt xb 0 LA ∧ wr.drew.rangeAt yb 0 LB from ⟨hd.keep ((Kept.refl wr).drew), ((Kept.refl wr).drew).range ra, ((Kept.refl wr).drew).range rb⟩)
      have HRD := hidMk (hr.kept ((Kept.refl wr).drew))
      obtain ⟨⟨x1, x2⟩, hx⟩ : ∃ x, x = (ndZ nd a).vals.getD i (0, false) := ⟨_, rfl⟩
      obtain ⟨⟨y1, y2⟩, hy⟩ : ∃ x, x = (ndZ nd b).vals.getD i (0, false) := ⟨_, rfl⟩
      have HXE := hidMk (show ∀ Y : World, Y.rangeAt xb 0 LA → Y.cell? ⟨xb, 9 + i * 2, none⟩ = some (.int .i64 x1) ∧ Y.cell? ⟨xb, 9 + i * 2 + 1, none⟩ = some (.bool x2) from fun Y hr => by
        have hh := ndL_ent _ HKA.out.1 HKA.out.2 i hi
        rw [← hx, ← HEA.out] at hh
        rw [show i * 2 = 2 * i by omega]
        have h1 := hr _ _ hh.1
        have h2 := hr _ _ hh.2
        rw [Nat.zero_add] at h1 h2
        exact ⟨h1, h2⟩)
      have HYE := hidMk (show ∀ Y : World, Y.rangeAt yb 0 LB → Y.cell? ⟨yb, 9 + i * 2, none⟩ = some (.int .i64 y1) ∧ Y.cell? ⟨yb, 9 + i * 2 + 1, none⟩ = some (.bool y2) from fun Y hr => by
        have hh := ndL_ent _ HKB.out.1 HKB.out.2 i hi
        rw [← hy, ← HEB.out] at hh
        rw [show i * 2 = 2 * i by omega]
        have h1 := hr _ _ hh.1
        have h2 := hr _ _ hh.2
        rw [Nat.zero_add] at h1 h2
        exact ⟨h1, h2⟩)
      have hwf : IntKind.i64.wrap (first + (i : Int)) = first + (i : Int) := wrap_i (by omega) (by omega)
      have hlen : (acc ++ selL nd 1 a b first (i * 1)).length ≤ 20000 := by have := selL_len nd 1 a b first (i * 1); rw [List.length_append]; omega
      have HSE := hidMk (show Calls Tryd.prog 38 #[.int .i64 (first + (i : Int)), .agg #[.int .i64 x1, .bool x2], .agg #[.int .i64 y1, .bool y2], .pointer (some ⟨ab, 0, none⟩)] wr.drew fun e X' => e = .returned (.tuple #[]) ∧ StepR ab B 3 1 cfI wr.drew vv X' (acc ++ selL nd 1 a b first ((i + 1) * 1)) from by
        rw [Nat.mul_one, selL_one, ← List.append_assoc, ← hx, ← hy]
        rw [Nat.mul_one] at HRD hlen
        exact see_Differ HRD.out hlen _ x1 y1 x2 y2)
      clear hr hd ra rb hc ho hne hlt hge HS hx hy hlen
      go_upto_region 13 with fail
      refine wp_region_held_drew (S := (fun w' => DE w0 g p ow most n rf nd M codes pb sb fb ab B (.func (.func 38) #[] #[.pointer (some ⟨ab, 0, none⟩)]) (.func (.func 49) #[] #[.pointer (some ⟨pb, 0, none⟩), .pointer (some ⟨sb, 0, none⟩), .pointer (some ⟨fb, 0, none⟩)]) w' ∧ w'.rangeAt xb 0 LA ∧ w'.rangeAt yb 0 LB)) (by kernel_rfl) ?_ (fun hHeld => ?_)
      · exact HN0.out
      refine wpAnyH_take (i := 0) (oi := { dst := some 43, op := _, type := _, pos := _, after := _, guard := _ }) (v := ?_) rfl (by kernel_rfl) (by kernel_rfl) (by kernel_rfl) (fun _ _ _ h => h) (Or.inl ⟨by rfl, ?_⟩) (by assumption) ?_
      rotate_left
      · (intro w hSw; have s0 := hSw.1.c5; obtain ⟨s1, s2⟩ := HXE.out w hSw.2.1; obtain ⟨s3, s4⟩ := HYE.out w hSw.2.2; clear hSw; go_simp; (try with_reducible rfl))
      (try simp only [Act.put, List.setIfInBounds_toArray, List.set_cons_zero, List.set_cons_succ])
      refine wpAnyH_take (i := 1) (oi := { dst := some 44, op := _, type := _, pos := _, after := _, guard := _ }) (v := ?_) rfl (by kernel_rfl) (by kernel_rfl) (by kernel_rfl) (fun _ _ _ h => h) (Or.inl ⟨by rfl, ?_⟩) (by assumption) ?_
      rotate_left
      · (intro w hSw; have s0 := hSw.1.c5; obtain ⟨s1, s2⟩ := HXE.out w hSw.2.1; obtain ⟨s3, s4⟩ := HYE.out w hSw.2.2; clear hSw; go_simp; (try with_reducible rfl))
      (try simp only [Act.put, List.setIfInBounds_toArray, List.set_cons_zero, List.set_cons_succ])
      refine wpAnyH_take (i := 2) (oi := { dst := some 45, op := _, type := _, pos := _, after := _, guard := _ }) (v := ?_) rfl (by kernel_rfl) (by kernel_rfl) (by kernel_rfl) (fun _ _ _ h => h) (Or.inl ⟨by rfl, ?_⟩) (by assumption) ?_
      rotate_left
      · (intro w hSw; have s0 := hSw.1.c5; obtain ⟨s1, s2⟩ := HXE.out w hSw.2.1; obtain ⟨s3, s4⟩ := HYE.out w hSw.2.2; clear hSw; go_simp; (try with_reducible rfl))
      (try simp only [Act.put, List.setIfInBounds_toArray, List.set_cons_zero, List.set_cons_succ])
      refine wpAnyH_take (i := 3) (oi := { dst := some 46, op := _, type := _, pos := _, after := _, guard := _ }) (v := ?_) rfl (by kernel_rfl) (by kernel_rfl) (by kernel_rfl) (fun _ _ _ h => h) (Or.inl ⟨by rfl, ?_⟩) (by assumption) ?_
      rotate_left
      · (intro w hSw; have s0 := hSw.1.c5; obtain ⟨s1, s2⟩ := HXE.out w hSw.2.1; obtain ⟨s3, s4⟩ := HYE.out w hSw.2.2; clear hSw; go_simp; (try with_reducible rfl))
      (try simp only [Act.put, List.setIfInBounds_toArray, List.set_cons_zero, List.set_cons_succ])
      refine wpAnyH_take (i := 4) (oi := { dst := some 47, op := _, type := _, pos := _, after := _, guard := _ }) (v := ?_) rfl (by kernel_rfl) (by kernel_rfl) (by kernel_rfl) (fun _ _ _ h => h) (Or.inl ⟨by rfl, ?_⟩) (by assumption) ?_
      rotate_left
      · (intro w hSw; have s0 := hSw.1.c5; obtain ⟨s1, s2⟩ := HXE.out w hSw.2.1; obtain ⟨s3, s4⟩ := HYE.out w hSw.2.2; clear hSw; go_simp; (try with_reducible rfl))
      (try simp only [Act.put, List.setIfInBounds_toArray, List.set_cons_zero, List.set_cons_succ])
      refine wpAnyH_take (i := 5) (oi := { dst := some 48, op := _, type := _, pos := _, after := _, guard := _ }) (v := ?_) rfl (by kernel_rfl) (by kernel_rfl) (by kernel_rfl) (fun _ _ _ h => h) (Or.inl ⟨by rfl, ?_⟩) (by assumption) ?_
      rotate_left
      · (intro w hSw; have s0 := hSw.1.c5; obtain ⟨s1, s2⟩ := HXE.out w hSw.2.1; obtain ⟨s3, s4⟩ := HYE.out w hSw.2.2; clear hSw; go_simp; (try with_reducible rfl))
      (try simp only [Act.put, List.setIfInBounds_toArray, List.set_cons_zero, List.set_cons_succ])
      refine wpAnyH_take (i := 6) (oi := { dst := some 49, op := _, type := _, pos := _, after := _, guard := _ }) (v := ?_) rfl (by kernel_rfl) (by kernel_rfl) (by kernel_rfl) (fun _ _ _ h => h) (Or.inl ⟨by rfl, ?_⟩) (by assumption) ?_
      rotate_left
      · (intro w hSw; have s0 := hSw.1.c5; obtain ⟨s1, s2⟩ := HXE.out w hSw.2.1; obtain ⟨s3, s4⟩ := HYE.out w hSw.2.2; clear hSw; go_simp; (try with_reducible rfl))
      (try simp only [Act.put, List.setIfInBounds_toArray, List.set_cons_zero, List.set_cons_succ])
      refine wpAnyH_take (i := 7) (oi := { dst := some 50, op := _, type := _, pos := _, after := _, guard := _ }) (v := ?_) rfl (by kernel_rfl) (by kernel_rfl) (by kernel_rfl) (fun _ _ _ h => h) (Or.inl ⟨by rfl, ?_⟩) (by assumption) ?_
      rotate_left
      · (intro w hSw; have s0 := hSw.1.c5; obtain ⟨s1, s2⟩ := HXE.out w hSw.2.1; obtain ⟨s3, s4⟩ := HYE.out w hSw.2.2; clear hSw; go_simp; (try with_reducible rfl))
      (try simp only [Act.put, List.setIfInBounds_toArray, List.set_cons_zero, List.set_cons_succ])
      refine wpAnyH_take (i := 8) (oi := { dst := some 51, op := _, type := _, pos := _, after := _, guard := _ }) (v := ?_) rfl (by kernel_rfl) (by kernel_rfl) (by kernel_rfl) (fun _ _ _ h => h) (Or.inl ⟨by rfl, ?_⟩) (by assumption) ?_
      rotate_left
      · (intro w hSw; have s0 := hSw.1.c5; obtain ⟨s1, s2⟩ := HXE.out w hSw.2.1; obtain ⟨s3, s4⟩ := HYE.out w hSw.2.2; clear hSw; go_simp; (try with_reducible rfl))
      (try simp only [Act.put, List.setIfInBounds_toArray, List.set_cons_zero, List.set_cons_succ])
      refine wpAnyH_take (i := 9) (oi := { dst := some 52, op := _, type := _, pos := _, after := _, guard := _ }) (v := ?_) rfl (by kernel_rfl) (by kernel_rfl) (by kernel_rfl) (fun _ _ _ h => h) (Or.inl ⟨by rfl, ?_⟩) (by assumption) ?_
      rotate_left
      · (intro w hSw; have s0 := hSw.1.c5; obtain ⟨s1, s2⟩ := HXE.out w hSw.2.1; obtain ⟨s3, s4⟩ := HYE.out w hSw.2.2; clear hSw; go_simp; (try with_reducible rfl))
      (try simp only [Act.put, List.setIfInBounds_toArray, List.set_cons_zero, List.set_cons_succ])
      refine wpAnyH_take (i := 10) (oi := { dst := some 53, op := _, type := _, pos := _, after := _, guard := _ }) (v := ?_) rfl (by kernel_rfl) (by kernel_rfl) (by kernel_rfl) (fun _ _ _ h => h) (Or.inl ⟨by rfl, ?_⟩) (by assumption) ?_
      rotate_left
      · (intro w hSw; have s0 := hSw.1.c5; obtain ⟨s1, s2⟩ := HXE.out w hSw.2.1; obtain ⟨s3, s4⟩ := HYE.out w hSw.2.2; clear hSw; go_simp; (try with_reducible rfl))
      (try simp only [Act.put, List.setIfInBounds_toArray, List.set_cons_zero, List.set_cons_succ])
      refine wpAnyH_take (i := 11) (oi := { dst := some 54, op := _, type := _, pos := _, after := _, guard := _ }) (v := ?_) rfl (by kernel_rfl) (by kernel_rfl) (by kernel_rfl) (fun _ _ _ h => h) (Or.inl ⟨by rfl, ?_⟩) (by assumption) ?_
      rotate_left
      · (intro w hSw; have s0 := hSw.1.c5; obtain ⟨s1, s2⟩ := HXE.out w hSw.2.1; obtain ⟨s3, s4⟩ := HYE.out w hSw.2.2; clear hSw; go_simp; (try with_reducible rfl))
      (try simp only [Act.put, List.setIfInBounds_toArray, List.set_cons_zero, List.set_cons_succ])
      refine wpAnyH_ready (rs := [12]) (by kernel_rfl) (by simp) ?_
      refine AllReadyH.cons (o := { dst := some 55, op := _, type := _, pos := _, after := _, guard := _ }) rfl (fun K hK => ?_) AllReadyH.nil
      go_simp
      refine HSE.out.mono ?_
      rintro e wK ⟨rfl, hst⟩
      have HST := hidMk hst
      have HNC := hidMk (HNX.out wK hst)
      clear hst
      (try go_wp2_with fail)
      refine hK.out _ _ ?_ (fun hHeld => ?_)
      · exact HNC.out
      clear hK K
      (try simp only [Act.put, List.setIfInBounds_toArray, List.set_cons_zero, List.set_cons_succ])
      refine wpAnyH_done (by kernel_rfl) ?_ _
      go_wp2_with fail
      go_roundg (gk - 1)
      case measure => have := HG.out; omega
      case rel => exact ⟨i + 1, by have := HG.out; omega, by omega, by go_num, hidMk (HFN.out _ HST.out)⟩
    · have hi8' : i = 8 := by omega
      subst hi8'
      have HFI := hidMk (show StepR ab B 3 1 cfI ws v wr (acc ++ selL nd 1 a b first (8 * 1)) from by
        obtain ⟨vv, hr, hd, ra, rb, hc, ho, _⟩ := HS.out
        exact ⟨vv, hr, hc, ho⟩)
      clear HS
      go_wp2_with fail
      go_ret
      refine ⟨rfl, ?_⟩
      have := HFI.out
      rw [Nat.mul_one] at this
      exact this

set_option maxHeartbeats 8000000 in
set_option maxRecDepth 100000 in
theorem down_Differ (iv : PInv n rf nd T lev L) : ∀ (l : Nat), l ≤ 3 → ∀ (a b first : Int) (ws : World) (v : Value) (acc : List (Int × Int × Bool)), 0 ≤ first → first + ((8 ^ (l + 1) : Nat) : Int) ≤ 100000 → RootOk rf lev (l + 1) a → RootOk rf lev (l + 1) b → DE w0 g p ow most n rf nd M codes pb sb fb ab B (.func (.func 38) #[] #[.pointer (some ⟨ab, 0, none⟩)]) (.func (.func 49) #[] #[.pointer (some ⟨pb, 0, none⟩), .pointer (some ⟨sb, 0, none⟩), .pointer (some ⟨fb, 0, none⟩)]) ws → RW ab B 3 1 cfI ws v acc → acc.length + 8 ^ (l + 1) ≤ 20000 →
    Calls Tryd.prog 49 #[.int .i64 a, .int .i64 b, .int .i64 ((l + 1 : Nat) : Int), .int .i64 first, .pointer (some ⟨pb, 0, none⟩), .pointer (some ⟨sb, 0, none⟩), .pointer (some ⟨fb, 0, none⟩)] ws fun e w' => e = .returned (.int .i64 0) ∧ StepR ab B 3 1 cfI ws v w' (acc ++ selL nd (l + 1) a b first (8 ^ (l + 1))) := by
  intro l
  induction l with
  | zero =>
    intro _ a b first ws v acc hf0 hf1 ha hb hde hrw hacc
    exact down1_Differ iv a b first ws v acc hf0 hf1 ha hb hde hrw hacc
  | succ l ih =>
    intro hl3 a b first ws v acc hf0 hf1 ha hb hde hrw hacc
    have IH := hidMk (ih (by omega))
    obtain ⟨P, hP⟩ : ∃ P : Int, P = (8 : Int) ^ (l + 1) := ⟨_, rfl⟩
    have HPP := hidMk (show P = ((8 ^ (l + 1) : Nat) : Int) from by rw [hP]; push_cast; rfl)
    have hp8 : 8 ^ (l + 1 + 1) = 8 * 8 ^ (l + 1) := by rw [Nat.pow_succ 8 (l + 1), Nat.mul_comm]
    have hP0 : 0 ≤ P := by rw [HPP.out]; omega
    have hP1 : first + 8 * P ≤ 100000 := by rw [HPP.out]; rw [hp8] at hf1; push_cast at hf1 ⊢; omega
    have HP8 := hidMk (show acc.length + 8 * 8 ^ (l + 1) ≤ 20000 from by rw [← hp8]; exact hacc)
    have HWD := hidMk (fun W => pages_width (l + 1) (by omega) W)
    rw [← hP] at HWD
    obtain ⟨lv, hlv⟩ : ∃ x : Int, x = ((l + 1 + 1 : Nat) : Int) := ⟨_, rfl⟩
    have hlv1 : (lv == 1) = false := by rw [hlv]; simp; omega
    have hlw : IntKind.i64.wrap (lv - 1) = ((l + 1 : Nat) : Int) := by rw [hlv]; rw [wrap_i (by omega) (by omega)]; omega
    rw [← hlv]
    clear ih hP hp8 hf1 hacc hlv
    have HDE := hidMk hde
    have HRW := hidMk hrw
    have HBA := hidMk ha
    have HBB := hidMk hb
    have HIV := hidMk iv
    clear hde hrw ha hb iv
    by_cases hab : a = b
    · subst hab
      go_enter Tryd.func49, Tryd.ntmps49
      go_wp2_with fail
      go_ret
      exact ⟨rfl, by rw [selL_same, List.append_nil]; exact StepR.same HRW.out (Kept.refl _)⟩
    have hab' : (a == b) = false := by simpa using hab
    have HN1 := hidMk (fun Y (hd : DE w0 g p ow most n rf nd M codes pb sb fb ab B (.func (.func 38) #[] #[.pointer (some ⟨ab, 0, none⟩)]) (.func (.func 49) #[] #[.pointer (some ⟨pb, 0, none⟩), .pointer (some ⟨sb, 0, none⟩), .pointer (some ⟨fb, 0, none⟩)]) Y) => pg_node hd.ar hd.pg a (HBA.out.imp id (fun e => e.1)))
    have HN2 := hidMk (fun Y (hd : DE w0 g p ow most n rf nd M codes pb sb fb ab B (.func (.func 38) #[] #[.pointer (some ⟨ab, 0, none⟩)]) (.func (.func 49) #[] #[.pointer (some ⟨pb, 0, none⟩), .pointer (some ⟨sb, 0, none⟩), .pointer (some ⟨fb, 0, none⟩)]) Y) => pg_node hd.ar hd.pg b (HBB.out.imp id (fun e => e.1)))
    have HKA := hidMk (ndZ_ok HIV.out.kok a)
    have HKB := hidMk (ndZ_ok HIV.out.kok b)
    unfold ndV at HN1 HN2
    obtain ⟨LA, hLA⟩ : ∃ L, L = ndL (ndZ nd a) := ⟨_, rfl⟩
    obtain ⟨LB, hLB⟩ : ∃ L, L = ndL (ndZ nd b) := ⟨_, rfl⟩
    rw [← hLA] at HN1
    rw [← hLB] at HN2
    have HLA := hidMk (show LA.length = 25 ∧ ∀ u ∈ LA, u.oneCell' = true from by rw [hLA]; exact ⟨ndL_len _ HKA.out.1 HKA.out.2, ndL_one _⟩)
    have HLB := hidMk (show LB.length = 25 ∧ ∀ u ∈ LB, u.oneCell' = true from by rw [hLB]; exact ⟨ndL_len _ HKB.out.1 HKB.out.2, ndL_one _⟩)
    have HEA := hidMk hLA
    have HEB := hidMk hLB
    have c4 := HDE.out.c4
    clear hLA hLB hab
    go_enter Tryd.func49, Tryd.ntmps49
    go_wp2_with fail
    refine (HN1.out _ HDE.out).mono ?_
    rintro e w1 ⟨rfl, k1⟩
    obtain ⟨xb, hxb⟩ : ∃ x, x = w1.heap.size := ⟨_, rfl⟩
    obtain ⟨W2, hW2⟩ : ∃ W, W = w1.alloc (.cells (ndL zNd).toArray 91) := ⟨_, rfl⟩
    have HT2 := hidMk (show W2.there xb 0 25 from by rw [hW2, hxb]; exact new_there _ _ _ _ (by rfl))
    obtain ⟨W3, hW3⟩ : ∃ W, W = W2.setCells xb 0 LA := ⟨_, rfl⟩
    have k3 : Kept ws W3 := by rw [hW3, hW2]; exact kept_setCells (by rw [hxb]; exact k1.size) _ _ (k1.alloc _)
    have HR3 := hidMk (show W3.rangeAt xb 0 LA from by rw [hW3]; exact World.rangeAt_setCells_same _ _ _ _ (by rw [HLA.out.1]; exact HT2.out))
    have HX := hidMk (show ws.heap.size ≤ xb ∧ xb < W3.heap.size from ⟨by rw [hxb]; exact k1.size, range_lt HR3.out (by rw [HLA.out.1]; omega)⟩)
    have HK3 := hidMk k3
    have c4' := k3.cellp c4
    clear k1 k3 c4
    go_wp2_with (first | (refine wpl_allocN rfl rfl ?_; rw [← hW2, ← hxb]; clear hW2 hxb) | (refine wpl_storeN rfl _ _ rfl _ _ rfl LA HLA.out.1 rfl HLA.out.2 HT2.out ?_; rw [← hW3]; clear hW3))
    refine (HN2.out _ (HDE.out.keep HK3.out)).mono ?_
    rintro e w4 ⟨rfl, k4⟩
    obtain ⟨yb, hyb⟩ : ∃ x, x = w4.heap.size := ⟨_, rfl⟩
    obtain ⟨W5, hW5⟩ : ∃ W, W = w4.alloc (.cells (ndL zNd).toArray 91) := ⟨_, rfl⟩
    have HT5 := hidMk (show W5.there yb 0 25 from by rw [hW5, hyb]; exact new_there _ _ _ _ (by rfl))
    obtain ⟨W6, hW6⟩ : ∃ W, W = W5.setCells yb 0 LB := ⟨_, rfl⟩
    have k6 : Kept W3 W6 := by rw [hW6, hW5]; exact kept_setCells (by rw [hyb]; exact k4.size) _ _ (k4.alloc _)
    have HR6 := hidMk (show W6.rangeAt yb 0 LB from by rw [hW6]; exact World.rangeAt_setCells_same _ _ _ _ (by rw [HLB.out.1]; exact HT5.out))
    have HY := hidMk (show ws.heap.size ≤ yb ∧ yb < W6.heap.size from ⟨by rw [hyb]; exact Nat.le_trans HK3.out.size k4.size, range_lt HR6.out (by rw [HLB.out.1]; omega)⟩)
    have HK6 := hidMk (HK3.out.trans k6)
    have HR36 := hidMk (k6.range HR3.out)
    have HXS := hidMk (Nat.lt_of_lt_of_le HX.out.2 k6.size)
    clear k4 k6 c4'
    go_wp2_with (first | (refine wpl_allocN rfl rfl ?_; rw [← hW5, ← hyb]; clear hW5 hyb) | (refine wpl_storeN rfl _ _ rfl _ _ rfl LB HLB.out.1 rfl HLB.out.2 HT5.out ?_; rw [← hW6]; clear hW6))
    have HBG := hidMk (show DnS w0 g p ow most n rf nd M codes pb sb fb ab B (.func (.func 38) #[] #[.pointer (some ⟨ab, 0, none⟩)]) (.func (.func 49) #[] #[.pointer (some ⟨pb, 0, none⟩), .pointer (some ⟨sb, 0, none⟩), .pointer (some ⟨fb, 0, none⟩)]) 3 1 cfI (l + 2) a b first (8 ^ (l + 1)) acc ws v xb yb LA LB 0 W6 from
      ⟨v, by have := HRW.out.kept HK6.out; rw [Nat.zero_mul, selL_zero, List.append_nil]; exact this, HDE.out.keep HK6.out, HR36.out, HR6.out, Chg.of_kept HK6.out, fun k hk => .inl hk, fun k hk => by have := (World.ownsRow.lt HRW.out.ow k hk).2; have := HX.out.1; have := HY.out.1; omega, ⟨HXS.out, HY.out.2⟩, by have h1 : ab < ws.heap.size := cell_lt HRW.out.c; have := HX.out.1; have := HY.out.1; omega⟩)
    clear HT2 HT5 HR3 HR6 HR36 HK3 HX HY HK6 HN1 HN2 HXS
    go_loopg [38] 10 (fun gg s wr => ∃ i : Nat, i + gg = 10 ∧ i ≤ 8 ∧ s = .int .i64 i ∧ Hid (DnS w0 g p ow most n rf nd M codes pb sb fb ab B (.func (.func 38) #[] #[.pointer (some ⟨ab, 0, none⟩)]) (.func (.func 49) #[] #[.pointer (some ⟨pb, 0, none⟩), .pointer (some ⟨sb, 0, none⟩), .pointer (some ⟨fb, 0, none⟩)]) 3 1 cfI (l + 2) a b first (8 ^ (l + 1)) acc ws v xb yb LA LB i wr))
    case atStart => exact ⟨0, by omega, by omega, rfl, HBG⟩
    case round =>
      clear HBG
      obtain ⟨i, hig, hi8, rfl, HS⟩ := hrel
      have HG := hidMk hig
      clear hig
      by_cases hi : i < 8
      · have hi' : (i : Int) < 8 := by omega
        obtain ⟨vv, hr, hd, ra, rb, hc, ho, hne, hlt, hge⟩ := HS.out
        have HNX := hidMk (show ∀ wK, StepR ab B 3 1 cfI wr.drew vv wK (acc ++ selL nd (l + 2) a b first ((i + 1) * 8 ^ (l + 1))) → DE w0 g p ow most n rf nd M codes pb sb fb ab B (.func (.func 38) #[] #[.pointer (some ⟨ab, 0, none⟩)]) (.func (.func 49) #[] #[.pointer (some ⟨pb, 0, none⟩), .pointer (some ⟨sb, 0, none⟩), .pointer (some ⟨fb, 0, none⟩)]) wK ∧ wK.rangeAt xb 0 LA ∧ wK.rangeAt yb 0 LB from fun wK hst => by
          have := (dns_step hr hd ra rb hc ho hne hlt hge hst)
          obtain ⟨_, _, q1, q2, q3, _⟩ := this
          exact ⟨q1, q2, q3⟩)
        have HFN := hidMk (show ∀ wK, StepR ab B 3 1 cfI wr.drew vv wK (acc ++ selL nd (l + 2) a b first ((i + 1) * 8 ^ (l + 1))) → DnS w0 g p ow most n rf nd M codes pb sb fb ab B (.func (.func 38) #[] #[.pointer (some ⟨ab, 0, none⟩)]) (.func (.func 49) #[] #[.pointer (some ⟨pb, 0, none⟩), .pointer (some ⟨sb, 0, none⟩), .pointer (some ⟨fb, 0, none⟩)]) 3 1 cfI (l + 2) a b first (8 ^ (l + 1)) acc ws v xb yb LA LB (i + 1) wK from fun wK hst => dns_step hr hd ra rb hc ho hne hlt hge hst)
        have HN0 := hidMk (show DE w0 g p ow most n rf nd M codes pb sb fb ab B (.func (.func 38) #[] #[.pointer (some ⟨ab, 0, none⟩)]) (.func (.func 49) #[] #[.pointer (some ⟨pb, 0, none⟩), .pointer (some ⟨sb, 0, none⟩), .pointer (some ⟨fb, 0, none⟩)]) wr.drew ∧ wr.drew.rangeAt xb 0 LA ∧ wr.drew.rangeAt yb 0 LB from ⟨hd.keep ((Kept.refl wr).drew), ((Kept.refl wr).drew).range ra, ((Kept.refl wr).drew).range rb⟩)
        have HRD := hidMk (hr.kept ((Kept.refl wr).drew))
        obtain ⟨ka, hka⟩ : ∃ x, x = (ndZ nd a).kids.getD i 0 := ⟨_, rfl⟩
        obtain ⟨kb, hkb⟩ : ∃ x, x = (ndZ nd b).kids.getD i 0 := ⟨_, rfl⟩
        have HXE := hidMk (show ∀ Y : World, Y.rangeAt xb 0 LA → Y.cell? ⟨xb, 1 + i, none⟩ = some (.int .i64 ka) from fun Y hr => by
          have hh := ndL_kid _ HKA.out.1 i hi
          rw [← hka, ← HEA.out] at hh
          have h1 := hr _ _ hh
          rw [Nat.zero_add] at h1
          exact h1)
        have HYE := hidMk (show ∀ Y : World, Y.rangeAt yb 0 LB → Y.cell? ⟨yb, 1 + i, none⟩ = some (.int .i64 kb) from fun Y hr => by
          have hh := ndL_kid _ HKB.out.1 i hi
          rw [← hkb, ← HEB.out] at hh
          have h1 := hr _ _ hh
          rw [Nat.zero_add] at h1
          exact h1)
        have hip : (i : Int) * P ≤ 8 * P ∧ 0 ≤ (i : Int) * P := ⟨Int.mul_le_mul_of_nonneg_right (by omega) (by omega), Int.mul_nonneg (by omega) (by omega)⟩
        have hip2 : (i : Int) * P + P ≤ 8 * P := by have h1 : ((i : Int) + 1) * P ≤ 8 * P := Int.mul_le_mul_of_nonneg_right (by omega) (by omega); rw [Int.add_mul, Int.one_mul] at h1; exact h1
        have hwm : IntKind.i64.wrap ((i : Int) * P) = (i : Int) * P := wrap_i (by omega) (by omega)
        have hwf : IntKind.i64.wrap (first + (i : Int) * P) = first + (i : Int) * P := wrap_i (by omega) (by omega)
        have hcast : ((i * 8 ^ (l + 1) : Nat) : Int) = (i : Int) * P := by rw [HPP.out]; push_cast; rfl
        have hin : i * 8 ^ (l + 1) + 8 ^ (l + 1) ≤ 8 * 8 ^ (l + 1) := by rw [← Nat.succ_mul]; exact Nat.mul_le_mul_right _ (by omega)
        have hlen : (acc ++ selL nd (l + 2) a b first (i * 8 ^ (l + 1))).length + 8 ^ (l + 1) ≤ 20000 := by have := selL_len nd (l + 2) a b first (i * 8 ^ (l + 1)); rw [List.length_append]; have := HP8.out; omega
        have HDN := hidMk (show Calls Tryd.prog 49 #[.int .i64 ka, .int .i64 kb, .int .i64 ((l + 1 : Nat) : Int), .int .i64 (first + (i : Int) * P), .pointer (some ⟨pb, 0, none⟩), .pointer (some ⟨sb, 0, none⟩), .pointer (some ⟨fb, 0, none⟩)] wr.drew fun e X' => e = .returned (.int .i64 0) ∧ StepR ab B 3 1 cfI wr.drew vv X' (acc ++ selL nd (l + 2) a b first ((i + 1) * 8 ^ (l + 1))) from by
          rw [selL_step, ← List.append_assoc, ← hka, ← hkb, hcast]
          exact IH.out ka kb _ wr.drew vv _ (by omega) (by rw [← HPP.out]; omega) (by rw [hka]; exact HIV.out.kidOk HBA.out i) (by rw [hkb]; exact HIV.out.kidOk HBB.out i) (hd.keep ((Kept.refl wr).drew)) HRD.out hlen)
        clear hr hd ra rb hc ho hne hlt hge HS hka hkb hlen hcast hip hip2 hin
        go_upto_region 14 with fail
        refine wp_region_held_drew (S := (fun w' => DE w0 g p ow most n rf nd M codes pb sb fb ab B (.func (.func 38) #[] #[.pointer (some ⟨ab, 0, none⟩)]) (.func (.func 49) #[] #[.pointer (some ⟨pb, 0, none⟩), .pointer (some ⟨sb, 0, none⟩), .pointer (some ⟨fb, 0, none⟩)]) w' ∧ w'.rangeAt xb 0 LA ∧ w'.rangeAt yb 0 LB)) (by kernel_rfl) ?_ (fun hHeld => ?_)
        · exact HN0.out
        refine wpAnyH_take (i := 0) (oi := { dst := some 56, op := _, type := _, pos := _, after := _, guard := _ }) (v := ?_) rfl (by kernel_rfl) (by kernel_rfl) (by kernel_rfl) (fun _ _ _ h => h) (Or.inl ⟨by rfl, ?_⟩) (by assumption) ?_
        rotate_left
        · (intro w hSw; have s0 := hSw.1.c6; have s1 := HXE.out w hSw.2.1; have s2 := HYE.out w hSw.2.2; clear hSw; go_simp; (try with_reducible rfl))
        (try simp only [Act.put, List.setIfInBounds_toArray, List.set_cons_zero, List.set_cons_succ])
        refine wpAnyH_take (i := 1) (oi := { dst := some 57, op := _, type := _, pos := _, after := _, guard := _ }) (v := ?_) rfl (by kernel_rfl) (by kernel_rfl) (by kernel_rfl) (fun _ _ _ h => h) (Or.inl ⟨by rfl, ?_⟩) (by assumption) ?_
        rotate_left
        · (intro w hSw; have s0 := hSw.1.c6; have s1 := HXE.out w hSw.2.1; have s2 := HYE.out w hSw.2.2; clear hSw; go_simp; (try with_reducible rfl))
        (try simp only [Act.put, List.setIfInBounds_toArray, List.set_cons_zero, List.set_cons_succ])
        refine wpAnyH_take (i := 2) (oi := { dst := some 58, op := _, type := _, pos := _, after := _, guard := _ }) (v := ?_) rfl (by kernel_rfl) (by kernel_rfl) (by kernel_rfl) (fun _ _ _ h => h) (Or.inl ⟨by rfl, ?_⟩) (by assumption) ?_
        rotate_left
        · (intro w hSw; have s0 := hSw.1.c6; have s1 := HXE.out w hSw.2.1; have s2 := HYE.out w hSw.2.2; clear hSw; go_simp; (try with_reducible rfl))
        (try simp only [Act.put, List.setIfInBounds_toArray, List.set_cons_zero, List.set_cons_succ])
        refine wpAnyH_take (i := 3) (oi := { dst := some 59, op := _, type := _, pos := _, after := _, guard := _ }) (v := ?_) rfl (by kernel_rfl) (by kernel_rfl) (by kernel_rfl) (fun _ _ _ h => h) (Or.inl ⟨by rfl, ?_⟩) (by assumption) ?_
        rotate_left
        · (intro w hSw; have s0 := hSw.1.c6; have s1 := HXE.out w hSw.2.1; have s2 := HYE.out w hSw.2.2; clear hSw; go_simp; (try with_reducible rfl))
        (try simp only [Act.put, List.setIfInBounds_toArray, List.set_cons_zero, List.set_cons_succ])
        refine wpAnyH_take (i := 4) (oi := { dst := some 60, op := _, type := _, pos := _, after := _, guard := _ }) (v := ?_) rfl (by kernel_rfl) (by kernel_rfl) (by kernel_rfl) (fun _ _ _ h => h) (Or.inl ⟨by rfl, ?_⟩) (by assumption) ?_
        rotate_left
        · (intro w hSw; have s0 := hSw.1.c6; have s1 := HXE.out w hSw.2.1; have s2 := HYE.out w hSw.2.2; clear hSw; go_simp; (try with_reducible rfl))
        (try simp only [Act.put, List.setIfInBounds_toArray, List.set_cons_zero, List.set_cons_succ])
        refine wpAnyH_take (i := 5) (oi := { dst := some 61, op := _, type := _, pos := _, after := _, guard := _ }) (v := ?_) rfl (by kernel_rfl) (by kernel_rfl) (by kernel_rfl) (fun _ _ _ h => h) (Or.inl ⟨by rfl, ?_⟩) (by assumption) ?_
        rotate_left
        · (intro w hSw; have s0 := hSw.1.c6; have s1 := HXE.out w hSw.2.1; have s2 := HYE.out w hSw.2.2; clear hSw; go_simp; (try with_reducible rfl))
        (try simp only [Act.put, List.setIfInBounds_toArray, List.set_cons_zero, List.set_cons_succ])
        refine wpAnyH_take (i := 6) (oi := { dst := some 62, op := _, type := _, pos := _, after := _, guard := _ }) (v := ?_) rfl (by kernel_rfl) (by kernel_rfl) (by kernel_rfl) (fun _ _ _ h => h) (Or.inl ⟨by rfl, ?_⟩) (by assumption) ?_
        rotate_left
        · (intro w hSw; have s0 := hSw.1.c6; have s1 := HXE.out w hSw.2.1; have s2 := HYE.out w hSw.2.2; clear hSw; go_simp; (try with_reducible rfl))
        (try simp only [Act.put, List.setIfInBounds_toArray, List.set_cons_zero, List.set_cons_succ])
        refine wpAnyH_take (i := 7) (oi := { dst := some 63, op := _, type := _, pos := _, after := _, guard := _ }) (v := ?_) rfl (by kernel_rfl) (by kernel_rfl) (by kernel_rfl) (fun _ _ _ h => h) (Or.inl ⟨by rfl, ?_⟩) (by assumption) ?_
        rotate_left
        · (intro w hSw; have s0 := hSw.1.c6; have s1 := HXE.out w hSw.2.1; have s2 := HYE.out w hSw.2.2; clear hSw; go_simp; (try with_reducible rfl))
        (try simp only [Act.put, List.setIfInBounds_toArray, List.set_cons_zero, List.set_cons_succ])
        refine wpAnyH_take (i := 8) (oi := { dst := some 64, op := _, type := _, pos := _, after := _, guard := _ }) (v := ?_) rfl (by kernel_rfl) (by kernel_rfl) (by kernel_rfl) (fun _ _ _ h => h) (Or.inl ⟨by rfl, ?_⟩) (by assumption) ?_
        rotate_left
        · (intro w hSw; have s0 := hSw.1.c6; have s1 := HXE.out w hSw.2.1; have s2 := HYE.out w hSw.2.2; clear hSw; go_simp; (try with_reducible rfl))
        (try simp only [Act.put, List.setIfInBounds_toArray, List.set_cons_zero, List.set_cons_succ])
        refine wpAnyH_take (i := 9) (oi := { dst := some 65, op := _, type := _, pos := _, after := _, guard := _ }) (v := ?_) rfl (by kernel_rfl) (by kernel_rfl) (by kernel_rfl) (fun _ _ _ h => h) (Or.inl ⟨by rfl, ?_⟩) (by assumption) ?_
        rotate_left
        · (intro w hSw; have s0 := hSw.1.c6; have s1 := HXE.out w hSw.2.1; have s2 := HYE.out w hSw.2.2; clear hSw; go_simp; (try with_reducible rfl))
        (try simp only [Act.put, List.setIfInBounds_toArray, List.set_cons_zero, List.set_cons_succ])
        refine wpAnyH_take (i := 10) (oi := { dst := some 66, op := _, type := _, pos := _, after := _, guard := _ }) (v := ?_) rfl (by kernel_rfl) (by kernel_rfl) (by kernel_rfl) (fun _ _ _ h => h) (Or.inl ⟨by rfl, ?_⟩) (by assumption) ?_
        rotate_left
        · (intro w hSw; have s0 := hSw.1.c6; have s1 := HXE.out w hSw.2.1; have s2 := HYE.out w hSw.2.2; clear hSw; go_simp; (try with_reducible rfl))
        (try simp only [Act.put, List.setIfInBounds_toArray, List.set_cons_zero, List.set_cons_succ])
        refine wpAnyH_take (i := 11) (oi := { dst := some 67, op := _, type := _, pos := _, after := _, guard := _ }) (v := ?_) rfl (by kernel_rfl) (by kernel_rfl) (by kernel_rfl) (fun _ _ _ h => h) (Or.inl ⟨by rfl, ?_⟩) (by assumption) ?_
        rotate_left
        · (intro w hSw; have s0 := hSw.1.c6; have s1 := HXE.out w hSw.2.1; have s2 := HYE.out w hSw.2.2; clear hSw; go_simp; (try with_reducible rfl))
        (try simp only [Act.put, List.setIfInBounds_toArray, List.set_cons_zero, List.set_cons_succ])
        refine wpAnyH_take (i := 12) (oi := { dst := some 68, op := _, type := _, pos := _, after := _, guard := _ }) (v := ?_) rfl (by kernel_rfl) (by kernel_rfl) (by kernel_rfl) (fun _ _ _ h => h) (Or.inl ⟨by rfl, ?_⟩) (by assumption) ?_
        rotate_left
        · (intro w hSw; have s0 := hSw.1.c6; have s1 := HXE.out w hSw.2.1; have s2 := HYE.out w hSw.2.2; clear hSw; go_simp; (try with_reducible rfl))
        (try simp only [Act.put, List.setIfInBounds_toArray, List.set_cons_zero, List.set_cons_succ])
        refine wpAnyH_take (i := 13) (oi := { dst := some 69, op := _, type := _, pos := _, after := _, guard := _ }) (v := ?_) rfl (by kernel_rfl) (by kernel_rfl) (by kernel_rfl) (fun _ _ _ h => h) (Or.inl ⟨by rfl, ?_⟩) (by assumption) ?_
        rotate_left
        · (intro w hSw; have s0 := hSw.1.c6; have s1 := HXE.out w hSw.2.1; have s2 := HYE.out w hSw.2.2; clear hSw; go_simp; (try with_reducible rfl))
        (try simp only [Act.put, List.setIfInBounds_toArray, List.set_cons_zero, List.set_cons_succ])
        refine wpAnyH_take (i := 14) (oi := { dst := some 70, op := _, type := _, pos := _, after := _, guard := _ }) (v := ?_) rfl (by kernel_rfl) (by kernel_rfl) (by kernel_rfl) (fun _ _ _ h => h) (Or.inl ⟨by rfl, ?_⟩) (by assumption) ?_
        rotate_left
        · (intro w hSw; have s0 := hSw.1.c6; have s1 := HXE.out w hSw.2.1; have s2 := HYE.out w hSw.2.2; clear hSw; go_simp; (try with_reducible rfl))
        (try simp only [Act.put, List.setIfInBounds_toArray, List.set_cons_zero, List.set_cons_succ])
        refine wpAnyH_ready (rs := [15]) (by kernel_rfl) (by simp) ?_
        refine AllReadyH.cons (o := { dst := some 71, op := _, type := _, pos := _, after := _, guard := _ }) rfl (fun K hK => ?_) AllReadyH.nil
        go_simp
        refine (HWD.out _).mono ?_
        rintro e w5 ⟨rfl, hw5⟩
        rw [hw5]
        clear hw5 w5
        (try go_wp2_with fail)
        refine hK.out _ _ ?_ (fun hHeld => ?_)
        · (first | assumption | exact HNC.out)
        clear hK K
        (try simp only [Act.put, List.setIfInBounds_toArray, List.set_cons_zero, List.set_cons_succ])
        refine wpAnyH_take (i := 16) (oi := { dst := some 72, op := _, type := _, pos := _, after := _, guard := _ }) (v := ?_) rfl (by kernel_rfl) (by kernel_rfl) (by kernel_rfl) (fun _ _ _ h => h) (Or.inl ⟨by rfl, ?_⟩) (by assumption) ?_
        rotate_left
        · (intro w hSw; have s0 := hSw.1.c6; have s1 := HXE.out w hSw.2.1; have s2 := HYE.out w hSw.2.2; clear hSw; go_simp; (try with_reducible rfl))
        (try simp only [Act.put, List.setIfInBounds_toArray, List.set_cons_zero, List.set_cons_succ])
        refine wpAnyH_take (i := 17) (oi := { dst := some 73, op := _, type := _, pos := _, after := _, guard := _ }) (v := ?_) rfl (by kernel_rfl) (by kernel_rfl) (by kernel_rfl) (fun _ _ _ h => h) (Or.inl ⟨by rfl, ?_⟩) (by assumption) ?_
        rotate_left
        · (intro w hSw; have s0 := hSw.1.c6; have s1 := HXE.out w hSw.2.1; have s2 := HYE.out w hSw.2.2; clear hSw; go_simp; (try with_reducible rfl))
        (try simp only [Act.put, List.setIfInBounds_toArray, List.set_cons_zero, List.set_cons_succ])
        refine wpAnyH_ready (rs := [18]) (by kernel_rfl) (by simp) ?_
        refine AllReadyH.cons (o := { dst := some 74, op := _, type := _, pos := _, after := _, guard := _ }) rfl (fun K hK => ?_) AllReadyH.nil
        go_simp
        refine HDN.out.mono ?_
        rintro e wK ⟨rfl, hst⟩
        have HST := hidMk hst
        have HNC := hidMk (HNX.out wK hst)
        clear hst
        (try go_wp2_with fail)
        refine hK.out _ _ ?_ (fun hHeld => ?_)
        · (first | assumption | exact HNC.out)
        clear hK K
        (try simp only [Act.put, List.setIfInBounds_toArray, List.set_cons_zero, List.set_cons_succ])
        refine wpAnyH_take (i := 19) (oi := { dst := some 16, op := _, type := _, pos := _, after := _, guard := _ }) (v := ?_) rfl (by kernel_rfl) (by kernel_rfl) (by kernel_rfl) (fun _ _ _ h => h) (Or.inl ⟨by rfl, ?_⟩) (by assumption) ?_
        rotate_left
        · (intro w hSw; have s0 := hSw.1.c6; have s1 := HXE.out w hSw.2.1; have s2 := HYE.out w hSw.2.2; clear hSw; go_simp; (try with_reducible rfl))
        (try simp only [Act.put, List.setIfInBounds_toArray, List.set_cons_zero, List.set_cons_succ])
        refine wpAnyH_done (by kernel_rfl) ?_ _
        go_wp2_with fail
        go_roundg (gk - 1)
        case measure => have := HG.out; omega
        case rel => exact ⟨i + 1, by have := HG.out; omega, by omega, by go_num, hidMk (HFN.out _ HST.out)⟩
      · have hi8' : i = 8 := by omega
        subst hi8'
        have HFI := hidMk (show StepR ab B 3 1 cfI ws v wr (acc ++ selL nd (l + 2) a b first (8 * 8 ^ (l + 1))) from by
          obtain ⟨vv, hr, hd, ra, rb, hc, ho, _⟩ := HS.out
          exact ⟨vv, hr, hc, ho⟩)
        clear HS
        go_wp2_with fail
        go_ret
        refine ⟨rfl, ?_⟩
        have := HFI.out
        rw [show 8 * 8 ^ (l + 1) = 8 ^ (l + 2) by rw [Nat.pow_succ 8 (l + 1), Nat.mul_comm]] at this
        exact this

end
end Go.Proofs.YtjkbhaplngnniaaDoor
