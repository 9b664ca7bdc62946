/- log: Used, Room, Clean, Records; of nil. -/
import Derived.Test.YtapcmkhpbdphoaaLg4
namespace Go.Proofs.Ytapcmkhpbdphoaa
open Go.RowKit Go.Maps
set_option linter.unusedSimpArgs false
set_option linter.unusedVariables false

theorem fld_con (x : Int) (b : Option Addr) (L K : Nat) (va : Option Addr) (vn vc : Nat) (u : Int) (cl : Bool) (W : World) :
    (Instr.field 53 (.agg #[.int .i64 x, .slice b L K, .slice va vn vc, .int .i64 u, .bool cl]) 2).run Try.prog W = .ok (.slice va vn vc) W ∧
    (Instr.field 53 (.agg #[.int .i64 x, .slice b L K, .slice va vn vc, .int .i64 u, .bool cl]) 3).run Try.prog W = .ok (.int .i64 u) W ∧
    (Instr.field 53 (.agg #[.int .i64 x, .slice b L K, .slice va vn vc, .int .i64 u, .bool cl]) 4).run Try.prog W = .ok (.bool cl) W := by
  refine ⟨by kernel_rfl, by kernel_rfl, by kernel_rfl⟩
/-- Records, each one's own. -/
def RcsP (w : World) (rs : List (List Int)) (e : Ending) (w' : World) : Prop := ∃ v qs', e = .returned v ∧ Rz w' w.heap.size v qs' rs ∧ (∀ q ∈ qs', ∀ ad, q.1 = some ad → w.heap.size ≤ ad.block) ∧ Kept w w'
theorem err_load {w : World} {g : Nat} {x : Int} (c0 : w.cell? ⟨g, 0, none⟩ = some (.int .i64 x)) : (loadVar 25 ⟨g, 0, none⟩).run Try.prog w = .ok (.int .i64 x) w := by
  simp [loadVar, Sem.run_bind, Try.isAgg25, c0]
/-- A number as a result that lies in its cell. -/
theorem err_ret {R : Ending → World → Prop} {fn : Func} {p : Tmp} (hfn : fn.results = #[.cell p 25]) {a : Act} {w : World} (g : Nat) {x : Int} (hp : a.tmps.getD p undef = .pointer (some ⟨g, 0, none⟩)) (hd : a.defers = [])
    (c0 : w.cell? ⟨g, 0, none⟩ = some (.int .i64 x)) (h : R (.returned (.int .i64 x)) w) : bodyPost Try.prog fn R .ret a w :=
  bodyPost_ret (results_cell1 hfn _ _ g _ hp (err_load c0)) hd h
section
variable {w W : World} {p f fr to : Nat} {bad : Bool} {g L K : Nat} {va : Option Addr} {vn vc u : Nat} {cl : Bool} {d N : Nat} {s : Bf}
set_option maxRecDepth 100000 in
theorem log_Used (h : Lc w p f fr to bad s.wr g L K va vn vc u cl) (hf : Fl w f d N s) : Calls Try.prog 13 #[.pointer (some ⟨p, 0, none⟩)] w fun e w' => e = .returned (.int .i64 (u : Int)) ∧ Kept w w' := by
  have HL := hidMk (look_ok h hf)
  have t2 := fun W => (fld_con s.wr (some ⟨g, 0, none⟩) L K va vn vc u cl W).1
  have t3 := fun W => (fld_con s.wr (some ⟨g, 0, none⟩) L K va vn vc u cl W).2.1
  have t4 := fun W => (fld_con s.wr (some ⟨g, 0, none⟩) L K va vn vc u cl W).2.2
  clear h hf
  go_enter Try.func13, Try.ntmps13
  go_wp2_with (go_at_call 25; refine HL.out.mono ?_; rintro e w1 ⟨rfl, k1⟩)
  go_ret
  exact ⟨rfl, k1⟩
set_option maxRecDepth 100000 in
theorem log_Clean (h : Lc w p f fr to bad s.wr g L K va vn vc u cl) (hf : Fl w f d N s) : Calls Try.prog 11 #[.pointer (some ⟨p, 0, none⟩)] w fun e w' => e = .returned (.bool cl) ∧ Kept w w' := by
  have HL := hidMk (look_ok h hf)
  have t2 := fun W => (fld_con s.wr (some ⟨g, 0, none⟩) L K va vn vc u cl W).1
  have t3 := fun W => (fld_con s.wr (some ⟨g, 0, none⟩) L K va vn vc u cl W).2.1
  have t4 := fun W => (fld_con s.wr (some ⟨g, 0, none⟩) L K va vn vc u cl W).2.2
  clear h hf
  go_enter Try.func11, Try.ntmps11
  go_wp2_with (go_at_call 25; refine HL.out.mono ?_; rintro e w1 ⟨rfl, k1⟩)
  go_ret
  exact ⟨rfl, k1⟩
set_option maxRecDepth 100000 in
theorem log_Room (h : Lc w p f fr to bad s.wr g L K va vn vc u cl) (hf : Fl w f d N s) (hu : u ≤ L) (hL : L ≤ 200000) : Calls Try.prog 18 #[.pointer (some ⟨p, 0, none⟩)] w fun e w' => e = .returned (.int .i64 ((L : Int) - (u : Int))) ∧ Kept w w' := by
  have HL := hidMk (look_ok h hf)
  have t2 := fun W => (fld_con s.wr (some ⟨g, 0, none⟩) L K va vn vc u cl W).1
  have t3 := fun W => (fld_con s.wr (some ⟨g, 0, none⟩) L K va vn vc u cl W).2.1
  have t4 := fun W => (fld_con s.wr (some ⟨g, 0, none⟩) L K va vn vc u cl W).2.2
  have hL' : (L : Int) ≤ 200000 := by omega
  have hu' : (u : Int) ≤ (L : Int) := by omega
  clear h hf
  go_enter Try.func18, Try.ntmps18
  go_wp2_with (go_at_call 25; refine HL.out.mono ?_; rintro e w1 ⟨rfl, k1⟩; have K1 := hidMk k1; clear k1)
  go_ret
  exact ⟨rfl, K1.out.alloc _⟩
set_option maxRecDepth 100000 in
theorem look_nil (w : World) : Calls Try.prog 25 #[.pointer none] w fun e w' => e = .returned (.agg #[.int .i64 0, .slice none 0 0, .slice none 0 0, .int .i64 0, .bool false]) ∧ Kept w w' := by
  go_enter Try.func25, Try.ntmps25
  go_wp2_with (go_at_call 23; refine (none_nil _).mono ?_; rintro e w1 ⟨rfl, rfl⟩)
  refine con_ret rfl w.heap.size rfl rfl ?_ ?_ ?_ ?_ ?_ ⟨rfl, ?_⟩
  · simp
  · simp
  · simp
  · simp
  · simp
  · exact (Kept.refl w).alloc _
set_option maxRecDepth 100000 in
theorem nil_Used (w : World) : Calls Try.prog 13 #[.pointer none] w fun e w' => e = .returned (.int .i64 0) ∧ Kept w w' := by
  have HL := hidMk (look_nil w)
  have t2 := fun W => (fld_con 0 none 0 0 none 0 0 0 false W).1
  have t3 := fun W => (fld_con 0 none 0 0 none 0 0 0 false W).2.1
  have t4 := fun W => (fld_con 0 none 0 0 none 0 0 0 false W).2.2
  go_enter Try.func13, Try.ntmps13
  go_wp2_with (go_at_call 25; refine HL.out.mono ?_; rintro e w1 ⟨rfl, k1⟩)
  go_ret
  exact ⟨rfl, k1⟩
set_option maxRecDepth 100000 in
theorem nil_Clean (w : World) : Calls Try.prog 11 #[.pointer none] w fun e w' => e = .returned (.bool false) ∧ Kept w w' := by
  have HL := hidMk (look_nil w)
  have t2 := fun W => (fld_con 0 none 0 0 none 0 0 0 false W).1
  have t3 := fun W => (fld_con 0 none 0 0 none 0 0 0 false W).2.1
  have t4 := fun W => (fld_con 0 none 0 0 none 0 0 0 false W).2.2
  go_enter Try.func11, Try.ntmps11
  go_wp2_with (go_at_call 25; refine HL.out.mono ?_; rintro e w1 ⟨rfl, k1⟩)
  go_ret
  exact ⟨rfl, k1⟩
set_option maxRecDepth 100000 in
theorem nil_Room (w : World) : Calls Try.prog 18 #[.pointer none] w fun e w' => e = .returned (.int .i64 0) ∧ Kept w w' := by
  have HL := hidMk (look_nil w)
  have t2 := fun W => (fld_con 0 none 0 0 none 0 0 0 false W).1
  have t3 := fun W => (fld_con 0 none 0 0 none 0 0 0 false W).2.1
  have t4 := fun W => (fld_con 0 none 0 0 none 0 0 0 false W).2.2
  go_enter Try.func18, Try.ntmps18
  go_wp2_with (go_at_call 25; refine HL.out.mono ?_; rintro e w1 ⟨rfl, k1⟩; have K1 := hidMk k1; clear k1)
  go_ret
  exact ⟨rfl, K1.out.alloc _⟩
set_option maxRecDepth 100000 in
theorem nil_Trim (w : World) : Calls Try.prog 17 #[.pointer none] w fun e w' => e = .returned (.int .i64 1) ∧ Kept w w' := by
  go_enter Try.func17, Try.ntmps17
  go_wp2_with (go_at_call 23; refine (none_nil _).mono ?_; rintro e w1 ⟨rfl, rfl⟩)
  refine err_ret rfl (w.heap.size + 1) rfl rfl (by simp) ⟨rfl, ((Kept.refl w).alloc _).alloc _⟩
set_option maxRecDepth 100000 in
theorem nil_Add (a : Option Addr) (n c : Nat) (w : World) : Calls Try.prog 7 #[.pointer none, .slice a n c] w fun e w' => e = .returned (.int .i64 1) ∧ Kept w w' := by
  go_enter Try.func7, Try.ntmps7
  go_wp2_with (go_at_call 23; refine (none_nil _).mono ?_; rintro e w1 ⟨rfl, rfl⟩)
  refine err_ret rfl (w.heap.size + 1) rfl rfl (by simp) ⟨rfl, ((Kept.refl w).alloc _).alloc _⟩
set_option maxRecDepth 100000 in
theorem nil_Records (w : World) : Calls Try.prog 10 #[.pointer none] w fun e w' => e = .returned (.slice none 0 0) ∧ Kept w w' := by
  have HL := hidMk (look_nil w)
  have t2 := fun W => (fld_con 0 none 0 0 none 0 0 0 false W).1
  go_enter Try.func10, Try.ntmps10
  go_wp2_with (go_at_call 25; refine HL.out.mono ?_; rintro e w1 ⟨rfl, k1⟩; have K1 := hidMk k1; clear k1)
  go_loopw [3, 5, 10] (fun sv _ x wr => sv = .slice none 0 0 ∧ x = .int .i64 0 ∧ wr = w1) (fun _ _ _ _ => 0)
  case atStart => exact ⟨rfl, rfl, rfl⟩
  case round =>
    obtain ⟨rfl, rfl, rfl⟩ := hrel
    go_wp2_with fail
    go_ret
    exact ⟨rfl, K1.out⟩
set_option maxRecDepth 100000 in
set_option maxHeartbeats 1000000 in
theorem log_Records {qs : List Sv} {rs : List (List Int)} (h : Lc w p f fr to bad s.wr g L K va vn vc u cl) (hf : Fl w f d N s) (hz : Rz w 0 (.slice va vn vc) qs rs) (hq : ∀ r ∈ rs, r.length ≤ 1000) (hn : qs.length ≤ 100000) : Calls Try.prog 10 #[.pointer (some ⟨p, 0, none⟩)] w fun e w' => RcsP w rs e w' := by
  have HL := hidMk (look_ok h hf)
  have t2 := fun W => (fld_con s.wr (some ⟨g, 0, none⟩) L K va vn vc u cl W).1
  have t3 := fun W => (fld_con s.wr (some ⟨g, 0, none⟩) L K va vn vc u cl W).2.1
  have t4 := fun W => (fld_con s.wr (some ⟨g, 0, none⟩) L K va vn vc u cl W).2.2
  have hvn : vn = qs.length := by obtain ⟨a, c, e, _⟩ := hz.shape; cases e; rfl
  have HZ := hidMk hz
  have HQ := hidMk hq
  have HVN := hidMk hvn
  have HLEN := hidMk hz.len
  have hvn' : vn ≤ 100000 := by omega
  clear h hf hz hq hvn hn
  go_enter Try.func10, Try.ntmps10
  go_wp2_with (go_at_call 25; refine HL.out.mono ?_; rintro e w1 ⟨rfl, k1⟩; have K1 := hidMk k1; clear k1)
  go_loopg [3, 5, 10] vn (fun gg sv _ x wr => ∃ (k : Nat) (qs' : List Sv), k + gg = vn ∧ x = .int .i64 (k : Int) ∧ Hid (qs'.length = k ∧ Rz wr w.heap.size sv qs' (rs.take k) ∧ (∀ q ∈ qs', ∀ ad, q.1 = some ad → w.heap.size ≤ ad.block) ∧ Kept w wr))
  case atStart => exact ⟨0, [], by omega, rfl, hidMk ⟨rfl, Rz.nil _ _, by simp, K1.out⟩⟩
  case round =>
    obtain ⟨k, qs', hkg, rfl, HS⟩ := hrel
    have HKG := hidMk hkg
    clear hkg
    obtain ⟨sa, sc, hsv, _, _, hsb⟩ := HS.out.2.1.shape
    subst hsv
    have HSB := hidMk hsb
    clear hsb
    by_cases hk : k < vn
    · have hk' : (k : Int) < (vn : Int) := by omega
      obtain ⟨zg, zc, hz1, _, _, hz2⟩ := HZ.out.cell (by have := HVN.out; omega)
      cases hz1
      have c0 := HS.out.2.2.2.cellp (hz2 k (by have := HVN.out; omega))
      have HR := hidMk ((HZ.out.row k (by have := HVN.out; omega)).kept HS.out.2.2.2)
      clear hz2
      have hrl : rs.getD k [] ∈ rs := by
        rw [List.getD_eq_getElem?_getD, List.getElem?_eq_getElem (by have := HVN.out; have := HLEN.out; omega)]
        exact List.getElem_mem _
      have hr1 := HQ.out _ hrl
      have htk : rs.take (k + 1) = rs.take k ++ [rs.getD k []] := by
        rw [List.take_succ_eq_append_getElem (by have := HVN.out; have := HLEN.out; omega), List.getD_eq_getElem?_getD, List.getElem?_eq_getElem (by have := HVN.out; have := HLEN.out; omega)]; rfl
      have HTK := hidMk htk
      obtain ⟨q, hq⟩ : ∃ q, q = qs.getD k q0 := ⟨_, rfl⟩
      obtain ⟨r, hr⟩ : ∃ r, r = rs.getD k [] := ⟨_, rfl⟩
      rw [← hq] at HR c0
      rw [← hr] at HR HTK hr1
      clear htk hrl hq hr
      obtain ⟨qa, qn, qc⟩ := q
      unfold slv3 at c0
      dsimp only at c0 HR
      have hqn := HR.out.len
      have HCL := hidMk (slices_Clone qa qn qc r wr HR.out (by omega))
      go_wp2_with fail
      refine HCL.out.mono ?_
      rintro e w3 ⟨v3, rfl, o3, k3⟩
      obtain ⟨a3, c3, rfl, s3, _, b3⟩ := owned_sl o3 (by unfold maxLen; omega)
      have S3 := hidMk s3
      have K3 := hidMk k3
      have B3 := hidMk b3
      clear o3 s3 k3 b3 HCL
      have HL3 := hidMk HS.out.1
      rw [hqn] at S3 ⊢
      have HSD := hidMk (show ∀ ad, a3 = some ad → (Value.slice sa qs'.length sc).ownBlock ≠ some ad.block ∧ ad.block < (w3.alloc (.cells #[.slice a3 qn c3] 33)).heap.size from fun ad e => by
        have h1 := B3.out ad e
        refine ⟨fun e2 => ?_, by rw [World.size_alloc]; omega⟩
        have := (HS.out.2.1.olt _ e2).2
        omega)
      have HKA := hidMk (HS.out.2.2.2.trans (K3.out.alloc (.cells #[.slice a3 qn c3] 33)))
      go_wp2_with (at_builtin; refine wpList_pushZ _ (by rfl) _ _ (by rfl) w.heap.size _ qs' (rs.take k) (by rfl) ((HS.out.2.1.kept K3.out).kept ((Kept.refl _).alloc _)) HKA.out.size w3.heap.size (a3, qn, c3) r (by rfl) (by simp [slv3]) (S3.out.kept ((Kept.refl _).alloc _)) HSD.out (by have := HL3.out; omega) ?_; intro g9 cap9 w9 z9 k9 g9'; have Z9 := hidMk z9; have K9 := hidMk (show Kept w w9 from Chg.kept HKA.out k9 (fun j e => (HS.out.2.1.olt j e).1)); clear z9 k9 g9')
      go_roundg (gk - 1)
      case measure => have := HKG.out; omega
      case rel =>
        refine ⟨k + 1, qs' ++ [(a3, qn, c3)], by have := HKG.out; omega, by go_num, hidMk ⟨by rw [List.length_append, HL3.out]; rfl, by rw [HTK.out]; exact Z9.out, fun q hq ad e => ?_, K9.out⟩⟩
        rcases List.mem_append.1 hq with hq | hq
        · exact HS.out.2.2.1 q hq ad e
        · simp at hq
          subst hq
          have := (B3.out ad e).1
          have := HS.out.2.2.2.size
          omega
    · have hkv : k = vn := by have := HKG.out; omega
      have HF := hidMk (show rs.take k = rs from List.take_of_length_le (by have := HVN.out; have := HLEN.out; omega))
      have hkk : ¬ ((k : Int) < (vn : Int)) := by omega
      clear hkv
      go_wp2_with fail
      go_ret
      obtain ⟨_, h2, h3, h4⟩ := HS.out
      rw [HF.out] at h2
      exact ⟨_, qs', rfl, h2, h3, h4⟩
end
end Go.Proofs.Ytapcmkhpbdphoaa
