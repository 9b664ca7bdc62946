/- log: rec.All of bytes that are records. -/
import Derived.Test.YtapcmkhpbdphoaaLg1
import Derived.Test.YtapcmkhpbdphoaaLgMath
namespace Go.Proofs.Ytapcmkhpbdphoaa
open Go.RowKit Go.Maps
set_option linter.unusedSimpArgs false
set_option linter.unusedVariables false

/-- All records, each one's own, and how many bytes they have. -/
def AllP (w : World) (rs : List (List Int)) (u : Nat) (e : Ending) (w' : World) : Prop := ∃ v qs, e = .returned (.tuple #[v, .int .i64 (u : Int)]) ∧ Rz w' w.heap.size v qs rs ∧ (∀ q ∈ qs, ∀ ad, q.1 = some ad → w.heap.size ≤ ad.block) ∧ Kept w w'
theorem AllIs.nilE {l : List Int} {u : Nat} (h : AllIs l [] u) : getE l ≠ 0 ∧ u = 0 := by cases h; exact ⟨by assumption, rfl⟩
theorem AllIs.consE {l r : List Int} {rs : List (List Int)} {u : Nat} (h : AllIs l (r :: rs) u) : getE l = 0 ∧ mkN l + 1 ≤ l.length ∧ r = body l ∧ ∃ u', u = mkN l + 1 + u' ∧ AllIs (l.drop (mkN l + 1)) rs u' := by
  cases h
  exact ⟨by assumption, by assumption, rfl, _, rfl, by assumption⟩
theorem AllIs.le {l : List Int} {rs : List (List Int)} {u : Nat} (h : AllIs l rs u) : u ≤ l.length ∧ rs.length ≤ l.length := by
  induction h with
  | nil _ => simp
  | cons _ h1 _ ih => rw [List.length_drop] at ih; simp only [List.length_cons]; omega
theorem body_le (l : List Int) : (body l).length ≤ l.length := by
  unfold body
  rw [List.length_take, List.length_drop]
  omega
set_option maxHeartbeats 2000000 in
set_option maxRecDepth 100000 in
theorem rec_All (b o n c : Nat) (l : List Int) (w : World) (hs : Sl .u8 w (some ⟨b, o, none⟩) n l) (hb : ∀ x ∈ l, isB x) (hl : n ≤ 100000) (hc : n ≤ c) (hcm : c ≤ 9223372036854775807) (rs : List (List Int)) (u : Nat) (hA : AllIs l rs u) :
    Calls Try.prog 47 #[.slice (some ⟨b, o, none⟩) n c] w fun e w' => AllP w rs u e w' := by
  have HS := hidMk hs
  have HB := hidMk hb
  have HA := hidMk hA
  have HLE := hidMk hA.le
  have HLN := hidMk hs.len
  have hcn : (n : Int) ≤ (c : Int) := by omega
  have HG := hidMk (show ∀ (k : Nat) (ad : Option Addr) W, Kept w W → k ≤ n → (k < n → ad = some ⟨b, o + k, none⟩) → Calls Try.prog 58 #[.slice ad (n - k) (c - k)] W fun e w' => GetP W (l.drop k) e w' from fun k ad W kW hk had => by
    refine rec_Get ad (n - k) (c - k) (l.drop k) W ?_ (fun x hx => HB.out x (List.mem_of_mem_drop hx)) (by omega) (by omega) (by omega)
    by_cases hkn : k < n
    · rw [had hkn]; exact (sl_drop (HS.out.kept kW) k hk)
    · have e1 : n - k = 0 := by omega
      rw [e1]
      exact sl_none (List.drop_eq_nil_of_le (by have := HLN.out; omega)))
  clear hs hb hA
  go_enter Try.func47, Try.ntmps47
  go_wp2_with fail
  go_loopg [4, 5] rs.length (fun gg sv x wr => ∃ (done rest : List (List Int)) (qs : List Sv) (k u2 : Nat), rest.length = gg ∧ x = .int .i64 (k : Int) ∧ k ≤ n ∧ Hid (done ++ rest = rs ∧ k + u2 = u ∧ AllIs (l.drop k) rest u2 ∧ Rz wr w.heap.size sv qs done ∧ (∀ q ∈ qs, ∀ ad, q.1 = some ad → w.heap.size ≤ ad.block) ∧ Kept w wr))
  case atStart => exact ⟨[], rs, [], 0, u, rfl, rfl, Nat.zero_le _, hidMk ⟨rfl, Nat.zero_add _, by rw [List.drop_zero]; exact HA.out, Rz.nil _ _, by simp, Kept.refl _⟩⟩
  case round =>
    obtain ⟨done, rest, qs, k, u2, hkg, rfl, hkn, HI⟩ := hrel
    have HKG := hidMk hkg
    clear hkg
    obtain ⟨sa, sc, hsv, _, _, _⟩ := HI.out.2.2.2.1.shape
    subst hsv
    have hkn' : (k : Int) ≤ (n : Int) := by omega
    have HLQ := hidMk (show qs.length ≤ 100000 from by
      have h1 := HI.out.2.2.2.1.len
      have h2 : done.length ≤ rs.length := by rw [← HI.out.1, List.length_append]; omega
      have h3 := HLE.out.2
      have := HLN.out
      omega)
    obtain ⟨ad, had, had2⟩ : ∃ ad : Option Addr, (k < n → ad = some ⟨b, o + k, none⟩) ∧ (ad = if c = k then some ⟨b, o, none⟩ else some ⟨b, o + k, none⟩) := ⟨_, fun h => by rw [if_neg (by omega)], rfl⟩
    have HAD := hidMk had
    have HAD2 := hidMk had2
    clear had had2
    have HGK := hidMk (HG.out k ad wr HI.out.2.2.2.2.2 hkn HAD.out)
    have hstep : (c = k ∧ ad = some ⟨b, o, none⟩) ∨ (¬ c = k ∧ ad = some ⟨b, o + k, none⟩) := by
      have := HAD2.out
      by_cases e : c = k
      · rw [if_pos e] at this; exact .inl ⟨e, this⟩
      · rw [if_neg e] at this; exact .inr ⟨e, this⟩
    cases rest with
    | nil =>
      obtain ⟨hE, hu0⟩ := HI.out.2.2.1.nilE
      have HE := hidMk hE
      have hEq : (getE (l.drop k) == 0) = false := by simpa using hE
      have hEn : (getE (l.drop k) != 0) = true := by simpa using hE
      have HFIN := hidMk (show AllP w rs u (.returned (.tuple #[.slice sa qs.length sc, .int .i64 (k : Int)])) wr from by
        obtain ⟨i1, i2, i3, i4, i5, i6⟩ := HI.out
        rw [List.append_nil] at i1
        subst i1
        refine ⟨_, qs, ?_, i4, i5, i6⟩
        rw [← i2, hu0, Nat.add_zero])
      clear hE hu0 HAD HAD2
      rcases hstep with ⟨h1, rfl⟩ | ⟨h1, rfl⟩
      · rw [show c - k = 0 by omega] at HGK
        go_wp2_with fail
        refine HGK.out.mono ?_
        rintro e w3 ⟨v3, rfl, o3, k3⟩
        rw [if_neg HE.out]
        have K3 := hidMk k3
        clear o3 k3 HGK
        generalize getE (l.drop k) = QE at *
        go_wp2_with fail
        go_ret2
        obtain ⟨v, qs9, e1, z1, z2, z3⟩ := HFIN.out
        exact ⟨v, qs9, e1, z1.kept K3.out, z2, z3.trans K3.out⟩
      · go_wp2_with fail
        refine HGK.out.mono ?_
        rintro e w3 ⟨v3, rfl, o3, k3⟩
        rw [if_neg HE.out]
        have K3 := hidMk k3
        clear o3 k3 HGK
        generalize getE (l.drop k) = QE at *
        go_wp2_with fail
        go_ret2
        obtain ⟨v, qs9, e1, z1, z2, z3⟩ := HFIN.out
        exact ⟨v, qs9, e1, z1.kept K3.out, z2, z3.trans K3.out⟩
    | cons r rest =>
      obtain ⟨hE, hml, hr, u3, hu3, hA3⟩ := HI.out.2.2.1.consE
      have hkn3 : k < n := by rw [List.length_drop] at hml; have := HLN.out; omega
      have hck : ¬ c = k := by omega
      obtain ⟨_, rfl⟩ | ⟨_, rfl⟩ := hstep
      · omega
      obtain ⟨M, hM⟩ : ∃ M, M = mkN (l.drop k) + 1 := ⟨_, rfl⟩
      rw [← hM] at hml hu3 hA3
      have hMle : k + M ≤ n := by rw [List.length_drop] at hml; have := HLN.out; omega
      have HGV := hidMk (show ∀ e w', GetP wr (l.drop k) e w' → ∃ v, e = .returned (.tuple #[v, .int .i64 (M : Int), .int .i64 0]) ∧ Owned wr w' v r ∧ Kept wr w' from by
        rintro e w' ⟨v, e1, o1, k1⟩
        rw [hE, if_pos rfl, ← hM] at e1
        rw [hE, if_pos rfl, ← hr] at o1
        exact ⟨v, e1, o1, k1⟩)
      have HRL := hidMk (show r.length ≤ 100000 by rw [hr]; have := body_le (l.drop k); rw [List.length_drop] at this; have := HLN.out; omega)
      have HNX := hidMk (show (done ++ [r]) ++ rest = rs ∧ (k + M) + u3 = u ∧ AllIs (l.drop (k + M)) rest u3 from ⟨by rw [← HI.out.1]; simp, by have := HI.out.2.1; omega, by rw [← List.drop_drop]; exact hA3⟩)
      have hMi : (k : Int) + (M : Int) ≤ 100000 := by omega
      have HMle := hidMk hMle
      clear hE hml hr hu3 hA3 hM HAD HAD2 hMle
      go_wp2_with fail
      refine HGK.out.mono ?_
      intro e w3 h3
      obtain ⟨v3, rfl, o3, k3⟩ := HGV.out e w3 h3
      clear h3
      obtain ⟨a3, c3, rfl, s3, _, b3⟩ := owned_sl o3 (by have := HRL.out; unfold maxLen; omega)
      have S3 := hidMk s3
      have K3 := hidMk k3
      have B3 := hidMk b3
      clear o3 s3 k3 b3
      obtain ⟨rn, hrn⟩ : ∃ rn, rn = r.length := ⟨_, rfl⟩
      rw [← hrn] at S3 ⊢
      have HRN := hidMk hrn
      clear hrn
      have HSD := hidMk (show ∀ ad, a3 = some ad → (Value.slice sa qs.length sc).ownBlock ≠ some ad.block ∧ ad.block < (w3.alloc (.cells #[.slice a3 rn c3] 33)).heap.size from fun ad e => by
        have h1 := B3.out ad e
        refine ⟨fun e2 => ?_, by rw [World.size_alloc]; omega⟩
        have := (HI.out.2.2.2.1.olt _ e2).2
        omega)
      have HKA := hidMk (HI.out.2.2.2.2.2.trans (K3.out.alloc (.cells #[.slice a3 rn c3] 33)))
      go_wp2_with (at_builtin; refine wpList_pushZ _ (by rfl) _ _ (by rfl) w.heap.size _ qs done (by rfl) ((HI.out.2.2.2.1.kept K3.out).kept ((Kept.refl _).alloc _)) HKA.out.size w3.heap.size (a3, rn, c3) r (by rfl) (by simp [slv3]) (S3.out.kept ((Kept.refl _).alloc _)) HSD.out HLQ.out ?_; intro g9 cap9 w9 z9 k9 g9'; have Z9 := hidMk z9; have K9 := hidMk (show Kept w w9 from Chg.kept HKA.out k9 (fun j e => (HI.out.2.2.2.1.olt j e).1)); clear z9 k9 g9')
      go_roundg (gk - 1)
      case measure => have := HKG.out; simp only [List.length_cons] at this; omega
      case rel =>
        refine ⟨done ++ [r], rest, qs ++ [(a3, rn, c3)], k + M, u3, by have := HKG.out; simp only [List.length_cons] at this; omega, by go_num, HMle.out, hidMk ⟨HNX.out.1, HNX.out.2.1, HNX.out.2.2, Z9.out, fun q hq ad e => ?_, K9.out⟩⟩
        rcases List.mem_append.1 hq with hq | hq
        · exact HI.out.2.2.2.2.1 q hq ad e
        · simp at hq
          subst hq
          have := (B3.out ad e).1
          have := HI.out.2.2.2.2.2.size
          omega
end Go.Proofs.Ytapcmkhpbdphoaa
