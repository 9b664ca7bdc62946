/- log: records one behind the other, as bytes; a file that is partly written. -/
import Derived.Test.YtapcmkhpbdphoaaRec5
import Derived.Test.YtapcmkhpbdphoaaBk4
namespace Go.Proofs.Ytapcmkhpbdphoaa
open Go.RowKit Go.Maps
set_option linter.unusedSimpArgs false
set_option linter.unusedVariables false

/-- A record's own bytes. -/
def RecOk (r : List Int) : Prop := 1 ≤ r.length ∧ r.length ≤ 250 ∧ ∀ x ∈ r, isB x
def catR : List (List Int) → List Int
  | [] => []
  | r :: rs => recB r ++ catR rs
theorem catR_app (a b : List (List Int)) : catR (a ++ b) = catR a ++ catR b := by
  induction a with
  | nil => rfl
  | cons r a ih => simp [catR, ih]
theorem catR_one (r : List Int) : catR [r] = recB r := by simp [catR]
theorem enc_isBL (x : Int) : ∀ y ∈ encI x, isB y := enc_isB _
theorem recB_isBL {l : List Int} (h : ∀ x ∈ l, isB x) : ∀ x ∈ recB l, isB x := by
  unfold recB
  refine app_isB (app_isB (app_isB (enc_isBL _) h) (sb_isB _)) ?_
  intro x hx
  simp at hx
  unfold isB; omega
theorem recB_small {r : List Int} (h : RecOk r) : (recB r).length ≤ 257 ∧ 6 ≤ (recB r).length := by
  have h2 := h.2.1
  have := enc_two (u := 2 * r.length + 2) (by omega)
  rw [recB_len]
  have := h.1
  have h3 : 1 ≤ (enc (2 * r.length + 2)).length := enc_pos _
  omega
theorem catR_isB : ∀ {rs : List (List Int)}, (∀ r ∈ rs, RecOk r) → ∀ x ∈ catR rs, isB x
  | [], _ => by simp [catR]
  | r :: rs, h => app_isB (recB_isBL (h r (List.mem_cons_self ..)).2.2) (catR_isB (fun q hq => h q (List.mem_cons_of_mem _ hq)))
/-- What All tells of bytes. -/
inductive AllIs : List Int → List (List Int) → Nat → Prop
  | nil {l : List Int} : getE l ≠ 0 → AllIs l [] 0
  | cons {l : List Int} {rs : List (List Int)} {u : Nat} : getE l = 0 → mkN l + 1 ≤ l.length → AllIs (l.drop (mkN l + 1)) rs u → AllIs l (body l :: rs) (mkN l + 1 + u)
theorem all_cat : ∀ (rs : List (List Int)) (t : List Int), (∀ r ∈ rs, RecOk r) → getE t ≠ 0 → AllIs (catR rs ++ t) rs (catR rs).length
  | [], t, _, ht => .nil ht
  | r :: rs, t, h, ht => by
    have hr := h r (List.mem_cons_self ..)
    obtain ⟨g1, g2, g3⟩ := get_put r (catR rs ++ t) hr.1 hr.2.1
    have e : catR (r :: rs) ++ t = recB r ++ (catR rs ++ t) := by simp [catR]
    have ih := all_cat rs t (fun q hq => h q (List.mem_cons_of_mem _ hq)) ht
    have hd : (recB r ++ (catR rs ++ t)).drop (mkN (recB r ++ (catR rs ++ t)) + 1) = catR rs ++ t := by rw [g2, List.drop_left' rfl]
    have := AllIs.cons (l := recB r ++ (catR rs ++ t)) (rs := rs) (u := (catR rs).length) g1 (by rw [g2, List.length_append]; omega) (by rw [hd]; exact ih)
    rw [g3, g2] at this
    rw [e, show (catR (r :: rs)).length = (recB r).length + (catR rs).length by simp [catR]]
    exact this
def zs (k : Nat) : List Int := List.replicate k 0
theorem zs_len (k : Nat) : (zs k).length = k := by simp [zs]
theorem zs_getD (k i : Nat) : (zs k).getD i 0 = 0 := getD_rep k i
theorem zs_get (k : Nat) : getE (zs k) ≠ 0 := by
  unfold getE
  rw [if_pos (.inr (zs_getD k 0))]
  decide
theorem zs_isB (k : Nat) : ∀ x ∈ zs k, isB x := rep_isB k
/-- The bytes of a log with these records. -/
def logB (L : Nat) (rs : List (List Int)) : List Int := catR rs ++ zs (L - (catR rs).length)
theorem logB_len {L : Nat} {rs : List (List Int)} (h : (catR rs).length ≤ L) : (logB L rs).length = L := by simp [logB, zs_len]; omega
theorem logB_isB {L : Nat} {rs : List (List Int)} (h : ∀ r ∈ rs, RecOk r) : ∀ x ∈ logB L rs, isB x := app_isB (catR_isB h) (zs_isB _)
theorem logB_all {L : Nat} {rs : List (List Int)} (h : ∀ r ∈ rs, RecOk r) : AllIs (logB L rs) rs (catR rs).length := all_cat rs _ h (zs_get _)
theorem logB_drop {L : Nat} {rs : List (List Int)} : (logB L rs).drop (catR rs).length = zs (L - (catR rs).length) := by unfold logB; rw [List.drop_left' rfl]
theorem logB_zero (L : Nat) : logB L [] = zs L := by simp [logB, catR]
/-- One more record. -/
theorem logB_put {L : Nat} {rs : List (List Int)} {r : List Int} (h : (catR rs).length + (recB r).length ≤ L) : putL (logB L rs) (catR rs).length (recB r) = logB L (rs ++ [r]) := by
  unfold putL logB
  rw [List.take_left' rfl, catR_app, catR_one, ← List.drop_drop, List.drop_left' rfl, zs, zs, List.drop_replicate, List.length_append]
  congr 2
  omega
/-- What was written up to a place, and behind it what was there. -/
def mix (G F : List Int) (c : Nat) : List Int := G.take c ++ F.drop c
theorem mix_len {G F : List Int} {c : Nat} (h : G.length = F.length) (hc : c ≤ F.length) : (mix G F c).length = F.length := by simp [mix]; omega
theorem mix_put {G F v : List Int} {c y : Nat} (h : G.length = F.length) (hc : c + y ≤ F.length) (hv : v = (G.drop c).take y) : putL (mix G F c) c v = mix G F (c + y) := by
  have hl : v.length = y := by rw [hv]; simp; omega
  unfold putL mix
  rw [hl, List.take_left' (by simp; omega), show (List.take c G ++ List.drop c F).drop (c + y) = F.drop (c + y) by rw [← List.drop_drop, List.drop_left' (by simp; omega), List.drop_drop], hv, ← List.take_add]
theorem mix_all {G F : List Int} {c : Nat} (h : G.drop c = F.drop c) : mix G F c = G := by unfold mix; rw [← h, List.take_append_drop]
theorem mix_none {G F : List Int} {c : Nat} (h : G.take c = F.take c) : mix G F c = F := by unfold mix; rw [h, List.take_append_drop]
end Go.Proofs.Ytapcmkhpbdphoaa
