/- moietyref06.Names. -/
import Derived.Test.YtofppldiipjllaaRefDims1
namespace Go.Proofs.Ytofppldiipjllaa
open Go.RowKit Go.Maps
set_option linter.unusedSimpArgs false
set_option linter.unusedVariables false

theorem wpList_pushS {ops : Array Oper} {rest : List Oper} {o : Oper} {a : Act} {Q : Exit → Act → World → Prop} (w : World) (hgd : o.guard = none) (s x : Operand)
    (ho : o.op = .call { callee := .builtin .append, args := #[s, x], argTypes := #[23, 23] })
    (B : Nat) (v : Value) (l : List ByteArray) (hs : a.eval s = v) (hv : OwnS w B v l) (hB : B ≤ w.heap.size) (g : Nat) (y : ByteArray) (hx : a.eval x = .slice (some ⟨g, 0, none⟩) 1 1) (hcell : w.cell? ⟨g, 0, none⟩ = some (.string y))
    (h47 : (l.length + 1) * 16 ≤ 140737488355328) (H : Nat) (hH : w.heap.size = H)
    (h : ∀ g' cap w', OwnS w' B (.slice (some ⟨g', 0, none⟩) (l.length + 1) cap) (l ++ [y]) → Chg (fun k => v.ownBlock = some k) w w' → (v.ownBlock = some g' ∨ g' = H) → g' < w'.heap.size → wpList Try.prog ops Q rest (a.put o.dst (.slice (some ⟨g', 0, none⟩) (l.length + 1) cap)) w') : wpList Try.prog ops Q (o :: rest) a w := by
  obtain ⟨i0, hi0, hz0, hz1, hz2⟩ := sinfo
  refine wpList_append_lies w hgd s x 23 ho B 9 i0 (.string ⟨#[]⟩) 1 16 Try.underlying23 hi0 hz0 hz1 hz2 rfl (by decide) v _ _ hs hv ⟨g, 0, none⟩ 1 1 [.string y] hx rfl (one_news hcell) (by intro u hu; simp at hu; subst hu; rfl) (by omega) (by unfold maxLen; omega) (by omega) hB H hH ?_
  intro g' cap w' h2 h3 h4 h5
  refine h g' cap w' ?_ ((Chg.refl _ w).grown h3 (fun k hk => .inl hk)) h4 h5
  unfold OwnS
  simpa using h2
theorem lbl_take {ds : List Dm} {k : Nat} (h : k < ds.length) : lbl (ds.take (k + 1)) = lbl (ds.take k) ++ [dmN ds k] := by rw [take_dm h]; simp [lbl]
set_option maxHeartbeats 1000000 in
theorem ref6_Names (a : Option Addr) (n c : Nat) (ds : List Dm) (na : Nat → Option Addr × Nat × Nat) (w : World) (hs : Dss w a n ds na) (hn : n ≤ 60) : Calls Try.prog 12 #[.slice a n c] w fun e w' => ∃ v, e = .returned v ∧ OwnS w' w.heap.size v (lbl ds) ∧ Kept w w' := by
  have HS := hidMk hs
  have hlen := hs.len
  clear hs
  go_enter Try.func12, Try.ntmps12
  go_wp2_with fail
  go_loopg [3, 4] n (fun g v x wr => ∃ k : Nat, k + g = n ∧ x = .int .i64 k ∧ Kept w wr ∧ Hid (OwnS wr w.heap.size v (lbl (ds.take k))))
  case atStart => exact ⟨0, by omega, rfl, Kept.refl _, hidMk (World.ownsRow_nil _ _ _ _)⟩
  case round =>
    obtain ⟨k, hkg, rfl, hk, HO⟩ := hrel
    have HKG := hidMk hkg
    have HK := hidMk hk
    by_cases hkn : k < n
    · obtain ⟨b, o, rfl, hb, hcs⟩ := HS.out.cells (by omega)
      have c1 := hk.cellp (hcs k hkn).1
      have hk1 : (k : Int) < n := by omega
      have HT := hidMk (lbl_take (ds := ds) (k := k) (by omega))
      have HLn := hidMk (show (lbl (ds.take k)).length = k by rw [lbl_len, List.length_take]; omega)
      clear hk hkg hcs
      generalize lbl (ds.take k) = L at *
      generalize dmN ds k = y at *
      go_wp2_with (at_builtin; refine wpList_pushS _ rfl _ _ rfl w.heap.size _ L rfl (HO.out.kept ((Kept.refl _).alloc _)) ?c1 _ y rfl ?c2 ?c3 _ rfl ?_)
      case c1 => simp; have := HK.out.size; omega
      case c2 => simp
      case c3 => rw [HLn.out]; omega
      intro g' cap w3 o3 k3 _ _
      have K3 := hidMk (show Kept w w3 from k3.kept (HK.out.alloc _) (fun t ht => (HO.out.lt t ht).1))
      have O3 := hidMk o3
      clear o3 k3
      go_wp2_with fail
      go_roundg (gk - 1)
      case measure => have := HKG.out; omega
      case rel => exact ⟨k + 1, by have := HKG.out; omega, by go_num, K3.out, hidMk (by rw [HT.out]; exact O3.out)⟩
    · have e : k = n := by omega
      subst e
      have HE := hidMk (show ds.take k = ds from List.take_of_length_le (by omega))
      clear hk hkg
      have hkk : ¬ ((k : Int) < (k : Int)) := by omega
      go_wp2_with fail
      go_ret
      exact ⟨_, rfl, by rw [← HE.out]; exact HO.out, HK.out⟩
end Go.Proofs.Ytofppldiipjllaa
