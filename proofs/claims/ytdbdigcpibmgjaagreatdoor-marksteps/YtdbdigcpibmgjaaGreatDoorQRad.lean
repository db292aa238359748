/- The reference's MarkAdded. -/
import Derived.Test.YtdbdigcpibmgjaaGreatDoorGRB
import Derived.Test.YtdbdigcpibmgjaaGreatDoorGRB
namespace Go.Proofs.YtdbdigcpibmgjaaGreatDoor
open Go.RowKit
set_option maxRecDepth 100000 in
set_option maxHeartbeats 1000000 in
theorem rAdded_any (A B : Option Addr) (n c m d : Nat) (g k : List (List UInt8)) (w : World) (hr : Rd w 1 A n c (g.map sv)) (hs : Rd w 1 B m d (k.map sv)) (hA : A = none → c = 0) (hB : B = none → d = 0) (hz : (n + m) * 16 ≤ 140737488355328) :
    Calls Tryz.prog 10 #[.slice A n c, .slice B m d] w (GivesTx (ris (g ++ k)) w) := by
  obtain ⟨i0, hi0, hz0, hz1, hz2⟩ := info_parts str_info
  obtain rfl := hr.tlen
  obtain rfl := hs.tlen
  have halE := (Below.refl w.heap.size w).alloc (Nat.le_refl _) (.cells #[] 9)
  have hsE := halE.size
  have hr1 := hr.below halE
  have hs1 := hs.below halE
  have HR : Hid (∀ (P : Option Addr) (p : Nat) (W : World), Rd W 1 P (g.length + k.length) p ((g ++ k).map sv) → Calls Tryz.prog 33 #[.slice P (g.length + k.length) p] W (GivesTx (ris (g ++ k)) W)) := fun P p W h => rising_any P _ p (g ++ k) W h hz
  have HM : Hid ((g ++ k).map sv = g.map sv ++ k.map sv) := List.map_append
  generalize ris (g ++ k) = R at *
  generalize (g ++ k).map sv = S at *
  go_enter Tryz.func10, Tryz.ntmps10
  go_wp2_with (at_builtin; first
    | (refine wpList_appendM rfl (.tmp 5) (.tmp 6) _ rfl Tryz.underlying26 hi0 hz0 hz1 hz2 rfl (by omega) _ 0 [] rfl (own_empty w 9) hr1 hA (sv_one _) rfl (by omega) (by unfold maxLen; omega) hsE ?_; rintro v2 w2 ⟨hown2, hb2, hs2, -⟩; rw [Nat.zero_add, List.nil_append] at hown2; have hbW2 := halE.trans hb2; have hz2' := hbW2.size)
    | (refine wpList_appendM rfl (.tmp 7) (.tmp 8) _ rfl Tryz.underlying26 hi0 hz0 hz1 hz2 rfl (by omega) v2 _ _ rfl hown2 (hs.below hbW2) hB (sv_one _) rfl (by omega) (by unfold maxLen; omega) hz2' ?_; rintro v3 w3 ⟨hown3, hb3, hs3, -⟩; have hbW3 := hbW2.trans hb3))
  obtain ⟨P3, p3, rfl⟩ := own_slice hown3
  rw [← HM.out] at hown3
  obtain ⟨P4, p4, q4, hr4, -, -⟩ := own_rdK hown3
  injection q4 with e1 e2 e3
  subst e1; subst e3
  have H4 := Lib.hid (HR.out _ _ w3 hr4)
  clear e2 hown3 hown2
  go_wp2_with fail
  with_reducible refine H4.out.mono ?_
  rintro e w5 ⟨v5, rfl, hown5, hb5⟩
  go_wp2
  go_ret
  exact ⟨v5, rfl, own_base hown5 hbW3.size, below_step hbW3 hb5⟩
end Go.Proofs.YtdbdigcpibmgjaaGreatDoor
