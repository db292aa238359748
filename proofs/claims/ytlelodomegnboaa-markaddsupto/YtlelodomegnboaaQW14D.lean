/- The law MarkAdds: the walk. -/
import Derived.Test.YtlelodomegnboaaQLad
import Derived.Test.YtlelodomegnboaaGRB
import Derived.Test.YtlelodomegnboaaGRD
import Derived.Test.YtlelodomegnboaaQTc
namespace Go.Proofs.Ytlelodomegnboaa
open Go.RowKit
theorem blk_rdT {W : World} {g : Nat} {l : List (List UInt8)} (h : Blk W g 9 (l.map sv)) (hm : l.length ≤ maxLen) : Rd W 1 (some ⟨g, 0, none⟩) l.length l.length (l.map sv) := by
  have := h.rd (size := 1) (n := l.length) (c := l.length) (Nat.le_refl _) hm (by simp)
  rwa [List.take_of_length_le (by simp)] at this
theorem ris_bab : (ris (([[98]] : List (List UInt8)) ++ [[97], [98]])).length = 2 := by decide
theorem compact_self {l : List (List UInt8)} (h : SrT l) : Lib.compact l = l := by
  have h1 : SrU l := List.Pairwise.imp (fun {a b} q => bl_asymm q) h
  rw [compact_ris (m := l) h1 fun _ => Iff.rfl]
  exact ris_of h fun _ => Iff.rfl
set_option maxRecDepth 100000 in
set_option maxHeartbeats 4000000 in
theorem markAdds_walk (A : Option Addr) (n c : Nat) (la : List (List UInt8)) (B : Option Addr) (m d : Nat) (lb : List (List UInt8)) (w : World) (hr : Rd w 1 A n c (la.map sv)) (hA : A = none → c = 0) (hs : Rd w 1 B m d (lb.map sv)) (hB : B = none → d = 0) (hn : n ≤ 1048576) (hm : m ≤ 1048576) :
    Calls Try.prog 4 #[.slice A n c, .slice B m d] w fun e w' => e = .returned (.bool true) ∧ Below w.heap.size w w' := by
  have hX2 : ris (lb ++ la) = ris (la ++ lb) := ris_ext fun x => by simp [or_comm]
  have hX3 : ris (ris (la ++ lb) ++ lb) = ris (la ++ lb) := ris_ext fun x => by
    simp only [List.mem_append, ris_mem]
    exact ⟨fun q => q.elim id .inr, .inl⟩
  have H1 := Lib.hid (lAdd_any A B n m c d la lb w hr hs hA hB (by omega))
  have H2 := Lib.hid (fun (W : World) (hb : Below w.heap.size w W) => lAdd_any B A m n d c lb la W (hs.below hb) (hr.below hb) hB hA (by omega))
  rw [hX2] at H2
  have hsr := ris_srt (la ++ lb)
  have hin : ∀ x, x ∈ la ++ lb → x ∈ ris (la ++ lb) := fun x q => ris_mem.2 q
  have hl1 := hr.tlen
  have hl2 := hs.tlen
  have hl : (la ++ lb).length ≤ 2097152 := by rw [List.length_append]; omega
  have hXl : (ris (la ++ lb)).length ≤ 2097152 := Nat.le_trans (ris_length _) hl
  have HR := Lib.hid hr
  have HS := Lib.hid hs
  have HBab := Lib.hid ris_bab
  obtain ⟨X, hX⟩ : ∃ X, ris (la ++ lb) = X := ⟨_, rfl⟩
  rw [hX] at H1 H2 hX3 hsr hin hXl
  have HX3 := Lib.hid hX3
  have HSR := Lib.hid hsr
  have HIN := Lib.hid hin
  have HCS := Lib.hid (compact_self hsr)
  have HL := Lib.hid hl
  obtain ⟨BB, hBB⟩ : ∃ BB, ris (([[98]] : List (List UInt8)) ++ [[97], [98]]) = BB := ⟨_, rfl⟩
  rw [hBB] at HBab
  have HBB := Lib.hid hBB
  clear hX hX2 hX3 hsr hin hr hs hBB hl1 hl2 hl
  go_enter Try.func4, Try.ntmps4
  go_wp2_with fail
  with_reducible refine H1.out.mono ?_
  rintro e w1 h1
  obtain ⟨A1, c1, rfl, r1, hA1, -, hb1⟩ := h1.rd
  clear h1
  go_wp2_with fail
  with_reducible refine (H2.out _ hb1).mono ?_
  rintro e w2 h2
  obtain ⟨A2, c2, rfl, r2, hA2, -, hb2⟩ := h2.rd
  have hbB := below_step hb1 hb2
  have H3 := Lib.hid (lAdd_any A1 B X.length m c1 d X lb w2 (r1.below hb2) (HS.out.below hbB) hA1 hB (by omega))
  rw [HX3.out] at H3
  have r1b := r1.below hb2
  clear h2 H1 H2 r1 hb1 hb2
  go_wp2_with fail
  with_reducible refine H3.out.mono ?_
  rintro e w3 h3
  obtain ⟨A3, c3, rfl, r3, -, -, hb3⟩ := h3.rd
  have hbC := below_step hbB hb3
  have r1c := r1b.below hb3
  have r2c := r2.below hb3
  clear h3 H3 r1b r2 hbB hb3
  go_wp2_with fail
  with_reducible refine (equalT_eq _ _ _ _ _ _ X _ r1c r2c).mono ?_
  rintro e w4 ⟨rfl, hb4⟩
  have r1d := r1c.below hb4
  have r3d := r3.below hb4
  have hbD := below_step hbC hb4
  clear r1c r2c r3 hbC hb4
  go_wp2_with fail
  with_reducible refine (equalT_eq _ _ _ _ _ _ X _ r1d r3d).mono ?_
  rintro e w5 ⟨rfl, hb5⟩
  have r1e := r1d.below hb5
  have hbE := below_step hbD hb5
  clear r1d r3d hbD hb5
  go_wp2_with fail
  with_reducible refine (sortedT_yes _ _ _ X _ r1e HSR.out).mono ?_
  rintro e w6 ⟨rfl, hb6⟩
  have r1f := r1e.below hb6
  have hbF := below_step hbE hb6
  clear r1e hbE hb6
  have ha7 := (Below.refl w6.heap.size w6).alloc (Nat.le_refl _) (.cells #[.string (str [98])] 9)
  have k7 := (Blk.new w6 9 [.string (str [98])]).alloc (.cells #[.string (str [97]), .string (str [98])] 9)
  have k8 := Blk.new (w6.alloc (.cells #[.string (str [98])] 9)) 9 [.string (str [97]), .string (str [98])]
  have ha8 := ha7.alloc ha7.size (.cells #[.string (str [97]), .string (str [98])] 9)
  have H8 := Lib.hid (lAdd_any (some ⟨w6.heap.size, 0, none⟩) (some ⟨(w6.alloc (.cells #[.string (str [98])] 9)).heap.size, 0, none⟩) 1 2 1 2 [[98]] [[97], [98]] _ (blk_rdT (l := [[98]]) k7 (by unfold maxLen; simp)) (blk_rdT (l := [[97], [98]]) k8 (by unfold maxLen; simp)) (fun q => by cases q) (fun q => by cases q) (by omega))
  rw [HBB.out] at H8
  simp only [World.size_alloc] at H8
  clear k7 k8
  go_wp2_with fail
  refine H8.out.mono ?_
  rintro e w9 h9
  obtain ⟨A9, c9, rfl, -, -, -, hb9⟩ := h9.rd
  have hb89 := below_step ha8 hb9
  have r1g := r1f.below hb89
  have hbG := below_step hbF hb89
  rw [HBab.out]
  have ha10 := (Below.refl w9.heap.size w9).alloc (Nat.le_refl _) (.cells #[.slice A n c, .slice B m d] 23)
  have hgB := Blk.new w9 23 [.slice A n c, .slice B m d]
  have HC := Lib.hid (concat2T w9.heap.size A B n m c d la lb _ ((HR.out.below hbG).below ha10) ((HS.out.below hbG).below ha10) hA hB hgB (by omega))
  have r1h := r1g.below ha10
  have hbH := below_step hbG ha10
  obtain ⟨Y, hY⟩ : ∃ Y, la ++ lb = Y := ⟨_, rfl⟩
  rw [hY] at HC HIN HL
  clear hY r1g hbG ha10 hgB H8 hb9 hb89 ha7 ha8 r1f hbF HR HS
  go_wp2_with fail
  with_reducible refine HC.out.mono ?_
  rintro e w11 h11
  obtain ⟨A11, c11, rfl, r11, -, -, hb11⟩ := h11.rd
  have r1i := r1h.below hb11
  have hbI := below_step hbH hb11
  have hLo := HL.out
  clear h11 HC r1h hbH hb11
  go_wp2_with fail
  go_loopw [46] (fun s wr => ∃ i : Nat, i ≤ Y.length ∧ s = .int .i64 i ∧ Below w11.heap.size w11 wr) (fun s _ => Y.length - (intOf s).toNat)
  case atStart => exact ⟨0, Nat.zero_le _, rfl, Below.refl _ _⟩
  case round =>
    obtain ⟨i, hi, rfl, hbel⟩ := hrel
    by_cases hlt : i < Y.length
    · obtain ⟨b, off, rfl, hc0⟩ := (r11.below hbel).text hlt
      have hii : (i : Int) < (Y.length : Int) := by omega
      have hmem := HIN.out _ (List.getElem_mem hlt)
      generalize Y[i] = y at *
      have HCT := Lib.hid (containsT_any _ _ _ X y wr (r1i.below hbel) true ⟨fun _ => hmem, fun _ => rfl⟩)
      clear hmem
      go_wp2_with fail
      with_reducible refine HCT.out.mono ?_
      rintro e w12 ⟨rfl, rfl⟩
      go_wp2
      go_roundw
      case rel => exact ⟨i + 1, by omega, by go_num, hbel⟩
      case measure => simp [intOf] <;> omega
    · have hd2 : decide ((i : Int) < (Y.length : Int)) = false := by rw [decide_eq_false_iff_not]; omega
      have HCL := Lib.hid (tclone_any A1 X.length c1 X wr (r1i.below hbel) hA1 (by omega))
      have hbJ := below_step hbI hbel
      clear r11 r1i hbI
      go_wp2_with fail
      with_reducible refine HCL.out.mono ?_
      rintro e w13 ⟨v13, rfl, hown13, hb13⟩
      obtain ⟨P13, p13, rfl⟩ := own_slice hown13
      have HCP := Lib.hid (compactT_any _ _ X w13 hown13)
      rw [HCS.out] at HCP
      have hbK := below_step hbJ hb13
      have hbJ' := hbJ
      clear hown13 HCL
      go_wp2_with fail
      with_reducible refine HCP.out.mono ?_
      rintro e w14 ⟨u14, rfl, hown14, hb14⟩
      obtain ⟨P14, p14, rfl⟩ := own_slice hown14
      have q1 : ((X.length : Int) == (X.length : Int)) = true := by simp
      go_wp2
      go_ret
      exact ⟨by simp, hbK.trans (hb14.mono (by have := hbJ'.size; omega))⟩
end Go.Proofs.Ytlelodomegnboaa
