/- The law ManifestBack: the walk. -/
import Derived.Test.YtaaeihkbnfcolaaQW5T
import Derived.Test.YtaaeihkbnfcolaaGE
import Derived.Test.YtaaeihkbnfcolaaGH
import Derived.Deep.RegionWith
namespace Go.Proofs.Ytaaeihkbnfcolaa
open Go.RowKit
set_option maxRecDepth 100000 in
set_option maxHeartbeats 8000000 in
theorem manifestBack_walk (A : Option Addr) (n c : Nat) (l : List Rw) (w : World) (hr : Rd w 4 A n c (rcs l)) (hg : ∀ p ∈ l, p.good) (hn : n ≤ 4294967296000) :
    Calls Try.prog 6 #[.slice A n c] w fun e w' => e = .returned (.bool true) ∧ Below w.heap.size w w' := by
  have HG := Lib.hid hg
  obtain ⟨ps, hps⟩ : ∃ ps, listedP l = ps := ⟨_, rfl⟩
  have h0 := listedP_ok l
  have hgood := listedP_good l
  rw [hps] at h0 hgood
  have HG2 := Lib.hid hgood
  have H0 := Lib.hid h0
  have HPS := Lib.hid hps
  obtain ⟨M, hM⟩ : ∃ M, man ps = M := ⟨_, rfl⟩
  have hml := man_length h0
  have hdm := dec_man h0 [] (by simp)
  simp only [List.append_nil, List.length_nil, Nat.lt_irrefl, if_false] at hdm
  obtain ⟨hp8, hpf⟩ := psErr_zero h0
  have HPF := Lib.hid hpf
  have HP8 := Lib.hid hp8
  rw [hM] at hml hdm
  have HM := Lib.hid hM
  have HDM := Lib.hid hdm
  have ee : (M == M) = true := by simp
  have HML := Lib.hid hml
  clear hg hgood h0 hps hM hdm hpf hp8 hml
  go_enter Try.func6, Try.ntmps6
  go_wp2_with fail
  with_reducible refine (listed_any _ _ _ _ _ hr HG.out hn).mono ?_
  rw [HPS.out]
  rintro e w1 ⟨v1, rfl, hown1, hb1⟩
  obtain ⟨A1, c1, rfl, hr1, hA1⟩ := own_rd3 hown1
  clear hown1
  go_wp2_with fail
  with_reducible refine (mencode_ok _ _ _ _ _ hr1 HG2.out H0.out).mono ?_
  rw [HM.out]
  rintro e w2 ⟨A2, n2, c2, rfl, hr2, hb2⟩
  obtain rfl := hr2.len
  have hbB := below_step hb1 hb2
  go_wp2_with fail
  with_reducible refine (mdecode_at _ _ _ _ _ hr2 (by have := HML.out; omega) 0 ps (by rw [HDM.out]) (by rw [HDM.out])).mono ?_
  rintro e w3 ⟨A3, n3, c3, rfl, hr3, hA3, hb3⟩
  have hbC := below_step hbB hb3
  have hx3 := (hr1.below hb2).below hb3
  have hm3 := hr2.below hb3
  obtain rfl := hr3.plen
  clear hr1 hr2 hb1 hb2 hb3 hbB
  go_wp2_with fail
  go_region_with (first
    | (go_at_call 22; with_reducible refine ((equalParts_any _ _ _ _ _ _ _ _ _ hx3.drew hr3.drew).mono fun _ _ h => h.yes rfl).mono ?_; rintro e w4 ⟨rfl, hb4⟩; have hx4 := hx3.drew.below hb4; have hm4 := hm3.drew.below hb4; have k4 := run_bytes_str (P := Try.prog) Try.underlying27 Try.underlying5 Try.underlying9 hm4; have hbD := below_step hbC.drew hb4)
    | (go_at_call 23; with_reducible refine (kmanifest_ok _ _ _ _ _ hx4 HP8.out HPF.out).mono ?_; rw [HM.out]; rintro e w5 ⟨v5, rfl, hown5, hb5⟩; obtain ⟨A5, c5, rfl, hr5⟩ := own_rd hown5; have k5 := run_bytes_str (P := Try.prog) Try.underlying27 Try.underlying5 Try.underlying9 hr5; have k6 := run_bytes_str (P := Try.prog) Try.underlying27 Try.underlying5 Try.underlying9 (hm4.below hb5); have hbE := below_step hbD hb5))
  all_goals
    go_wp2
    go_ret
    exact ⟨rfl, hbE⟩
end Go.Proofs.Ytaaeihkbnfcolaa
