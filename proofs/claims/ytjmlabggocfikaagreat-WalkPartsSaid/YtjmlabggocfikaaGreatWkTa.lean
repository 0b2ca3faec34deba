/-
  The law WalkFeeds: walked.
-/
import Derived.Test.YtjmlabggocfikaaGreatBn11
import Derived.Test.YtjmlabggocfikaaGreatBn12
import Derived.Test.YtjmlabggocfikaaGreatBn4
set_option linter.unusedSimpArgs false
set_option linter.unusedVariables false
namespace Go.Proofs.YtjmlabggocfikaaGreat
open Go.RowKit

theorem few_no10 (a : Option Addr) (len cap : Nat) (ws : List (List UInt8)) (w : World) (hlen : len ≤ 9223372036854775807) (hr : IsStrs w a len ws) (ht : ∀ t ∈ ws, t.length ≤ 9223372036854775807) (β : Bool) (hq : fewB ws 10 20 = β) :
    Calls Tryz.prog 5 #[.slice a len cap, .int .i64 10, .int .i64 20] w fun e w' => e = .returned (.bool β) ∧ w' = w := by
  have := few_any a len cap ws 10 20 w hlen (by omega) (by omega) hr ht
  rw [hq] at this
  exact this
theorem plus_text (s t : List UInt8) : (⟨s.toArray⟩ : ByteArray) ++ (⟨t.toArray⟩ : ByteArray) = ⟨(s ++ t).toArray⟩ := by
  apply ByteArray.ext
  simp

set_option maxRecDepth 100000 in
set_option maxHeartbeats 1000000 in
theorem wkfeeds_many (a : Option Addr) (len cap : Nat) (kind : Int) (pa : Option Addr) (plen pcap : Nat) (least : Int) (ws ps : List (List UInt8)) (w : World) (hlen : len ≤ 9223372036854775807) (hr : IsStrs w a len ws) (ht : ∀ t ∈ ws, t.length ≤ 9223372036854775807) (hq : fewB ws 8 12 = false) :
    Calls Tryz.prog 3 #[.slice a len cap, .int .i64 kind, .slice pa plen pcap, .int .i64 least] w fun e w' => e = .returned (.bool true) ∧ Below w.heap.size w w' := by
  have HF := Lib.hid (few_no8 a len cap ws w hlen hr ht _ hq)
  clear hr ht hq
  go_enter Tryz.func3, Tryz.ntmps3
  go_wp2_with fail
  refine HF.out.mono ?_
  rintro e w' ⟨rfl, rfl⟩
  go_wp2_with fail
  refine (wkawake_any _).mono ?_
  rintro e w' ⟨rfl, hb⟩
  go_wp2
  go_ret
  exact ⟨rfl, hb⟩

set_option maxRecDepth 100000 in
set_option maxHeartbeats 1000000 in
theorem wkfeeds_long (a : Option Addr) (len cap : Nat) (kind : Int) (pa : Option Addr) (plen pcap : Nat) (least : Int) (ws ps : List (List UInt8)) (w : World) (hlen : len ≤ 9223372036854775807) (hr : IsStrs w a len ws) (ht : ∀ t ∈ ws, t.length ≤ 9223372036854775807) (hq : fewB ws 8 12 = true)
    (hplen : plen ≤ 9223372036854775807) (hp : IsStrs w pa plen ps) (hpt : ∀ t ∈ ps, t.length ≤ 9223372036854775807) (hpq : fewB ps 10 20 = false) :
    Calls Tryz.prog 3 #[.slice a len cap, .int .i64 kind, .slice pa plen pcap, .int .i64 least] w fun e w' => e = .returned (.bool true) ∧ Below w.heap.size w w' := by
  have HF := Lib.hid (few_no8 a len cap ws w hlen hr ht _ hq)
  have HF2 := Lib.hid (few_no10 pa plen pcap ps w hplen hp hpt _ hpq)
  clear hr ht hq hp hpt hpq
  go_enter Tryz.func3, Tryz.ntmps3
  go_wp2_with fail
  refine HF.out.mono ?_
  rintro e w' ⟨rfl, hw⟩
  obtain rfl := hw.symm
  go_wp2_with fail
  refine HF2.out.mono ?_
  rintro e w' ⟨rfl, hw⟩
  obtain rfl := hw.symm
  go_wp2_with fail
  refine (wkawake_any _).mono ?_
  rintro e w' ⟨rfl, hb⟩
  go_wp2
  go_ret
  exact ⟨rfl, hb⟩

set_option maxRecDepth 100000 in
set_option maxHeartbeats 4000000 in
theorem wkfeeds_bad (a : Option Addr) (len cap : Nat) (kind : Int) (pa : Option Addr) (plen pcap : Nat) (least : Int) (ws ps : List (List UInt8)) (w : World) (hr : IsStrs w a len ws) (hq : fewB ws 8 12 = true)
    (hp : IsStrs w pa plen ps) (hpq : fewB ps 10 20 = true) (hk : kind < 1 ∨ 3 < kind) :
    Calls Tryz.prog 3 #[.slice a len cap, .int .i64 kind, .slice pa plen pcap, .int .i64 least] w fun e w' => e = .returned (.bool true) ∧ Below w.heap.size w w' := by
  have hwl := hr.1
  have hpl := hp.1
  have hfw := (few_iff ws 8 12).1 hq
  have hfp := (few_iff ps 10 20).1 hpq
  have HF := Lib.hid (few_no8 a len cap ws w (by omega) hr (fun t ht => by have := hfw.2 t ht; omega) _ hq)
  have HF2 := Lib.hid (few_no10 pa plen pcap ps w (by omega) hp (fun t ht => by have := hfp.2 t ht; omega) _ hpq)
  have HN := Lib.hid (ptnew_all a len cap ws w (by omega) hr (fun t ht => by have := hfw.2 t ht; omega))
  have HRN := Lib.hid (fun (W : World) (hW : Below w.heap.size w W) => rptnew_all a len cap ws W (by omega) (hr.below hW) (fun t ht => by have := hfw.2 t ht; omega))
  generalize setL ws = us at *
  generalize faultL ws = f at HN HRN
  have HK := Lib.hid (fun (W : World) (p : Option Addr) => wknew_bad p kind (by omega) (by omega) (by omega) W)
  clear hr hq hp hpq hfw hfp hwl hpl
  rcases hk with hk | hk
  have k2 : decide (kind < 1) = true := decide_eq_true hk
  go_enter Tryz.func3, Tryz.ntmps3
  go_wp2_with fail
  rotate_left
  have k1 : ¬ kind < 1 := by omega
  have k2 : decide (kind < 1) = false := decide_eq_false k1
  have k3 : decide (3 < kind) = true := decide_eq_true hk
  go_enter Tryz.func3, Tryz.ntmps3
  go_wp2_with fail
  rotate_left
  all_goals
    refine HF.out.mono ?_
    rintro e w' ⟨rfl, hw⟩
    obtain rfl := hw.symm
    clear HF hw
    go_wp2_with fail
    refine HF2.out.mono ?_
    rintro e w' ⟨rfl, hw⟩
    obtain rfl := hw.symm
    clear HF2 hw
    go_wp2_with fail
    refine HN.out.mono ?_
    rintro e w1 ⟨p, rfl, hpx, d1⟩
    have R1 := Lib.hid (HRN.out w1 d1)
    clear HN HRN
    go_wp2_with fail
    refine R1.out.mono ?_
    rintro e w2 ⟨ra, rc, rfl, hrs, hb2⟩
    have d2 := d1.trans (hb2.mono d1.size)
    have R2 := Lib.hid (HK.out w2 p)
    clear R1 HK hb2 d1 hrs hpx
    go_wp2_with fail
    refine R2.out.mono ?_
    rintro e w3 ⟨rfl, hb3⟩
    have d3 := d2.trans (hb3.mono d2.size)
    have R3 := Lib.hid (wkfeed_nil ⟨#[97]⟩ w3)
    have R4 := Lib.hid (wkseen_nil w3)
    have R5 := Lib.hid (wkopen_nil w3)
    have R6 := Lib.hid (wkhits_nil w3)
    have R7 := Lib.hid (wkawake_any w3)
    clear R2 hb3 d2
    go_wp2_with fail
    refine R3.out.mono ?_
    rintro e w' ⟨rfl, hw⟩
    obtain rfl := hw.symm
    clear R3 hw
    go_wp2_with fail
    refine R4.out.mono ?_
    rintro e w' ⟨rfl, hw⟩
    obtain rfl := hw.symm
    clear R4 hw
    go_wp2_with fail
    refine R5.out.mono ?_
    rintro e w' ⟨rfl, hw⟩
    obtain rfl := hw.symm
    clear R5 hw
    go_wp2_with fail
    refine R6.out.mono ?_
    rintro e w' ⟨rfl, hw⟩
    obtain rfl := hw.symm
    clear R6 hw
    go_wp2_with fail
    refine R7.out.mono ?_
    rintro e w4 ⟨rfl, hb4⟩
    have d4 := d3.trans (hb4.mono d3.size)
    clear R7 hb4 d3
    go_wp2
    go_ret
    exact ⟨rfl, d4⟩
end Go.Proofs.YtjmlabggocfikaaGreat
