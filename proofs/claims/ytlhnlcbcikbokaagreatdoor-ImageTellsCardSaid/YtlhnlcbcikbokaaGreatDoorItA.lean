import Derived.Test.YtlhnlcbcikbokaaGreatDoorRiP
import Derived.Test.YtlhnlcbcikbokaaGreatDoorRiR
import Derived.Test.YtlhnlcbcikbokaaGreatDoorProg
import Derived.KernelRfl
set_option linter.unusedVariables false
set_option maxRecDepth 100000
namespace Go.Proofs.YtlhnlcbcikbokaaGreatDoor
open Go.Lift
def tab:List (TypeId×Ty):=[(2,(.int .i64)),(3,(.int .i64)),(4,.bool),(5,(.int .u8)),(9,.str),(23,(.slice (.pair (.int .u8) (.pair (.int .i64) (.pair (.int .i64) (.pair (.slice (.pair .str (.pair (.int .i64) .unit))) .unit)))))),(24,(.slice .str)),(25,(.slice (.pair .str (.pair (.int .i64) (.pair (.int .i64) (.pair (.slice (.pair .str (.pair (.int .i64) .unit))) (.pair (.slice (.pair (.int .u8) (.pair (.int .i64) (.pair (.int .i64) (.pair (.int .i64) .unit))))) (.pair (.slice (.pair (.int .i64) (.pair (.int .u64) .unit))) (.pair (.slice (.pair (.int .i64) (.pair (.int .u64) .unit))) .unit))))))))),(27,(.pair (.slice (.pair (.int .u8) (.pair (.int .i64) (.pair (.int .i64) (.pair (.slice (.pair .str (.pair (.int .i64) .unit))) .unit))))) (.pair (.slice .str) (.pair (.slice (.pair .str (.pair (.int .i64) (.pair (.int .i64) (.pair (.slice (.pair .str (.pair (.int .i64) .unit))) (.pair (.slice (.pair (.int .u8) (.pair (.int .i64) (.pair (.int .i64) (.pair (.int .i64) .unit))))) (.pair (.slice (.pair (.int .i64) (.pair (.int .u64) .unit))) (.pair (.slice (.pair (.int .i64) (.pair (.int .u64) .unit))) .unit)))))))) .unit)))),(29,(.int .i64)),(31,(.pair (.int .u8) (.pair (.int .i64) (.pair (.int .i64) (.pair (.int .i64) .unit))))),(32,(.int .u64)),(40,(.slice (.int .u8))),(64,(.slice (.pair .str (.pair (.int .i64) .unit)))),(65,(.slice (.pair (.int .u8) (.pair (.int .i64) (.pair (.int .i64) (.pair (.int .i64) .unit)))))),(66,(.slice (.pair (.int .i64) (.pair (.int .u64) .unit)))),(68,(.pair .str (.pair (.int .i64) (.pair (.int .i64) (.pair (.slice (.pair .str (.pair (.int .i64) .unit))) (.pair (.slice (.pair (.int .u8) (.pair (.int .i64) (.pair (.int .i64) (.pair (.int .i64) .unit))))) (.pair (.slice (.pair (.int .i64) (.pair (.int .u64) .unit))) (.pair (.slice (.pair (.int .i64) (.pair (.int .u64) .unit))) .unit)))))))),(70,(.pair (.int .u8) (.pair (.int .i64) (.pair (.int .i64) (.pair (.slice (.pair .str (.pair (.int .i64) .unit))) .unit))))),(72,(.pair .str (.pair (.int .i64) .unit))),(74,(.pair (.int .i64) (.pair (.int .u64) .unit))),(109,.fn),(111,.fn),(113,.fn),(122,(.slice (.int .i64))),(146,.fn),(149,.fn),(153,.fn),(156,(.arr 3 (.int .i64))),(186,(.slice (.pair (.int .i64) (.pair (.int .i64) .unit)))),(190,(.pair (.int .i64) (.pair (.int .i64) .unit))),(193,(.mp .str .bool)),(195,(.int .u64)),(208,(.int .u8)),(209,(.arr 3 (.int .u8))),(211,(.pair .str (.pair (.arr 3 (.int .u8)) .unit))),(212,(.arr 35 (.pair .str (.pair (.arr 3 (.int .u8)) .unit)))),(223,.fn),(225,(.arr 10 (.int .u8))),(226,(.slice (.slice (.int .u8)))),(229,.fn)]
theorem mixed:Tryz.prog.follows .mixedOrders=true:=by kernel_rfl
theorem tabOk:TabOk Tryz.prog tab:=tabOk_of (by kernel_rfl) (by kernel_rfl) (by kernel_rfl)
abbrev Y0:Type:=(List (Int×(Int×(Int×((List ((List Int)×(Int×Unit)))×Unit)))))×((List (List Int))×((List ((List Int)×(Int×(Int×((List ((List Int)×(Int×Unit)))×((List (Int×(Int×(Int×(Int×Unit)))))×((List (Int×(Int×Unit)))×((List (Int×(Int×Unit)))×Unit))))))))×Unit))
abbrev Y1:Type:=(List Int)×(Int×(Int×((List ((List Int)×(Int×Unit)))×((List (Int×(Int×(Int×(Int×Unit)))))×((List (Int×(Int×Unit)))×((List (Int×(Int×Unit)))×Unit))))))
abbrev Y2:Type:=Int×(Int×(Int×((List ((List Int)×(Int×Unit)))×Unit)))
abbrev Y3:Type:=List Int
abbrev Y4:Type:=Int×(Int×Unit)
abbrev Y5:Type:=List (Y3×(Int×Unit))
abbrev Y6:Type:=List Y2
abbrev Y7:Type:=Int×(Int×Y4)
abbrev Y8:Type:=List Y4
abbrev Y9:Type:=List Y3
abbrev Z0:Ty:=.pair .str (.pair (.int .i64) (.pair (.int .i64) (.pair (.slice (.pair .str (.pair (.int .i64) .unit))) (.pair (.slice (.pair (.int .u8) (.pair (.int .i64) (.pair (.int .i64) (.pair (.int .i64) .unit))))) (.pair (.slice (.pair (.int .i64) (.pair (.int .u64) .unit))) (.pair (.slice (.pair (.int .i64) (.pair (.int .u64) .unit))) .unit))))))
abbrev Z1:Ty:=.pair (.int .u8) (.pair (.int .i64) (.pair (.int .i64) (.pair (.slice (.pair .str (.pair (.int .i64) .unit))) .unit)))
abbrev Z2:Ty:=.int .i64
abbrev Z3:Ty:=.pair (.slice Z1) (.pair (.slice .str) (.pair (.slice Z0) .unit))
abbrev Z4:Ty:=.pair (.int .u8) (.pair Z2 (.pair Z2 (.pair Z2 .unit)))
abbrev Z5:Ty:=.slice (.int .u8)
abbrev Z6:Ty:=.slice (.pair .str (.pair Z2 .unit))
abbrev Z7:Ty:=.pair Z2 (.pair (.int .u64) .unit)
abbrev Z8:Ty:=.pair Z2 (.pair Z2 .unit)
abbrev Z9:Ty:=.int .u8
abbrev Z10:Ty:=.slice Z2
abbrev Z11:Ty:=.slice Z1
abbrev Y10:Type:=Y3×Int×Int×Y6×Int×Int×Y5×Int×Int×Y3
abbrev Y11:Type:=Int×Y0×Y3
def Tz3:LT:={ live:=[(3,[1,2,3,4])],keep:=[] }
def Tz4:LT:={ live:=[],keep:=[] }
noncomputable def Ez4:Env2:={ tab:=tab,fs:=[],inl:=[] }
def nkinds_isIndex (x:Int×Int):Option (Bool):=
 (bif (decide (x.1≥(0:Int))) then (some (decide (x.1 < x.2))) else (some false))
def mkinds_isIndex (N:Nat) (x:Int×Int):Option (Bool):=nkinds_isIndex x
theorem jz4 (N:Nat) (x:Int×Int):rise (Ez4) Tz4 6 N Tryz.f168 [Z2,Z2] [.bool] [false] x=nkinds_isIndex x:=by kernel_rfl
theorem lz4 (N:Nat) (x:Int×Int):rise (Ez4) Tz4 6 N Tryz.f168 [Z2,Z2] [.bool] [false] x=mkinds_isIndex N x:=(jz4 N x).trans rfl
def ckinds_isIndex (x:Int×Int):Option (Bool):=mkinds_isIndex big x
def Gz4:Fn2:=⟨[Z2,Z2],[.bool],[false],fun x=>ckinds_isIndex x⟩
theorem Lz4:Rises Tryz.prog 168 Gz4:=rises_of (E:=Ez4) ⟨tabOk,fsNil2,fun _ _ _=>rfl,mixed,inlNil,rcsNil,owsNil⟩ Tryz.func168 rfl (by decide) (by kernel_rfl) (by kernel_rfl) (by kernel_rfl) (by kernel_rfl) (fun x r _ h=>⟨Tz4,6,big,(lz4 big x).trans h⟩)
def Tz5:LT:={ live:=[],keep:=[] }
noncomputable def Ez5:Env2:={ tab:=tab,fs:=[],inl:=[] }
def nkinds_isLetter (x:Int):Option (Bool):=
 (bif (decide (x≥(97:Int))) then (bif (decide (x≤(122:Int))) then (some true) else (bif (decide (x≥(65:Int))) then (some (decide (x≤(90:Int)))) else (some false))) else (bif (decide (x≥(65:Int))) then (some (decide (x≤(90:Int)))) else (some false)))
def mkinds_isLetter (N:Nat) (x:Int):Option (Bool):=nkinds_isLetter x
theorem jz5 (N:Nat) (x:Int):rise (Ez5) Tz5 6 N Tryz.f155 [Z9] [.bool] [false] x=nkinds_isLetter x:=by kernel_rfl
theorem lz5 (N:Nat) (x:Int):rise (Ez5) Tz5 6 N Tryz.f155 [Z9] [.bool] [false] x=mkinds_isLetter N x:=(jz5 N x).trans rfl
def ckinds_isLetter (x:Int):Option (Bool):=mkinds_isLetter big x
def Gz5:Fn2:=⟨[Z9],[.bool],[false],fun x=>ckinds_isLetter x⟩
theorem Lz5:Rises Tryz.prog 155 Gz5:=rises_of (E:=Ez5) ⟨tabOk,fsNil2,fun _ _ _=>rfl,mixed,inlNil,rcsNil,owsNil⟩ Tryz.func155 rfl (by decide) (by kernel_rfl) (by kernel_rfl) (by kernel_rfl) (by kernel_rfl) (fun x r _ h=>⟨Tz5,6,big,(lz5 big x).trans h⟩)
def Tz6:LT:={ live:=[],keep:=[] }
noncomputable def Ez6:Env2:={ tab:=tab,fs:=[],inl:=[] }
def nkinds_isDigit (x:Int):Option (Bool):=
 (bif (decide (x≥(48:Int))) then (some (decide (x≤(57:Int)))) else (some false))
def mkinds_isDigit (N:Nat) (x:Int):Option (Bool):=nkinds_isDigit x
theorem jz6 (N:Nat) (x:Int):rise (Ez6) Tz6 6 N Tryz.f156 [Z9] [.bool] [false] x=nkinds_isDigit x:=by kernel_rfl
theorem lz6 (N:Nat) (x:Int):rise (Ez6) Tz6 6 N Tryz.f156 [Z9] [.bool] [false] x=mkinds_isDigit N x:=(jz6 N x).trans rfl
def ckinds_isDigit (x:Int):Option (Bool):=mkinds_isDigit big x
def Gz6:Fn2:=⟨[Z9],[.bool],[false],fun x=>ckinds_isDigit x⟩
theorem Lz6:Rises Tryz.prog 156 Gz6:=rises_of (E:=Ez6) ⟨tabOk,fsNil2,fun _ _ _=>rfl,mixed,inlNil,rcsNil,owsNil⟩ Tryz.func156 rfl (by decide) (by kernel_rfl) (by kernel_rfl) (by kernel_rfl) (by kernel_rfl) (fun x r _ h=>⟨Tz6,6,big,(lz6 big x).trans h⟩)
def Tz7:LT:={ live:=[(4,[0,18,19])],keep:=[] }
noncomputable def Ez7:Env2:={ tab:=tab,fs:=[(155,Gz5),(156,Gz6)],inl:=[] }
noncomputable def ez7_0 (v:Y3×Int×Int):St:={ s:=[(0,(.val ⟨.str,v.1⟩)),(18,(.val ⟨Z2,v.2.1⟩)),(19,(.val ⟨Z2,v.2.2⟩))],l:=[],k:=[],b:=4096 }
def hkinds_Named_0 (self0:Y3×Int×Int→Option (Bool)) (v:Y3×Int×Int):Option (Bool):=
 (bif (decide (v.2.2 < v.2.1)) then ((getI v.1 v.2.2).bind fun x3=>((ckinds_isLetter x3).bind fun x4=>(bif (!x4) then ((getI v.1 v.2.2).bind fun x5=>((ckinds_isDigit x5).bind fun x6=>(bif (!x6) then (some false) else (let x7:Int:=(IntKind.i64.wrap (v.2.2+(1:Int)));(self0 (v.1,v.2.1,x7)))))) else (let x8:Int:=(IntKind.i64.wrap (v.2.2+(1:Int)));(self0 (v.1,v.2.1,x8)))))) else (some true))
def gkinds_Named_0 (N:Nat) (self0:Y3×Int×Int→Option (Bool)) (v:Y3×Int×Int):Option (Bool):=hkinds_Named_0 self0 v
theorem kz7_0 (N:Nat) (s0:St→Option (Bool)) (v):(floc (Ez7) Tz7 6 N Tryz.f127 [.bool] [false] [] 0 nowhereR) s0 (ez7_0 v)=hkinds_Named_0 (fun v=>s0 (ez7_0 v)) v:=by kernel_rfl
theorem bz7_0 (N:Nat) (s0:St→Option (Bool)) (v):(floc (Ez7) Tz7 6 N Tryz.f127 [.bool] [false] [] 0 nowhereR) s0 (ez7_0 v)=gkinds_Named_0 N (fun v=>s0 (ez7_0 v)) v:=kz7_0 N s0 v
def nkinds_Named (loop0:Y3×Int×Int→Option (Bool)) (x:Y3):Option (Bool):=
 (bif (eqD .str x ([]:List Int)) then (some false) else (bif (decide ((List.length x:Int) > (16:Int))) then (some false) else ((getI x (0:Int)).bind fun x1=>((ckinds_isLetter x1).bind fun x2=>(bif (!x2) then (some false) else (loop0 (x,(List.length x:Int),(0:Int))))))))
def mkinds_Named (N:Nat) (x:Y3):Option (Bool):=nkinds_Named (iterV (gkinds_Named_0 N) N) x
theorem jz7 (N:Nat) (x:Y3):rise (Ez7) Tz7 6 N Tryz.f127 [.str] [.bool] [false] x=nkinds_Named (fun v=>iterR (floc (Ez7) Tz7 6 N Tryz.f127 [.bool] [false] [] 0 nowhereR) N (ez7_0 v)) x:=by kernel_rfl
theorem lz7 (N:Nat) (x:Y3):rise (Ez7) Tz7 6 N Tryz.f127 [.str] [.bool] [false] x=mkinds_Named N x:=(jz7 N x).trans (by rw [funext (iterR_eq ez7_0 (bz7_0 N) N)];rfl)
def ckinds_Named (x:Y3):Option (Bool):=mkinds_Named big x
def Gz7:Fn2:=⟨[.str],[.bool],[false],fun x=>ckinds_Named x⟩
theorem Lz7:Rises Tryz.prog 127 Gz7:=rises_of (E:=Ez7) ⟨tabOk,(fsCons2 Lz5 (fsCons2 Lz6 fsNil2)),fun _ _ _=>rfl,mixed,inlNil,rcsNil,owsNil⟩ Tryz.func127 rfl (by decide) (by kernel_rfl) (by kernel_rfl) (by kernel_rfl) (by kernel_rfl) (fun x r _ h=>⟨Tz7,6,big,(lz7 big x).trans h⟩)
def Tz8:LT:={ live:=[(5,[1,5,17,18,19])],keep:=[] }
noncomputable def Ez8:Env2:={ tab:=tab,fs:=[(127,Gz7),(168,Gz4)],inl:=[] }
noncomputable def ez8_0 (v:Int×Y5×Int×Int×(List (Y3×Bool))):St:={ s:=[(1,(.val ⟨Z2,v.1⟩)),(5,(.mp 0)),(17,(.val ⟨Z6,v.2.1⟩)),(18,(.val ⟨Z2,v.2.2.1⟩)),(19,(.val ⟨Z2,v.2.2.2.1⟩))],l:=[(0,.mp .str .bool v.2.2.2.2)],k:=[],b:=4096 }
def hkinds_areBuilt_0 (self0:Int×Y5×Int×Int×(List (Y3×Bool))→Option (Bool)) (v:Int×Y5×Int×Int×(List (Y3×Bool))):Option (Bool):=
 (bif (decide (v.2.2.2.1 < v.2.2.1)) then ((getI v.2.1 v.2.2.2.1).bind fun x1=>((ckinds_Named x1.1).bind fun x2=>(bif (!x2) then (some false) else (bif (@atK .str .bool x1.1 false v.2.2.2.2).1 then (some false) else ((ckinds_isIndex (x1.2.1,v.1)).bind fun x3=>(bif (!x3) then (some false) else (let x4:(List (Y3×Bool)):=(@putK .str .bool x1.1 true v.2.2.2.2);(let x5:Int:=(IntKind.i64.wrap (v.2.2.2.1+(1:Int)));(self0 (v.1,v.2.1,v.2.2.1,x5,x4)))))))))) else (some true))
def gkinds_areBuilt_0 (N:Nat) (self0:Int×Y5×Int×Int×(List (Y3×Bool))→Option (Bool)) (v:Int×Y5×Int×Int×(List (Y3×Bool))):Option (Bool):=hkinds_areBuilt_0 self0 v
theorem kz8_0 (N:Nat) (s0:St→Option (Bool)) (v):(floc (Ez8) Tz8 6 N Tryz.f169 [.bool] [false] [] 0 nowhereR) s0 (ez8_0 v)=hkinds_areBuilt_0 (fun v=>s0 (ez8_0 v)) v:=by kernel_rfl
theorem bz8_0 (N:Nat) (s0:St→Option (Bool)) (v):(floc (Ez8) Tz8 6 N Tryz.f169 [.bool] [false] [] 0 nowhereR) s0 (ez8_0 v)=gkinds_areBuilt_0 N (fun v=>s0 (ez8_0 v)) v:=kz8_0 N s0 v
def nkinds_areBuilt (loop0:Int×Y5×Int×Int×(List (Y3×Bool))→Option (Bool)) (x:Y5×Int):Option (Bool):=
 (bif (decide ((List.length x.1:Int) < (1:Int))) then (some false) else (bif (decide ((List.length x.1:Int) > (8:Int))) then (some false) else (loop0 (x.2,x.1,(List.length x.1:Int),(0:Int),([]:List (Y3×Bool))))))
def mkinds_areBuilt (N:Nat) (x:Y5×Int):Option (Bool):=nkinds_areBuilt (iterV (gkinds_areBuilt_0 N) N) x
theorem jz8 (N:Nat) (x:Y5×Int):rise (Ez8) Tz8 6 N Tryz.f169 [Z6,Z2] [.bool] [false] x=nkinds_areBuilt (fun v=>iterR (floc (Ez8) Tz8 6 N Tryz.f169 [.bool] [false] [] 0 nowhereR) N (ez8_0 v)) x:=by kernel_rfl
theorem lz8 (N:Nat) (x:Y5×Int):rise (Ez8) Tz8 6 N Tryz.f169 [Z6,Z2] [.bool] [false] x=mkinds_areBuilt N x:=(jz8 N x).trans (by rw [funext (iterR_eq ez8_0 (bz8_0 N) N)];rfl)
def ckinds_areBuilt (x:Y5×Int):Option (Bool):=mkinds_areBuilt big x
def Gz8:Fn2:=⟨[Z6,Z2],[.bool],[false],fun x=>ckinds_areBuilt x⟩
theorem Lz8:Rises Tryz.prog 169 Gz8:=rises_of (E:=Ez8) ⟨tabOk,(fsCons2 Lz7 (fsCons2 Lz4 fsNil2)),fun _ _ _=>rfl,mixed,inlNil,rcsNil,owsNil⟩ Tryz.func169 rfl (by decide) (by kernel_rfl) (by kernel_rfl) (by kernel_rfl) (by kernel_rfl) (fun x r _ h=>⟨Tz8,6,big,(lz8 big x).trans h⟩)
def Tz9:LT:={ live:=[],keep:=[] }
noncomputable def Ez9:Env2:={ tab:=tab,fs:=[(168,Gz4),(169,Gz8)],inl:=[] }
def nkinds_isBuilt (x:Y2×Int×Int):Option (Bool):=
 (bif (x.1.1==(1:Int)) then (bif (x.1.1==(1:Int)) then (bif (x.1.2.1==(0:Int)) then (bif (x.1.2.2.1==(0:Int)) then (some ((List.length x.1.2.2.2.1:Int)==(0:Int))) else (some false)) else (some false)) else (bif (x.1.1==(4:Int)) then (bif (x.1.1==(4:Int)) then ((ckinds_isIndex (x.1.2.1,x.2.2)).bind fun x1=>(bif x1 then (bif (x.1.2.2.1==(0:Int)) then (some ((List.length x.1.2.2.2.1:Int)==(0:Int))) else (some false)) else (some false))) else (bif (x.1.1==(6:Int)) then ((ckinds_isIndex (x.1.2.1,x.2.1)).bind fun x2=>(bif x2 then (bif (decide (x.1.2.2.1≥(1:Int))) then (bif (decide (x.1.2.2.1≤(16:Int))) then (some ((List.length x.1.2.2.2.1:Int)==(0:Int))) else (some false)) else (some false)) else (some false))) else (bif (x.1.1==(5:Int)) then (bif (x.1.2.1==(0:Int)) then (bif (x.1.2.2.1==(0:Int)) then ((ckinds_areBuilt (x.1.2.2.2.1,x.2.1)).bind fun x3=>(some x3)) else (some false)) else (some false)) else (some false)))) else (bif (x.1.1==(7:Int)) then ((ckinds_isIndex (x.1.2.1,x.2.2)).bind fun x4=>(bif x4 then (bif (x.1.2.2.1==(0:Int)) then (some ((List.length x.1.2.2.2.1:Int)==(0:Int))) else (some false)) else (some false))) else (bif (x.1.1==(6:Int)) then ((ckinds_isIndex (x.1.2.1,x.2.1)).bind fun x5=>(bif x5 then (bif (decide (x.1.2.2.1≥(1:Int))) then (bif (decide (x.1.2.2.1≤(16:Int))) then (some ((List.length x.1.2.2.2.1:Int)==(0:Int))) else (some false)) else (some false)) else (some false))) else (bif (x.1.1==(5:Int)) then (bif (x.1.2.1==(0:Int)) then (bif (x.1.2.2.1==(0:Int)) then ((ckinds_areBuilt (x.1.2.2.2.1,x.2.1)).bind fun x6=>(some x6)) else (some false)) else (some false)) else (some false)))))) else (bif (x.1.1==(2:Int)) then (bif (x.1.1==(2:Int)) then (bif (x.1.2.1==(0:Int)) then (bif (x.1.2.2.1==(0:Int)) then (some ((List.length x.1.2.2.2.1:Int)==(0:Int))) else (some false)) else (some false)) else (bif (x.1.1==(4:Int)) then (bif (x.1.1==(4:Int)) then ((ckinds_isIndex (x.1.2.1,x.2.2)).bind fun x7=>(bif x7 then (bif (x.1.2.2.1==(0:Int)) then (some ((List.length x.1.2.2.2.1:Int)==(0:Int))) else (some false)) else (some false))) else (bif (x.1.1==(6:Int)) then ((ckinds_isIndex (x.1.2.1,x.2.1)).bind fun x8=>(bif x8 then (bif (decide (x.1.2.2.1≥(1:Int))) then (bif (decide (x.1.2.2.1≤(16:Int))) then (some ((List.length x.1.2.2.2.1:Int)==(0:Int))) else (some false)) else (some false)) else (some false))) else (bif (x.1.1==(5:Int)) then (bif (x.1.2.1==(0:Int)) then (bif (x.1.2.2.1==(0:Int)) then ((ckinds_areBuilt (x.1.2.2.2.1,x.2.1)).bind fun x9=>(some x9)) else (some false)) else (some false)) else (some false)))) else (bif (x.1.1==(7:Int)) then ((ckinds_isIndex (x.1.2.1,x.2.2)).bind fun x10=>(bif x10 then (bif (x.1.2.2.1==(0:Int)) then (some ((List.length x.1.2.2.2.1:Int)==(0:Int))) else (some false)) else (some false))) else (bif (x.1.1==(6:Int)) then ((ckinds_isIndex (x.1.2.1,x.2.1)).bind fun x11=>(bif x11 then (bif (decide (x.1.2.2.1≥(1:Int))) then (bif (decide (x.1.2.2.1≤(16:Int))) then (some ((List.length x.1.2.2.2.1:Int)==(0:Int))) else (some false)) else (some false)) else (some false))) else (bif (x.1.1==(5:Int)) then (bif (x.1.2.1==(0:Int)) then (bif (x.1.2.2.1==(0:Int)) then ((ckinds_areBuilt (x.1.2.2.2.1,x.2.1)).bind fun x12=>(some x12)) else (some false)) else (some false)) else (some false)))))) else (bif (x.1.1==(3:Int)) then (bif (x.1.2.1==(0:Int)) then (bif (x.1.2.2.1==(0:Int)) then (some ((List.length x.1.2.2.2.1:Int)==(0:Int))) else (some false)) else (some false)) else (bif (x.1.1==(4:Int)) then (bif (x.1.1==(4:Int)) then ((ckinds_isIndex (x.1.2.1,x.2.2)).bind fun x13=>(bif x13 then (bif (x.1.2.2.1==(0:Int)) then (some ((List.length x.1.2.2.2.1:Int)==(0:Int))) else (some false)) else (some false))) else (bif (x.1.1==(6:Int)) then ((ckinds_isIndex (x.1.2.1,x.2.1)).bind fun x14=>(bif x14 then (bif (decide (x.1.2.2.1≥(1:Int))) then (bif (decide (x.1.2.2.1≤(16:Int))) then (some ((List.length x.1.2.2.2.1:Int)==(0:Int))) else (some false)) else (some false)) else (some false))) else (bif (x.1.1==(5:Int)) then (bif (x.1.2.1==(0:Int)) then (bif (x.1.2.2.1==(0:Int)) then ((ckinds_areBuilt (x.1.2.2.2.1,x.2.1)).bind fun x15=>(some x15)) else (some false)) else (some false)) else (some false)))) else (bif (x.1.1==(7:Int)) then ((ckinds_isIndex (x.1.2.1,x.2.2)).bind fun x16=>(bif x16 then (bif (x.1.2.2.1==(0:Int)) then (some ((List.length x.1.2.2.2.1:Int)==(0:Int))) else (some false)) else (some false))) else (bif (x.1.1==(6:Int)) then ((ckinds_isIndex (x.1.2.1,x.2.1)).bind fun x17=>(bif x17 then (bif (decide (x.1.2.2.1≥(1:Int))) then (bif (decide (x.1.2.2.1≤(16:Int))) then (some ((List.length x.1.2.2.2.1:Int)==(0:Int))) else (some false)) else (some false)) else (some false))) else (bif (x.1.1==(5:Int)) then (bif (x.1.2.1==(0:Int)) then (bif (x.1.2.2.1==(0:Int)) then ((ckinds_areBuilt (x.1.2.2.2.1,x.2.1)).bind fun x18=>(some x18)) else (some false)) else (some false)) else (some false))))))))
def mkinds_isBuilt (N:Nat) (x:Y2×Int×Int):Option (Bool):=nkinds_isBuilt x
theorem jz9 (N:Nat) (x:Y2×Int×Int):rise (Ez9) Tz9 6 N Tryz.f163 [Z1,Z2,Z2] [.bool] [false] x=nkinds_isBuilt x:=by kernel_rfl
theorem lz9 (N:Nat) (x:Y2×Int×Int):rise (Ez9) Tz9 6 N Tryz.f163 [Z1,Z2,Z2] [.bool] [false] x=mkinds_isBuilt N x:=(jz9 N x).trans rfl
def ckinds_isBuilt (x:Y2×Int×Int):Option (Bool):=mkinds_isBuilt big x
def Gz9:Fn2:=⟨[Z1,Z2,Z2],[.bool],[false],fun x=>ckinds_isBuilt x⟩
theorem Lz9:Rises Tryz.prog 163 Gz9:=rises_of (E:=Ez9) ⟨tabOk,(fsCons2 Lz4 (fsCons2 Lz8 fsNil2)),fun _ _ _=>rfl,mixed,inlNil,rcsNil,owsNil⟩ Tryz.func163 rfl (by decide) (by kernel_rfl) (by kernel_rfl) (by kernel_rfl) (by kernel_rfl) (fun x r _ h=>⟨Tz9,6,big,(lz9 big x).trans h⟩)
def Tz10:LT:={ live:=[(3,[1,5,14,15,16]),(15,[1,5,6,8,14,15,16,57,58,59])],keep:=[] }
noncomputable def Ez10 (mk:(α:Type)→Nat→α→List α):Env2:={ tab:=tab,fs:=[],inl:=[],rep:=mk }
noncomputable def ez10_1 (v:Y10):St:={ s:=[(1,(.val ⟨Z10,v.1⟩)),(5,(.row 0)),(6,(.val ⟨Z2,v.2.1⟩)),(8,(.val ⟨Z2,v.2.2.1⟩)),(14,(.val ⟨Z11,v.2.2.2.1⟩)),(15,(.val ⟨Z2,v.2.2.2.2.1⟩)),(16,(.val ⟨Z2,v.2.2.2.2.2.1⟩)),(57,(.val ⟨Z6,v.2.2.2.2.2.2.1⟩)),(58,(.val ⟨Z2,v.2.2.2.2.2.2.2.1⟩)),(59,(.val ⟨Z2,v.2.2.2.2.2.2.2.2.1⟩))],l:=[(0,.row Z2 v.2.2.2.2.2.2.2.2.2)],k:=[],b:=4096 }
noncomputable def ez10_0 (v:Y3×Y6×Int×Int×Y3):St:={ s:=[(1,(.val ⟨Z10,v.1⟩)),(5,(.row 0)),(14,(.val ⟨Z11,v.2.1⟩)),(15,(.val ⟨Z2,v.2.2.1⟩)),(16,(.val ⟨Z2,v.2.2.2.1⟩))],l:=[(0,.row Z2 v.2.2.2.2)],k:=[],b:=4096 }
def hkinds_widened_1 (mk:(α:Type)→Nat→α→List α) (self0:Y3×Y6×Int×Int×Y3→Option (Y3)) (self1:Y10→Option (Y3)) (v:Y10):Option (Y3):=
 (bif (decide (v.2.2.2.2.2.2.2.2.1 < v.2.2.2.2.2.2.2.1)) then ((getI v.2.2.2.2.2.2.1 v.2.2.2.2.2.2.2.2.1).bind fun x20=>(bif (decide (0≤x20.2.1)&&decide (x20.2.1 < (List.length v.2.2.2.2.2.2.2.2.2:Int))) then ((nth v.2.2.2.2.2.2.2.2.2 (Int.toNat x20.2.1)).bind fun x21=>(let x22:Int:=(IntKind.i64.wrap (v.2.2.1+x21));(let x23:Int:=(IntKind.i64.wrap (v.2.2.2.2.2.2.2.2.1+(1:Int)));(self1 (v.1,v.2.1,x22,v.2.2.2.1,v.2.2.2.2.1,v.2.2.2.2.2.1,v.2.2.2.2.2.2.1,v.2.2.2.2.2.2.2.1,x23,v.2.2.2.2.2.2.2.2.2))))) else none)) else (let x24:Int:=(if (5001:Int) < v.2.2.1 then (5001:Int) else v.2.2.1);(bif (decide (0≤v.2.1)&&decide (v.2.1 < (List.length v.2.2.2.2.2.2.2.2.2:Int))) then (let x25:Y3:=(List.set v.2.2.2.2.2.2.2.2.2 (Int.toNat v.2.1) x24);(let x26:Int:=(IntKind.i64.wrap (v.2.2.2.2.2.1+(1:Int)));(self0 (v.1,v.2.2.2.1,v.2.2.2.2.1,x26,x25)))) else none)))
def gkinds_widened_1 (mk:(α:Type)→Nat→α→List α) (N:Nat) (self0:Y3×Y6×Int×Int×Y3→Option (Y3)) (self1:Y10→Option (Y3)) (v:Y10):Option (Y3):=hkinds_widened_1 mk self0 self1 v
theorem kz10_1 (mk:(α:Type)→Nat→α→List α) (N:Nat) (s0:St→Option (Y3)) (s1:St→Option (Y3)) (v):(floc (Ez10 mk) Tz10 6 N Tryz.f171 [Z10] [true] [] 1 (outerR s0 nowhereR)) s1 (ez10_1 v)=hkinds_widened_1 mk (fun v=>s0 (ez10_0 v)) (fun v=>s1 (ez10_1 v)) v:=by kernel_rfl
theorem bz10_1 (mk:(α:Type)→Nat→α→List α) (N:Nat) (s0:St→Option (Y3)) (s1:St→Option (Y3)) (v):(floc (Ez10 mk) Tz10 6 N Tryz.f171 [Z10] [true] [] 1 (outerR s0 nowhereR)) s1 (ez10_1 v)=gkinds_widened_1 mk N (fun v=>s0 (ez10_0 v)) (fun v=>s1 (ez10_1 v)) v:=kz10_1 mk N s0 s1 v
def hkinds_widened_0 (mk:(α:Type)→Nat→α→List α) (loop1:Y10→Option (Y3)) (self0:Y3×Y6×Int×Int×Y3→Option (Y3)) (v:Y3×Y6×Int×Int×Y3):Option (Y3):=
 (bif (decide (v.2.2.2.1 < v.2.2.1)) then ((getI v.2.1 v.2.2.2.1).bind fun x2=>(bif (x2.1==(4:Int)) then ((getI v.1 x2.2.1).bind fun x3=>(let x4:Int:=(IntKind.i64.wrap ((1:Int)+x3));(let x5:Int:=(if (5001:Int) < x4 then (5001:Int) else x4);(bif (decide (0≤v.2.2.2.1)&&decide (v.2.2.2.1 < (List.length v.2.2.2.2:Int))) then (let x6:Y3:=(List.set v.2.2.2.2 (Int.toNat v.2.2.2.1) x5);(let x7:Int:=(IntKind.i64.wrap (v.2.2.2.1+(1:Int)));(self0 (v.1,v.2.1,v.2.2.1,x7,x6)))) else none)))) else (bif (x2.1==(7:Int)) then ((getI v.1 x2.2.1).bind fun x8=>(let x9:Int:=(IntKind.i64.wrap ((16:Int) * x8));(let x10:Int:=(IntKind.i64.wrap ((1:Int)+x9));(let x11:Int:=(if (5001:Int) < x10 then (5001:Int) else x10);(bif (decide (0≤v.2.2.2.1)&&decide (v.2.2.2.1 < (List.length v.2.2.2.2:Int))) then (let x12:Y3:=(List.set v.2.2.2.2 (Int.toNat v.2.2.2.1) x11);(let x13:Int:=(IntKind.i64.wrap (v.2.2.2.1+(1:Int)));(self0 (v.1,v.2.1,v.2.2.1,x13,x12)))) else none))))) else (bif (x2.1==(6:Int)) then (bif (decide (0≤x2.2.1)&&decide (x2.2.1 < (List.length v.2.2.2.2:Int))) then ((nth v.2.2.2.2 (Int.toNat x2.2.1)).bind fun x14=>(let x15:Int:=(IntKind.i64.wrap (x2.2.2.1 * x14));(let x16:Int:=(IntKind.i64.wrap ((1:Int)+x15));(let x17:Int:=(if (5001:Int) < x16 then (5001:Int) else x16);(bif (decide (0≤v.2.2.2.1)&&decide (v.2.2.2.1 < (List.length v.2.2.2.2:Int))) then (let x18:Y3:=(List.set v.2.2.2.2 (Int.toNat v.2.2.2.1) x17);(let x19:Int:=(IntKind.i64.wrap (v.2.2.2.1+(1:Int)));(self0 (v.1,v.2.1,v.2.2.1,x19,x18)))) else none))))) else none) else (bif (x2.1==(5:Int)) then (loop1 (v.1,v.2.2.2.1,(1:Int),v.2.1,v.2.2.1,v.2.2.2.1,x2.2.2.2.1,(List.length x2.2.2.2.1:Int),(0:Int),v.2.2.2.2)) else (let x27:Int:=(if (5001:Int) < (1:Int) then (5001:Int) else (1:Int));(bif (decide (0≤v.2.2.2.1)&&decide (v.2.2.2.1 < (List.length v.2.2.2.2:Int))) then (let x28:Y3:=(List.set v.2.2.2.2 (Int.toNat v.2.2.2.1) x27);(let x29:Int:=(IntKind.i64.wrap (v.2.2.2.1+(1:Int)));(self0 (v.1,v.2.1,v.2.2.1,x29,x28)))) else none))))))) else (some v.2.2.2.2))
def gkinds_widened_0 (mk:(α:Type)→Nat→α→List α) (N:Nat) (self0:Y3×Y6×Int×Int×Y3→Option (Y3)) (v:Y3×Y6×Int×Int×Y3):Option (Y3):=hkinds_widened_0 mk (iterV (gkinds_widened_1 mk N self0) N) self0 v
theorem kz10_0 (mk:(α:Type)→Nat→α→List α) (N:Nat) (s0:St→Option (Y3)) (v):(floc (Ez10 mk) Tz10 6 N Tryz.f171 [Z10] [true] [] 0 nowhereR) s0 (ez10_0 v)=hkinds_widened_0 mk (fun v=>iterR (floc (Ez10 mk) Tz10 6 N Tryz.f171 [Z10] [true] [] 1 (outerR s0 nowhereR)) N (ez10_1 v)) (fun v=>s0 (ez10_0 v)) v:=by kernel_rfl
theorem bz10_0 (mk:(α:Type)→Nat→α→List α) (N:Nat) (s0:St→Option (Y3)) (v):(floc (Ez10 mk) Tz10 6 N Tryz.f171 [Z10] [true] [] 0 nowhereR) s0 (ez10_0 v)=gkinds_widened_0 mk N (fun v=>s0 (ez10_0 v)) v:=(kz10_0 mk N s0 v).trans (by rw [funext (iterR_eq ez10_1 (bz10_1 mk N s0) N)];rfl)
def nkinds_widened (mk:(α:Type)→Nat→α→List α) (loop0:Y3×Y6×Int×Int×Y3→Option (Y3)) (x:Y6×Y3):Option (Y3):=
 (bif (decide (0≤(List.length x.1:Int))&&(decide ((List.length x.1:Int)≤(List.length x.1:Int))&&(decide ((List.length x.1:Int)≤68719476736)&&true))) then (let x1:Y3:=(mk Int (Int.toNat (List.length x.1:Int)) (0:Int));(loop0 (x.2,x.1,(List.length x.1:Int),(0:Int),x1))) else none)
def mkinds_widened (mk:(α:Type)→Nat→α→List α) (N:Nat) (x:Y6×Y3):Option (Y3):=nkinds_widened mk (iterV (gkinds_widened_0 mk N) N) x
theorem jz10 (mk:(α:Type)→Nat→α→List α) (N:Nat) (x:Y6×Y3):rise (Ez10 mk) Tz10 6 N Tryz.f171 [Z11,Z10] [Z10] [true] x=nkinds_widened mk (fun v=>iterR (floc (Ez10 mk) Tz10 6 N Tryz.f171 [Z10] [true] [] 0 nowhereR) N (ez10_0 v)) x:=by kernel_rfl
theorem lz10 (mk:(α:Type)→Nat→α→List α) (N:Nat) (x:Y6×Y3):rise (Ez10 mk) Tz10 6 N Tryz.f171 [Z11,Z10] [Z10] [true] x=mkinds_widened mk N x:=(jz10 mk N x).trans (by rw [funext (iterR_eq ez10_0 (bz10_0 mk N) N)];rfl)
def ckinds_widened (x:Y6×Y3):Option (Y3):=mkinds_widened (fun _=>List.replicate) big x
def Gz10:Fn2:=⟨[Z11,Z10],[Z10],[true],fun x=>ckinds_widened x⟩
theorem Lz10:Rises Tryz.prog 171 Gz10:=rises_of (E:=Ez10 (fun _=>List.replicate)) ⟨tabOk,fsNil2,fun _ _ _=>rfl,mixed,inlNil,rcsNil,owsNil⟩ Tryz.func171 rfl (by decide) (by kernel_rfl) (by kernel_rfl) (by kernel_rfl) (by kernel_rfl) (fun x r _ h=>⟨Tz10,6,big,(lz10 (fun _=>List.replicate) big x).trans h⟩)
def Tz11:LT:={ live:=[(3,[0,3,7])],keep:=[] }
noncomputable def Ez11 (mk:(α:Type)→Nat→α→List α):Env2:={ tab:=tab,fs:=[(171,Gz10)],inl:=[],rep:=mk }
noncomputable def ez11_0 (v:Y6×Int×Y3):St:={ s:=[(0,(.val ⟨Z11,v.1⟩)),(3,(.row 0)),(7,(.val ⟨Z2,v.2.1⟩))],l:=[(0,.row Z2 v.2.2)],k:=[],b:=4096 }
def hkinds_widths_0 (mk:(α:Type)→Nat→α→List α) (self0:Y6×Int×Y3→Option (Y3)) (v:Y6×Int×Y3):Option (Y3):=
 (bif (decide (v.2.1 < (4:Int))) then ((ckinds_widened (v.1,v.2.2)).bind fun x2=>(let x3:Int:=(IntKind.i64.wrap (v.2.1+(1:Int)));(self0 (v.1,x3,x2)))) else (some v.2.2))
def gkinds_widths_0 (mk:(α:Type)→Nat→α→List α) (N:Nat) (self0:Y6×Int×Y3→Option (Y3)) (v:Y6×Int×Y3):Option (Y3):=hkinds_widths_0 mk self0 v
theorem kz11_0 (mk:(α:Type)→Nat→α→List α) (N:Nat) (s0:St→Option (Y3)) (v):(floc (Ez11 mk) Tz11 6 N Tryz.f165 [Z10] [true] [] 0 nowhereR) s0 (ez11_0 v)=hkinds_widths_0 mk (fun v=>s0 (ez11_0 v)) v:=by kernel_rfl
theorem bz11_0 (mk:(α:Type)→Nat→α→List α) (N:Nat) (s0:St→Option (Y3)) (v):(floc (Ez11 mk) Tz11 6 N Tryz.f165 [Z10] [true] [] 0 nowhereR) s0 (ez11_0 v)=gkinds_widths_0 mk N (fun v=>s0 (ez11_0 v)) v:=kz11_0 mk N s0 v
def nkinds_widths (mk:(α:Type)→Nat→α→List α) (loop0:Y6×Int×Y3→Option (Y3)) (x:Y6):Option (Y3):=
 (bif (decide (0≤(List.length x:Int))&&(decide ((List.length x:Int)≤(List.length x:Int))&&(decide ((List.length x:Int)≤68719476736)&&true))) then (let x1:Y3:=(mk Int (Int.toNat (List.length x:Int)) (0:Int));(loop0 (x,(0:Int),x1))) else none)
def mkinds_widths (mk:(α:Type)→Nat→α→List α) (N:Nat) (x:Y6):Option (Y3):=nkinds_widths mk (iterV (gkinds_widths_0 mk N) N) x
theorem jz11 (mk:(α:Type)→Nat→α→List α) (N:Nat) (x:Y6):rise (Ez11 mk) Tz11 6 N Tryz.f165 [Z11] [Z10] [true] x=nkinds_widths mk (fun v=>iterR (floc (Ez11 mk) Tz11 6 N Tryz.f165 [Z10] [true] [] 0 nowhereR) N (ez11_0 v)) x:=by kernel_rfl
theorem lz11 (mk:(α:Type)→Nat→α→List α) (N:Nat) (x:Y6):rise (Ez11 mk) Tz11 6 N Tryz.f165 [Z11] [Z10] [true] x=mkinds_widths mk N x:=(jz11 mk N x).trans (by rw [funext (iterR_eq ez11_0 (bz11_0 mk N) N)];rfl)
def ckinds_widths (x:Y6):Option (Y3):=mkinds_widths (fun _=>List.replicate) big x
def Gz11:Fn2:=⟨[Z11],[Z10],[true],fun x=>ckinds_widths x⟩
theorem Lz11:Rises Tryz.prog 165 Gz11:=rises_of (E:=Ez11 (fun _=>List.replicate)) ⟨tabOk,(fsCons2 Lz10 fsNil2),fun _ _ _=>rfl,mixed,inlNil,rcsNil,owsNil⟩ Tryz.func165 rfl (by decide) (by kernel_rfl) (by kernel_rfl) (by kernel_rfl) (by kernel_rfl) (fun x r _ h=>⟨Tz11,6,big,(lz11 (fun _=>List.replicate) big x).trans h⟩)
def Tz12:LT:={ live:=[(2,[0,1,7,8])],keep:=[] }
noncomputable def Ez12:Env2:={ tab:=tab,fs:=[],inl:=[] }
noncomputable def ez12_0 (v:Y3×Int×Int×Int):St:={ s:=[(0,(.val ⟨Z10,v.1⟩)),(1,(.val ⟨Z2,v.2.1⟩)),(7,(.val ⟨Z2,v.2.2.1⟩)),(8,(.val ⟨Z2,v.2.2.2⟩))],l:=[],k:=[],b:=4096 }
def hslices_Index_int_int_0 (self0:Y3×Int×Int×Int→Option (Int)) (v:Y3×Int×Int×Int):Option (Int):=
 (bif (decide (v.2.2.2 < v.2.2.1)) then ((getI v.1 v.2.2.2).bind fun x1=>(bif (v.2.1==x1) then (some v.2.2.2) else (let x2:Int:=(IntKind.i64.wrap (v.2.2.2+(1:Int)));(self0 (v.1,v.2.1,v.2.2.1,x2))))) else (some (-1:Int)))
def gslices_Index_int_int_0 (N:Nat) (self0:Y3×Int×Int×Int→Option (Int)) (v:Y3×Int×Int×Int):Option (Int):=hslices_Index_int_int_0 self0 v
theorem kz12_0 (N:Nat) (s0:St→Option (Int)) (v):(floc (Ez12) Tz12 6 N Tryz.f170 [Z2] [false] [] 0 nowhereR) s0 (ez12_0 v)=hslices_Index_int_int_0 (fun v=>s0 (ez12_0 v)) v:=by kernel_rfl
theorem bz12_0 (N:Nat) (s0:St→Option (Int)) (v):(floc (Ez12) Tz12 6 N Tryz.f170 [Z2] [false] [] 0 nowhereR) s0 (ez12_0 v)=gslices_Index_int_int_0 N (fun v=>s0 (ez12_0 v)) v:=kz12_0 N s0 v
def nslices_Index_int_int (loop0:Y3×Int×Int×Int→Option (Int)) (x:Y3×Int):Option (Int):=
 (loop0 (x.1,x.2,(List.length x.1:Int),(0:Int)))
def mslices_Index_int_int (N:Nat) (x:Y3×Int):Option (Int):=nslices_Index_int_int (iterV (gslices_Index_int_int_0 N) N) x
theorem jz12 (N:Nat) (x:Y3×Int):rise (Ez12) Tz12 6 N Tryz.f170 [Z10,Z2] [Z2] [false] x=nslices_Index_int_int (fun v=>iterR (floc (Ez12) Tz12 6 N Tryz.f170 [Z2] [false] [] 0 nowhereR) N (ez12_0 v)) x:=by kernel_rfl
theorem lz12 (N:Nat) (x:Y3×Int):rise (Ez12) Tz12 6 N Tryz.f170 [Z10,Z2] [Z2] [false] x=mslices_Index_int_int N x:=(jz12 N x).trans (by rw [funext (iterR_eq ez12_0 (bz12_0 N) N)];rfl)
def cslices_Index_int_int (x:Y3×Int):Option (Int):=mslices_Index_int_int big x
def Gz12:Fn2:=⟨[Z10,Z2],[Z2],[false],fun x=>cslices_Index_int_int x⟩
theorem Lz12:Rises Tryz.prog 170 Gz12:=rises_of (E:=Ez12) ⟨tabOk,fsNil2,fun _ _ _=>rfl,mixed,inlNil,rcsNil,owsNil⟩ Tryz.func170 rfl (by decide) (by kernel_rfl) (by kernel_rfl) (by kernel_rfl) (by kernel_rfl) (fun x r _ h=>⟨Tz12,6,big,(lz12 big x).trans h⟩)
def Tz13:LT:={ live:=[],keep:=[] }
noncomputable def Ez13:Env2:={ tab:=tab,fs:=[(170,Gz12)],inl:=[] }
def nslices_Contains_int_int (x:Y3×Int):Option (Bool):=
 ((cslices_Index_int_int (x.1,x.2)).bind fun x1=>(some (decide (x1≥(0:Int)))))
def mslices_Contains_int_int (N:Nat) (x:Y3×Int):Option (Bool):=nslices_Contains_int_int x
theorem jz13 (N:Nat) (x:Y3×Int):rise (Ez13) Tz13 6 N Tryz.f164 [Z10,Z2] [.bool] [false] x=nslices_Contains_int_int x:=by kernel_rfl
theorem lz13 (N:Nat) (x:Y3×Int):rise (Ez13) Tz13 6 N Tryz.f164 [Z10,Z2] [.bool] [false] x=mslices_Contains_int_int N x:=(jz13 N x).trans rfl
def cslices_Contains_int_int (x:Y3×Int):Option (Bool):=mslices_Contains_int_int big x
def Gz13:Fn2:=⟨[Z10,Z2],[.bool],[false],fun x=>cslices_Contains_int_int x⟩
theorem Lz13:Rises Tryz.prog 164 Gz13:=rises_of (E:=Ez13) ⟨tabOk,(fsCons2 Lz12 fsNil2),fun _ _ _=>rfl,mixed,inlNil,rcsNil,owsNil⟩ Tryz.func164 rfl (by decide) (by kernel_rfl) (by kernel_rfl) (by kernel_rfl) (by kernel_rfl) (fun x r _ h=>⟨Tz13,6,big,(lz13 big x).trans h⟩)
def Tz14:LT:={ live:=[(4,[0,8,9,10])],keep:=[] }
noncomputable def Ez14:Env2:={ tab:=tab,fs:=[(163,Gz9),(164,Gz13),(165,Gz11)],inl:=[] }
noncomputable def ez14_0 (v:Y6×Y6×Int×Int):St:={ s:=[(0,(.val ⟨Z11,v.1⟩)),(8,(.val ⟨Z11,v.2.1⟩)),(9,(.val ⟨Z2,v.2.2.1⟩)),(10,(.val ⟨Z2,v.2.2.2⟩))],l:=[],k:=[],b:=4096 }
def hkinds_Check_0 (self0:Y6×Y6×Int×Int→Option (Int)) (v:Y6×Y6×Int×Int):Option (Int):=
 (bif (decide (v.2.2.2 < v.2.2.1)) then ((getI v.2.1 v.2.2.2).bind fun x1=>((ckinds_isBuilt (x1,v.2.2.2,(List.length v.1:Int))).bind fun x2=>(bif (!x2) then (some (8:Int)) else (let x3:Int:=(IntKind.i64.wrap (v.2.2.2+(1:Int)));(self0 (v.1,v.2.1,v.2.2.1,x3)))))) else ((ckinds_widths v.1).bind fun x4=>((cslices_Contains_int_int (x4,(5001:Int))).bind fun x5=>(bif x5 then (some (8:Int)) else (some (0:Int))))))
def gkinds_Check_0 (N:Nat) (self0:Y6×Y6×Int×Int→Option (Int)) (v:Y6×Y6×Int×Int):Option (Int):=hkinds_Check_0 self0 v
theorem kz14_0 (N:Nat) (s0:St→Option (Int)) (v):(floc (Ez14) Tz14 6 N Tryz.f149 [Z2] [false] [] 0 nowhereR) s0 (ez14_0 v)=hkinds_Check_0 (fun v=>s0 (ez14_0 v)) v:=by kernel_rfl
theorem bz14_0 (N:Nat) (s0:St→Option (Int)) (v):(floc (Ez14) Tz14 6 N Tryz.f149 [Z2] [false] [] 0 nowhereR) s0 (ez14_0 v)=gkinds_Check_0 N (fun v=>s0 (ez14_0 v)) v:=kz14_0 N s0 v
def nkinds_Check (loop0:Y6×Y6×Int×Int→Option (Int)) (x:Y6):Option (Int):=
 (bif (decide ((List.length x:Int) > (32:Int))) then (some (8:Int)) else (loop0 (x,x,(List.length x:Int),(0:Int))))
def mkinds_Check (N:Nat) (x:Y6):Option (Int):=nkinds_Check (iterV (gkinds_Check_0 N) N) x
theorem jz14 (N:Nat) (x:Y6):rise (Ez14) Tz14 6 N Tryz.f149 [Z11] [Z2] [false] x=nkinds_Check (fun v=>iterR (floc (Ez14) Tz14 6 N Tryz.f149 [Z2] [false] [] 0 nowhereR) N (ez14_0 v)) x:=by kernel_rfl
theorem lz14 (N:Nat) (x:Y6):rise (Ez14) Tz14 6 N Tryz.f149 [Z11] [Z2] [false] x=mkinds_Check N x:=(jz14 N x).trans (by rw [funext (iterR_eq ez14_0 (bz14_0 N) N)];rfl)
def ckinds_Check (x:Y6):Option (Int):=mkinds_Check big x
def Gz14:Fn2:=⟨[Z11],[Z2],[false],fun x=>ckinds_Check x⟩
theorem Lz14:Rises Tryz.prog 149 Gz14:=rises_of (E:=Ez14) ⟨tabOk,(fsCons2 Lz9 (fsCons2 Lz13 (fsCons2 Lz11 fsNil2))),fun _ _ _=>rfl,mixed,inlNil,rcsNil,owsNil⟩ Tryz.func149 rfl (by decide) (by kernel_rfl) (by kernel_rfl) (by kernel_rfl) (by kernel_rfl) (fun x r _ h=>⟨Tz14,6,big,(lz14 big x).trans h⟩)
def Tz15:LT:={ live:=[],keep:=[] }
noncomputable def Ez15:Env2:={ tab:=tab,fs:=[],inl:=[] }
def nlayout_isIndex (x:Int×Int):Option (Bool):=
 (bif (decide (x.1≥(0:Int))) then (some (decide (x.1 < x.2))) else (some false))
def mlayout_isIndex (N:Nat) (x:Int×Int):Option (Bool):=nlayout_isIndex x
theorem jz15 (N:Nat) (x:Int×Int):rise (Ez15) Tz15 6 N Tryz.f150 [Z2,Z2] [.bool] [false] x=nlayout_isIndex x:=by kernel_rfl
theorem lz15 (N:Nat) (x:Int×Int):rise (Ez15) Tz15 6 N Tryz.f150 [Z2,Z2] [.bool] [false] x=mlayout_isIndex N x:=(jz15 N x).trans rfl
def clayout_isIndex (x:Int×Int):Option (Bool):=mlayout_isIndex big x
def Gz15:Fn2:=⟨[Z2,Z2],[.bool],[false],fun x=>clayout_isIndex x⟩
theorem Lz15:Rises Tryz.prog 150 Gz15:=rises_of (E:=Ez15) ⟨tabOk,fsNil2,fun _ _ _=>rfl,mixed,inlNil,rcsNil,owsNil⟩ Tryz.func150 rfl (by decide) (by kernel_rfl) (by kernel_rfl) (by kernel_rfl) (by kernel_rfl) (fun x r _ h=>⟨Tz15,6,big,(lz15 big x).trans h⟩)
def Tz16:LT:={ live:=[],keep:=[] }
noncomputable def Ez16:Env2:={ tab:=tab,fs:=[],inl:=[] }
def nlayout_multiple (x:Int×Int):Option (Int):=
 (let x1:Int:=(IntKind.i64.wrap (x.1+x.2));(let x2:Int:=(IntKind.i64.wrap (x1 - (1:Int)));(bif (x.2==0) then none else (let x3:Int:=(IntKind.i64.wrap (x2.tdiv x.2));(let x4:Int:=(IntKind.i64.wrap (x3 * x.2));(some x4))))))
def mlayout_multiple (N:Nat) (x:Int×Int):Option (Int):=nlayout_multiple x
theorem jz16 (N:Nat) (x:Int×Int):rise (Ez16) Tz16 6 N Tryz.f173 [Z2,Z2] [Z2] [false] x=nlayout_multiple x:=by kernel_rfl
theorem lz16 (N:Nat) (x:Int×Int):rise (Ez16) Tz16 6 N Tryz.f173 [Z2,Z2] [Z2] [false] x=mlayout_multiple N x:=(jz16 N x).trans rfl
def clayout_multiple (x:Int×Int):Option (Int):=mlayout_multiple big x
def Gz16:Fn2:=⟨[Z2,Z2],[Z2],[false],fun x=>clayout_multiple x⟩
theorem Lz16:Rises Tryz.prog 173 Gz16:=rises_of (E:=Ez16) ⟨tabOk,fsNil2,fun _ _ _=>rfl,mixed,inlNil,rcsNil,owsNil⟩ Tryz.func173 rfl (by decide) (by kernel_rfl) (by kernel_rfl) (by kernel_rfl) (by kernel_rfl) (fun x r _ h=>⟨Tz16,6,big,(lz16 big x).trans h⟩)
def Tz17:LT:={ live:=[(4,[0,5,6,7,15,16,17])],keep:=[] }
noncomputable def Ez17 (mk:(α:Type)→Nat→α→List α):Env2:={ tab:=tab,fs:=[(173,Gz16)],inl:=[],rep:=mk }
noncomputable def ez17_0 (v:Y8×Y5×Int×Int×Y4×Y3×Y4):St:={ s:=[(0,(.val ⟨(.slice Z8),v.1⟩)),(5,(.loc 0 [])),(6,(.row 1)),(7,(.loc 2 [])),(15,(.val ⟨Z6,v.2.1⟩)),(16,(.val ⟨Z2,v.2.2.1⟩)),(17,(.val ⟨Z2,v.2.2.2.1⟩))],l:=[(0,.var Z8 (.val ⟨Z8,v.2.2.2.2.1⟩)),(1,.row Z2 v.2.2.2.2.2.1),(2,.var Z8 (.val ⟨Z8,v.2.2.2.2.2.2⟩))],k:=[],b:=4096 }
def hlayout_together_0 (mk:(α:Type)→Nat→α→List α) (self0:Y8×Y5×Int×Int×Y4×Y3×Y4→Option (Y3×Y4)) (v:Y8×Y5×Int×Int×Y4×Y3×Y4):Option (Y3×Y4):=
 (bif (decide (v.2.2.2.1 < v.2.2.1)) then ((getI v.2.1 v.2.2.2.1).bind fun x3=>((getI v.1 x3.2.1).bind fun x4=>((clayout_multiple (v.2.2.2.2.2.2.1,x4.2.1)).bind fun x5=>(bif (decide (0≤v.2.2.2.1)&&decide (v.2.2.2.1 < (List.length v.2.2.2.2.2.1:Int))) then (let x6:Y3:=(List.set v.2.2.2.2.2.1 (Int.toNat v.2.2.2.1) x5);(bif (decide (0≤v.2.2.2.1)&&decide (v.2.2.2.1 < (List.length x6:Int))) then ((nth x6 (Int.toNat v.2.2.2.1)).bind fun x7=>(let x8:Int:=(IntKind.i64.wrap (x7+x4.1));(let x9:Int:=(if x4.2.1 > (x8,v.2.2.2.2.2.2.2).2.1 then x4.2.1 else (x8,v.2.2.2.2.2.2.2).2.1);(let x10:Y4:=((x8,v.2.2.2.2.2.2.2).1,(x9,(x8,v.2.2.2.2.2.2.2).2.2));(let x11:Int:=(IntKind.i64.wrap (v.2.2.2.1+(1:Int)));(self0 (v.1,v.2.1,v.2.2.1,x11,v.2.2.2.2.1,x6,x10))))))) else none)) else none)))) else ((clayout_multiple (v.2.2.2.2.2.2.1,v.2.2.2.2.2.2.2.1)).bind fun x12=>(some (v.2.2.2.2.2.1,(x12,v.2.2.2.2.2.2.2)))))
def glayout_together_0 (mk:(α:Type)→Nat→α→List α) (N:Nat) (self0:Y8×Y5×Int×Int×Y4×Y3×Y4→Option (Y3×Y4)) (v:Y8×Y5×Int×Int×Y4×Y3×Y4):Option (Y3×Y4):=hlayout_together_0 mk self0 v
theorem kz17_0 (mk:(α:Type)→Nat→α→List α) (N:Nat) (s0:St→Option (Y3×Y4)) (v):(floc (Ez17 mk) Tz17 6 N Tryz.f172 [Z10,Z8] [true,false] [] 0 nowhereR) s0 (ez17_0 v)=hlayout_together_0 mk (fun v=>s0 (ez17_0 v)) v:=by kernel_rfl
theorem bz17_0 (mk:(α:Type)→Nat→α→List α) (N:Nat) (s0:St→Option (Y3×Y4)) (v):(floc (Ez17 mk) Tz17 6 N Tryz.f172 [Z10,Z8] [true,false] [] 0 nowhereR) s0 (ez17_0 v)=glayout_together_0 mk N (fun v=>s0 (ez17_0 v)) v:=kz17_0 mk N s0 v
def nlayout_together (mk:(α:Type)→Nat→α→List α) (loop0:Y8×Y5×Int×Int×Y4×Y3×Y4→Option (Y3×Y4)) (x:Y8×Y5):Option (Y3×Y4):=
 (bif (decide (0≤(List.length x.2:Int))&&(decide ((List.length x.2:Int)≤(List.length x.2:Int))&&(decide ((List.length x.2:Int)≤68719476736)&&true))) then (let x1:Y3:=(mk Int (Int.toNat (List.length x.2:Int)) (0:Int));(let x2:Y4:=((0:Int),((1:Int),()));(loop0 (x.1,x.2,(List.length x.2:Int),(0:Int),((0:Int),((0:Int),())),x1,x2)))) else none)
def mlayout_together (mk:(α:Type)→Nat→α→List α) (N:Nat) (x:Y8×Y5):Option (Y3×Y4):=nlayout_together mk (iterV (glayout_together_0 mk N) N) x
theorem jz17 (mk:(α:Type)→Nat→α→List α) (N:Nat) (x:Y8×Y5):rise (Ez17 mk) Tz17 6 N Tryz.f172 [(.slice Z8),Z6] [Z10,Z8] [true,false] x=nlayout_together mk (fun v=>iterR (floc (Ez17 mk) Tz17 6 N Tryz.f172 [Z10,Z8] [true,false] [] 0 nowhereR) N (ez17_0 v)) x:=by kernel_rfl
theorem lz17 (mk:(α:Type)→Nat→α→List α) (N:Nat) (x:Y8×Y5):rise (Ez17 mk) Tz17 6 N Tryz.f172 [(.slice Z8),Z6] [Z10,Z8] [true,false] x=mlayout_together mk N x:=(jz17 mk N x).trans (by rw [funext (iterR_eq ez17_0 (bz17_0 mk N) N)];rfl)
def clayout_together (x:Y8×Y5):Option (Y3×Y4):=mlayout_together (fun _=>List.replicate) big x
def Gz17:Fn2:=⟨[(.slice Z8),Z6],[Z10,Z8],[true,false],fun x=>clayout_together x⟩
theorem Lz17:Rises Tryz.prog 172 Gz17:=rises_of (E:=Ez17 (fun _=>List.replicate)) ⟨tabOk,(fsCons2 Lz16 fsNil2),fun _ _ _=>rfl,mixed,inlNil,rcsNil,owsNil⟩ Tryz.func172 rfl (by decide) (by kernel_rfl) (by kernel_rfl) (by kernel_rfl) (by kernel_rfl) (fun x r _ h=>⟨Tz17,6,big,(lz17 (fun _=>List.replicate) big x).trans h⟩)
def Tz18:LT:={ live:=[],keep:=[] }
noncomputable def Ez18:Env2:={ tab:=tab,fs:=[(172,Gz17)],inl:=[] }
def nlayout_extentOf (x:Y2×Y8):Option (Y4):=
 (bif (x.1.1==(2:Int)) then (bif (x.1.1==(2:Int)) then (let x1:Y4:=((8:Int),((8:Int),()));(some x1)) else (bif (x.1.1==(3:Int)) then (let x2:Y4:=((16:Int),((8:Int),()));(some x2)) else (bif (x.1.1==(7:Int)) then (let x3:Y4:=((24:Int),((8:Int),()));(some x3)) else (bif (x.1.1==(6:Int)) then ((getI x.2 x.1.2.1).bind fun x4=>(let x5:Int:=(IntKind.i64.wrap (x.1.2.2.1 * x4.1));(some (x5,(x4.2.1,()))))) else (bif (x.1.1==(5:Int)) then ((clayout_together (x.2,x.1.2.2.2.1)).bind fun x6=>(some x6.2)) else (let x7:Y4:=((1:Int),((1:Int),()));(some x7))))))) else (bif (x.1.1==(4:Int)) then (let x8:Y4:=((8:Int),((8:Int),()));(some x8)) else (bif (x.1.1==(3:Int)) then (let x9:Y4:=((16:Int),((8:Int),()));(some x9)) else (bif (x.1.1==(7:Int)) then (let x10:Y4:=((24:Int),((8:Int),()));(some x10)) else (bif (x.1.1==(6:Int)) then ((getI x.2 x.1.2.1).bind fun x11=>(let x12:Int:=(IntKind.i64.wrap (x.1.2.2.1 * x11.1));(some (x12,(x11.2.1,()))))) else (bif (x.1.1==(5:Int)) then ((clayout_together (x.2,x.1.2.2.2.1)).bind fun x13=>(some x13.2)) else (let x14:Y4:=((1:Int),((1:Int),()));(some x14))))))))
def mlayout_extentOf (N:Nat) (x:Y2×Y8):Option (Y4):=nlayout_extentOf x
theorem jz18 (N:Nat) (x:Y2×Y8):rise (Ez18) Tz18 6 N Tryz.f166 [Z1,(.slice Z8)] [Z8] [false] x=nlayout_extentOf x:=by kernel_rfl
theorem lz18 (N:Nat) (x:Y2×Y8):rise (Ez18) Tz18 6 N Tryz.f166 [Z1,(.slice Z8)] [Z8] [false] x=mlayout_extentOf N x:=(jz18 N x).trans rfl
def clayout_extentOf (x:Y2×Y8):Option (Y4):=mlayout_extentOf big x
def Gz18:Fn2:=⟨[Z1,(.slice Z8)],[Z8],[false],fun x=>clayout_extentOf x⟩
theorem Lz18:Rises Tryz.prog 166 Gz18:=rises_of (E:=Ez18) ⟨tabOk,(fsCons2 Lz17 fsNil2),fun _ _ _=>rfl,mixed,inlNil,rcsNil,owsNil⟩ Tryz.func166 rfl (by decide) (by kernel_rfl) (by kernel_rfl) (by kernel_rfl) (by kernel_rfl) (fun x r _ h=>⟨Tz18,6,big,(lz18 big x).trans h⟩)
def Tz19:LT:={ live:=[(3,[3,6,7,8])],keep:=[] }
noncomputable def Ez19:Env2:={ tab:=tab,fs:=[(166,Gz18)],inl:=[] }
noncomputable def ez19_0 (v:Y6×Int×Int×Y8):St:={ s:=[(3,(.row 0)),(6,(.val ⟨Z11,v.1⟩)),(7,(.val ⟨Z2,v.2.1⟩)),(8,(.val ⟨Z2,v.2.2.1⟩))],l:=[(0,.row Z8 v.2.2.2)],k:=[],b:=4096 }
def hlayout_extents_0 (self0:Y6×Int×Int×Y8→Option (Y8)) (v:Y6×Int×Int×Y8):Option (Y8):=
 (bif (decide (v.2.2.1 < v.2.1)) then ((getI v.1 v.2.2.1).bind fun x1=>((clayout_extentOf (x1,v.2.2.2)).bind fun x2=>(let x3:Y8:=([x2]:Y8);(bif (Nat.ble 1 2&&Nat.ble (List.length v.2.2.2+List.length x3) lim) then (let x4:Int:=(IntKind.i64.wrap (v.2.2.1+(1:Int)));(self0 (v.1,v.2.1,x4,(List.append v.2.2.2 x3)))) else none)))) else (some v.2.2.2))
def glayout_extents_0 (N:Nat) (self0:Y6×Int×Int×Y8→Option (Y8)) (v:Y6×Int×Int×Y8):Option (Y8):=hlayout_extents_0 self0 v
theorem kz19_0 (N:Nat) (s0:St→Option (Y8)) (v):(floc (Ez19) Tz19 6 N Tryz.f151 [(.slice Z8)] [true] [] 0 nowhereR) s0 (ez19_0 v)=hlayout_extents_0 (fun v=>s0 (ez19_0 v)) v:=by kernel_rfl
theorem bz19_0 (N:Nat) (s0:St→Option (Y8)) (v):(floc (Ez19) Tz19 6 N Tryz.f151 [(.slice Z8)] [true] [] 0 nowhereR) s0 (ez19_0 v)=glayout_extents_0 N (fun v=>s0 (ez19_0 v)) v:=kz19_0 N s0 v
def nlayout_extents (loop0:Y6×Int×Int×Y8→Option (Y8)) (x:Y6):Option (Y8):=
 (loop0 (x,(List.length x:Int),(0:Int),([]:List Y4)))
def mlayout_extents (N:Nat) (x:Y6):Option (Y8):=nlayout_extents (iterV (glayout_extents_0 N) N) x
theorem jz19 (N:Nat) (x:Y6):rise (Ez19) Tz19 6 N Tryz.f151 [Z11] [(.slice Z8)] [true] x=nlayout_extents (fun v=>iterR (floc (Ez19) Tz19 6 N Tryz.f151 [(.slice Z8)] [true] [] 0 nowhereR) N (ez19_0 v)) x:=by kernel_rfl
theorem lz19 (N:Nat) (x:Y6):rise (Ez19) Tz19 6 N Tryz.f151 [Z11] [(.slice Z8)] [true] x=mlayout_extents N x:=(jz19 N x).trans (by rw [funext (iterR_eq ez19_0 (bz19_0 N) N)];rfl)
def clayout_extents (x:Y6):Option (Y8):=mlayout_extents big x
def Gz19:Fn2:=⟨[Z11],[(.slice Z8)],[true],fun x=>clayout_extents x⟩
theorem Lz19:Rises Tryz.prog 151 Gz19:=rises_of (E:=Ez19) ⟨tabOk,(fsCons2 Lz18 fsNil2),fun _ _ _=>rfl,mixed,inlNil,rcsNil,owsNil⟩ Tryz.func151 rfl (by decide) (by kernel_rfl) (by kernel_rfl) (by kernel_rfl) (by kernel_rfl) (fun x r _ h=>⟨Tz19,6,big,(lz19 big x).trans h⟩)
def Tz20:LT:={ live:=[],keep:=[] }
noncomputable def Ez20:Env2:={ tab:=tab,fs:=[(149,Gz14),(150,Gz15),(151,Gz19)],inl:=[] }
def nlayout_measured (x:Y6×Int):Option (Y8×Int):=
 ((ckinds_Check x.1).bind fun x1=>(bif (x1 != (0:Int)) then (some (([]:List Y4),x1)) else ((clayout_isIndex (x.2,(List.length x.1:Int))).bind fun x2=>(bif (!x2) then (some (([]:List Y4),(2:Int))) else ((clayout_extents x.1).bind fun x3=>(bif (decide (0≤x.2)&&decide (x.2 < (List.length x3:Int))) then ((nth x3 (Int.toNat x.2)).bind fun x4=>(bif (decide (x4.1 > (256:Int))) then (some (([]:List Y4),(16:Int))) else (some (x3,(0:Int))))) else none))))))
def mlayout_measured (N:Nat) (x:Y6×Int):Option (Y8×Int):=nlayout_measured x
theorem jz20 (N:Nat) (x:Y6×Int):rise (Ez20) Tz20 6 N Tryz.f123 [Z11,Z2] [(.slice Z8),Z2] [true,false] x=nlayout_measured x:=by kernel_rfl
theorem lz20 (N:Nat) (x:Y6×Int):rise (Ez20) Tz20 6 N Tryz.f123 [Z11,Z2] [(.slice Z8),Z2] [true,false] x=mlayout_measured N x:=(jz20 N x).trans rfl
def clayout_measured (x:Y6×Int):Option (Y8×Int):=mlayout_measured big x
def Gz20:Fn2:=⟨[Z11,Z2],[(.slice Z8),Z2],[true,false],fun x=>clayout_measured x⟩
theorem Lz20:Rises Tryz.prog 123 Gz20:=rises_of (E:=Ez20) ⟨tabOk,(fsCons2 Lz14 (fsCons2 Lz15 (fsCons2 Lz19 fsNil2))),fun _ _ _=>rfl,mixed,inlNil,rcsNil,owsNil⟩ Tryz.func123 rfl (by decide) (by kernel_rfl) (by kernel_rfl) (by kernel_rfl) (by kernel_rfl) (fun x r _ h=>⟨Tz20,6,big,(lz20 big x).trans h⟩)
def Tz21:LT:={ live:=[],keep:=[] }
noncomputable def Ez21:Env2:={ tab:=tab,fs:=[(123,Gz20)],inl:=[] }
def nlayout_Size (x:Y6×Int):Option (Int×Int×Int):=
 ((clayout_measured (x.1,x.2)).bind fun x1=>(bif (x1.2 != (0:Int)) then (some ((0:Int),(0:Int),x1.2)) else (bif (decide (0≤x.2)&&decide (x.2 < (List.length x1.1:Int))) then ((nth x1.1 (Int.toNat x.2)).bind fun x2=>(bif (decide (0≤x.2)&&decide (x.2 < (List.length x1.1:Int))) then ((nth x1.1 (Int.toNat x.2)).bind fun x3=>(some (x2.1,x3.2.1,(0:Int)))) else none)) else none)))
def mlayout_Size (N:Nat) (x:Y6×Int):Option (Int×Int×Int):=nlayout_Size x
theorem jz21 (N:Nat) (x:Y6×Int):rise (Ez21) Tz21 6 N Tryz.f88 [Z11,Z2] [Z2,Z2,Z2] [false,false,false] x=nlayout_Size x:=by kernel_rfl
theorem lz21 (N:Nat) (x:Y6×Int):rise (Ez21) Tz21 6 N Tryz.f88 [Z11,Z2] [Z2,Z2,Z2] [false,false,false] x=mlayout_Size N x:=(jz21 N x).trans rfl
def clayout_Size (x:Y6×Int):Option (Int×Int×Int):=mlayout_Size big x
def Gz21:Fn2:=⟨[Z11,Z2],[Z2,Z2,Z2],[false,false,false],fun x=>clayout_Size x⟩
theorem Lz21:Rises Tryz.prog 88 Gz21:=rises_of (E:=Ez21) ⟨tabOk,(fsCons2 Lz20 fsNil2),fun _ _ _=>rfl,mixed,inlNil,rcsNil,owsNil⟩ Tryz.func88 rfl (by decide) (by kernel_rfl) (by kernel_rfl) (by kernel_rfl) (by kernel_rfl) (fun x r _ h=>⟨Tz21,6,big,(lz21 big x).trans h⟩)
def Tz22:LT:={ live:=[(2,[0,8,9])],keep:=[] }
noncomputable def Ez22:Env2:={ tab:=tab,fs:=[(88,Gz21)],inl:=[] }
noncomputable def ez22_0 (v:Y6×Int×Int):St:={ s:=[(0,(.val ⟨Z11,v.1⟩)),(8,(.val ⟨Z2,v.2.1⟩)),(9,(.val ⟨Z2,v.2.2⟩))],l:=[],k:=[],b:=4096 }
def himage_areTypes_0 (self0:Y6×Int×Int→Option (Bool)) (v:Y6×Int×Int):Option (Bool):=
 (bif (decide (v.2.2 < v.2.1)) then ((clayout_Size (v.1,v.2.2)).bind fun x1=>(bif (x1.2.2 != (0:Int)) then (some false) else (let x2:Int:=(IntKind.i64.wrap (v.2.2+(1:Int)));(self0 (v.1,v.2.1,x2))))) else (some true))
def gimage_areTypes_0 (N:Nat) (self0:Y6×Int×Int→Option (Bool)) (v:Y6×Int×Int):Option (Bool):=himage_areTypes_0 self0 v
theorem kz22_0 (N:Nat) (s0:St→Option (Bool)) (v):(floc (Ez22) Tz22 6 N Tryz.f49 [.bool] [false] [] 0 nowhereR) s0 (ez22_0 v)=himage_areTypes_0 (fun v=>s0 (ez22_0 v)) v:=by kernel_rfl
theorem bz22_0 (N:Nat) (s0:St→Option (Bool)) (v):(floc (Ez22) Tz22 6 N Tryz.f49 [.bool] [false] [] 0 nowhereR) s0 (ez22_0 v)=gimage_areTypes_0 N (fun v=>s0 (ez22_0 v)) v:=kz22_0 N s0 v
def nimage_areTypes (loop0:Y6×Int×Int→Option (Bool)) (x:Y6):Option (Bool):=
 (loop0 (x,(List.length x:Int),(0:Int)))
def mimage_areTypes (N:Nat) (x:Y6):Option (Bool):=nimage_areTypes (iterV (gimage_areTypes_0 N) N) x
theorem jz22 (N:Nat) (x:Y6):rise (Ez22) Tz22 6 N Tryz.f49 [Z11] [.bool] [false] x=nimage_areTypes (fun v=>iterR (floc (Ez22) Tz22 6 N Tryz.f49 [.bool] [false] [] 0 nowhereR) N (ez22_0 v)) x:=by kernel_rfl
theorem lz22 (N:Nat) (x:Y6):rise (Ez22) Tz22 6 N Tryz.f49 [Z11] [.bool] [false] x=mimage_areTypes N x:=(jz22 N x).trans (by rw [funext (iterR_eq ez22_0 (bz22_0 N) N)];rfl)
def cimage_areTypes (x:Y6):Option (Bool):=mimage_areTypes big x
def Gz22:Fn2:=⟨[Z11],[.bool],[false],fun x=>cimage_areTypes x⟩
theorem Lz22:Rises Tryz.prog 49 Gz22:=rises_of (E:=Ez22) ⟨tabOk,(fsCons2 Lz21 fsNil2),fun _ _ _=>rfl,mixed,inlNil,rcsNil,owsNil⟩ Tryz.func49 rfl (by decide) (by kernel_rfl) (by kernel_rfl) (by kernel_rfl) (by kernel_rfl) (fun x r _ h=>⟨Tz22,6,big,(lz22 big x).trans h⟩)
def Tz23:LT:={ live:=[(4,[8,9,10])],keep:=[] }
noncomputable def Ez23:Env2:={ tab:=tab,fs:=[],inl:=[] }
noncomputable def ez23_0 (v:Y9×Int×Int):St:={ s:=[(8,(.val ⟨(.slice .str),v.1⟩)),(9,(.val ⟨Z2,v.2.1⟩)),(10,(.val ⟨Z2,v.2.2⟩))],l:=[],k:=[],b:=4096 }
def himage_areTexts_0 (self0:Y9×Int×Int→Option (Bool)) (v:Y9×Int×Int):Option (Bool):=
 (bif (decide (v.2.2 < v.2.1)) then ((getI v.1 v.2.2).bind fun x1=>(bif (decide ((List.length x1:Int) > (64:Int))) then (some false) else (let x2:Int:=(IntKind.i64.wrap (v.2.2+(1:Int)));(self0 (v.1,v.2.1,x2))))) else (some true))
def gimage_areTexts_0 (N:Nat) (self0:Y9×Int×Int→Option (Bool)) (v:Y9×Int×Int):Option (Bool):=himage_areTexts_0 self0 v
theorem kz23_0 (N:Nat) (s0:St→Option (Bool)) (v):(floc (Ez23) Tz23 6 N Tryz.f50 [.bool] [false] [] 0 nowhereR) s0 (ez23_0 v)=himage_areTexts_0 (fun v=>s0 (ez23_0 v)) v:=by kernel_rfl
theorem bz23_0 (N:Nat) (s0:St→Option (Bool)) (v):(floc (Ez23) Tz23 6 N Tryz.f50 [.bool] [false] [] 0 nowhereR) s0 (ez23_0 v)=gimage_areTexts_0 N (fun v=>s0 (ez23_0 v)) v:=kz23_0 N s0 v
def nimage_areTexts (loop0:Y9×Int×Int→Option (Bool)) (x:Y9):Option (Bool):=
 (bif (decide ((List.length x:Int) > (32:Int))) then (some false) else (loop0 (x,(List.length x:Int),(0:Int))))
def mimage_areTexts (N:Nat) (x:Y9):Option (Bool):=nimage_areTexts (iterV (gimage_areTexts_0 N) N) x
theorem jz23 (N:Nat) (x:Y9):rise (Ez23) Tz23 6 N Tryz.f50 [(.slice .str)] [.bool] [false] x=nimage_areTexts (fun v=>iterR (floc (Ez23) Tz23 6 N Tryz.f50 [.bool] [false] [] 0 nowhereR) N (ez23_0 v)) x:=by kernel_rfl
theorem lz23 (N:Nat) (x:Y9):rise (Ez23) Tz23 6 N Tryz.f50 [(.slice .str)] [.bool] [false] x=mimage_areTexts N x:=(jz23 N x).trans (by rw [funext (iterR_eq ez23_0 (bz23_0 N) N)];rfl)
def cimage_areTexts (x:Y9):Option (Bool):=mimage_areTexts big x
def Gz23:Fn2:=⟨[(.slice .str)],[.bool],[false],fun x=>cimage_areTexts x⟩
theorem Lz23:Rises Tryz.prog 50 Gz23:=rises_of (E:=Ez23) ⟨tabOk,fsNil2,fun _ _ _=>rfl,mixed,inlNil,rcsNil,owsNil⟩ Tryz.func50 rfl (by decide) (by kernel_rfl) (by kernel_rfl) (by kernel_rfl) (by kernel_rfl) (fun x r _ h=>⟨Tz23,6,big,(lz23 big x).trans h⟩)
def Tz24:LT:={ live:=[],keep:=[] }
noncomputable def Ez24:Env2:={ tab:=tab,fs:=[],inl:=[] }
def nimage_isIndex (x:Int×Int):Option (Bool):=
 (bif (decide (x.1≥(0:Int))) then (some (decide (x.1 < x.2))) else (some false))
def mimage_isIndex (N:Nat) (x:Int×Int):Option (Bool):=nimage_isIndex x
theorem jz24 (N:Nat) (x:Int×Int):rise (Ez24) Tz24 6 N Tryz.f27 [Z2,Z2] [.bool] [false] x=nimage_isIndex x:=by kernel_rfl
theorem lz24 (N:Nat) (x:Int×Int):rise (Ez24) Tz24 6 N Tryz.f27 [Z2,Z2] [.bool] [false] x=mimage_isIndex N x:=(jz24 N x).trans rfl
def cimage_isIndex (x:Int×Int):Option (Bool):=mimage_isIndex big x
def Gz24:Fn2:=⟨[Z2,Z2],[.bool],[false],fun x=>cimage_isIndex x⟩
theorem Lz24:Rises Tryz.prog 27 Gz24:=rises_of (E:=Ez24) ⟨tabOk,fsNil2,fun _ _ _=>rfl,mixed,inlNil,rcsNil,owsNil⟩ Tryz.func27 rfl (by decide) (by kernel_rfl) (by kernel_rfl) (by kernel_rfl) (by kernel_rfl) (fun x r _ h=>⟨Tz24,6,big,(lz24 big x).trans h⟩)
def Tz25:LT:={ live:=[(3,[1,5,10,11,12])],keep:=[] }
def Tz26:LT:={ live:=[],keep:=[] }
noncomputable def Ez26:Env2:={ tab:=tab,fs:=[],inl:=[] }
def nimage_areSlots_1 (x:(Y3×(Int×Unit))):Option (Y3):=
 (some x.1)
def mimage_areSlots_1 (N:Nat) (x:(Y3×(Int×Unit))):Option (Y3):=nimage_areSlots_1 x
theorem jz26 (N:Nat) (x:(Y3×(Int×Unit))):rise (Ez26) Tz26 6 N Tryz.f153 [(.pair .str (.pair Z2 .unit))] [.str] [false] x=nimage_areSlots_1 x:=by kernel_rfl
theorem lz26 (N:Nat) (x:(Y3×(Int×Unit))):rise (Ez26) Tz26 6 N Tryz.f153 [(.pair .str (.pair Z2 .unit))] [.str] [false] x=mimage_areSlots_1 N x:=(jz26 N x).trans rfl
def cimage_areSlots_1 (x:(Y3×(Int×Unit))):Option (Y3):=mimage_areSlots_1 big x
def Gz26:Fn2:=⟨[(.pair .str (.pair Z2 .unit))],[.str],[false],fun x=>cimage_areSlots_1 x⟩
theorem Lz26:Rises Tryz.prog 153 Gz26:=rises_of (E:=Ez26) ⟨tabOk,fsNil2,fun _ _ _=>rfl,mixed,inlNil,rcsNil,owsNil⟩ Tryz.func153 rfl (by decide) (by kernel_rfl) (by kernel_rfl) (by kernel_rfl) (by kernel_rfl) (fun x r _ h=>⟨Tz26,6,big,(lz26 big x).trans h⟩)
def Tz27:LT:={ live:=[(4,[0,1,10,11,12])],keep:=[(23,[])] }
noncomputable def Ez27:Env2:={ tab:=tab,fs:=[(27,Gz24),(127,Gz7),(153,Gz26)],inl:=[(152,Tryz.f152,Tz25)] }
noncomputable def ez26 (v:Y5×Int×Int×(List (Y3×Bool))):St:={ s:=[(1,(.clo 153 .unit)),(5,(.mp 0)),(10,(.val ⟨Z6,v.1⟩)),(11,(.val ⟨Z2,v.2.1⟩)),(12,(.val ⟨Z2,v.2.2.1⟩))],l:=[(0,.mp .str .bool v.2.2.2)],k:=[(4096,[])],b:=16875520 }
noncomputable def ez27_0 (v:Y5×Int×Y5×Int×Int):St:={ s:=[(0,(.val ⟨Z6,v.1⟩)),(1,(.val ⟨Z2,v.2.1⟩)),(10,(.val ⟨Z6,v.2.2.1⟩)),(11,(.val ⟨Z2,v.2.2.2.1⟩)),(12,(.val ⟨Z2,v.2.2.2.2⟩))],l:=[],k:=[],b:=4096 }
def himage_areSlots_1 (self0:Y5×Int×Y5×Int×Int→Option (Bool)) (self1:Y5×Int×Int×(List (Y3×Bool))→Option (Bool)) (v:Y5×Int×Int×(List (Y3×Bool))):Option (Bool):=
 (bif (decide (v.2.2.1 < v.2.1)) then ((getI v.1 v.2.2.1).bind fun x4=>((cimage_areSlots_1 x4).bind fun x5=>((ckinds_Named x5).bind fun x6=>(bif (!x6) then (some false) else (bif (@atK .str .bool x5 false v.2.2.2).1 then (some false) else (let x7:(List (Y3×Bool)):=(@putK .str .bool x5 true v.2.2.2);(let x8:Int:=(IntKind.i64.wrap (v.2.2.1+(1:Int)));(self1 (v.1,v.2.1,x8,x7))))))))) else (some true))
def gimage_areSlots_1 (N:Nat) (self0:Y5×Int×Y5×Int×Int→Option (Bool)) (self1:Y5×Int×Int×(List (Y3×Bool))→Option (Bool)) (v:Y5×Int×Int×(List (Y3×Bool))):Option (Bool):=himage_areSlots_1 self0 self1 v
theorem kz26 (N:Nat) (s0:St→Option (Bool)) (s1:St→Option (Bool)) (v):(floc (Ez27) Tz27 6 N Tryz.f124 [.bool] [false] [.call 9 1 152] 0 nowhereR) s1 (ez26 v)=himage_areSlots_1 (fun v=>s0 (ez27_0 v)) (fun v=>s1 (ez26 v)) v:=by kernel_rfl
theorem bz26 (N:Nat) (s0:St→Option (Bool)) (s1:St→Option (Bool)) (v):(floc (Ez27) Tz27 6 N Tryz.f124 [.bool] [false] [.call 9 1 152] 0 nowhereR) s1 (ez26 v)=gimage_areSlots_1 N (fun v=>s0 (ez27_0 v)) (fun v=>s1 (ez26 v)) v:=kz26 N s0 s1 v
def himage_areSlots_0 (loop1:Y5×Int×Int×(List (Y3×Bool))→Option (Bool)) (self0:Y5×Int×Y5×Int×Int→Option (Bool)) (v:Y5×Int×Y5×Int×Int):Option (Bool):=
 (bif (decide (v.2.2.2.2 < v.2.2.2.1)) then ((getI v.2.2.1 v.2.2.2.2).bind fun x1=>((cimage_isIndex (x1.2.1,v.2.1)).bind fun x2=>(bif (!x2) then (some false) else (let x3:Int:=(IntKind.i64.wrap (v.2.2.2.2+(1:Int)));(self0 (v.1,v.2.1,v.2.2.1,v.2.2.2.1,x3)))))) else (loop1 (v.1,(List.length v.1:Int),(0:Int),([]:List (Y3×Bool)))))
def gimage_areSlots_0 (N:Nat) (self0:Y5×Int×Y5×Int×Int→Option (Bool)) (v:Y5×Int×Y5×Int×Int):Option (Bool):=himage_areSlots_0 (iterV (gimage_areSlots_1 N self0) N) self0 v
theorem kz27_0 (N:Nat) (s0:St→Option (Bool)) (v):(floc (Ez27) Tz27 6 N Tryz.f124 [.bool] [false] [] 0 nowhereR) s0 (ez27_0 v)=himage_areSlots_0 (fun v=>iterR (floc (Ez27) Tz27 6 N Tryz.f124 [.bool] [false] [.call 9 1 152] 0 nowhereR) N (ez26 v)) (fun v=>s0 (ez27_0 v)) v:=by kernel_rfl
theorem bz27_0 (N:Nat) (s0:St→Option (Bool)) (v):(floc (Ez27) Tz27 6 N Tryz.f124 [.bool] [false] [] 0 nowhereR) s0 (ez27_0 v)=gimage_areSlots_0 N (fun v=>s0 (ez27_0 v)) v:=(kz27_0 N s0 v).trans (by rw [funext (iterR_eq ez26 (bz26 N s0) N)];rfl)
def nimage_areSlots (loop0:Y5×Int×Y5×Int×Int→Option (Bool)) (x:Y5×Int):Option (Bool):=
 (bif (decide ((List.length x.1:Int) > (16:Int))) then (some false) else (loop0 (x.1,x.2,x.1,(List.length x.1:Int),(0:Int))))
def mimage_areSlots (N:Nat) (x:Y5×Int):Option (Bool):=nimage_areSlots (iterV (gimage_areSlots_0 N) N) x
theorem jz27 (N:Nat) (x:Y5×Int):rise (Ez27) Tz27 6 N Tryz.f124 [Z6,Z2] [.bool] [false] x=nimage_areSlots (fun v=>iterR (floc (Ez27) Tz27 6 N Tryz.f124 [.bool] [false] [] 0 nowhereR) N (ez27_0 v)) x:=by kernel_rfl
theorem lz27 (N:Nat) (x:Y5×Int):rise (Ez27) Tz27 6 N Tryz.f124 [Z6,Z2] [.bool] [false] x=mimage_areSlots N x:=(jz27 N x).trans (by rw [funext (iterR_eq ez27_0 (bz27_0 N) N)];rfl)
def cimage_areSlots (x:Y5×Int):Option (Bool):=mimage_areSlots big x
def Gz27:Fn2:=⟨[Z6,Z2],[.bool],[false],fun x=>cimage_areSlots x⟩
theorem Lz27:Rises Tryz.prog 124 Gz27:=rises_of (E:=Ez27) ⟨tabOk,(fsCons2 Lz24 (fsCons2 Lz7 (fsCons2 Lz26 fsNil2))),fun _ _ _=>rfl,mixed,(inlCons (inlB_of Tryz.func152 rfl rfl (by kernel_rfl)) inlNil),rcsNil,owsNil⟩ Tryz.func124 rfl (by decide) (by kernel_rfl) (by kernel_rfl) (by kernel_rfl) (by kernel_rfl) (fun x r _ h=>⟨Tz27,6,big,(lz27 big x).trans h⟩)
def Tz28:LT:={ live:=[],keep:=[] }
noncomputable def Ez28:Env2:={ tab:=tab,fs:=[],inl:=[] }
def nops_isOperation (x:Int):Option (Bool):=
 (bif (decide (x≥(1:Int))) then (some (decide (x≤(34:Int)))) else (some false))
def mops_isOperation (N:Nat) (x:Int):Option (Bool):=nops_isOperation x
theorem jz28 (N:Nat) (x:Int):rise (Ez28) Tz28 6 N Tryz.f143 [Z9] [.bool] [false] x=nops_isOperation x:=by kernel_rfl
theorem lz28 (N:Nat) (x:Int):rise (Ez28) Tz28 6 N Tryz.f143 [Z9] [.bool] [false] x=mops_isOperation N x:=(jz28 N x).trans rfl
def cops_isOperation (x:Int):Option (Bool):=mops_isOperation big x
def Gz28:Fn2:=⟨[Z9],[.bool],[false],fun x=>cops_isOperation x⟩
theorem Lz28:Rises Tryz.prog 143 Gz28:=rises_of (E:=Ez28) ⟨tabOk,fsNil2,fun _ _ _=>rfl,mixed,inlNil,rcsNil,owsNil⟩ Tryz.func143 rfl (by decide) (by kernel_rfl) (by kernel_rfl) (by kernel_rfl) (by kernel_rfl) (fun x r _ h=>⟨Tz28,6,big,(lz28 big x).trans h⟩)
def Tz29:LT:={ live:=[],keep:=[] }
noncomputable def Ez29:Env2:={ tab:=tab,fs:=[],inl:=[] }
def nops_operands (x:Y7):Option (Y3):=
 (let x1:Y3:=[x.2.1,x.2.2.1,x.2.2.2.1];(some x1))
def mops_operands (N:Nat) (x:Y7):Option (Y3):=nops_operands x
theorem jz29 (N:Nat) (x:Y7):rise (Ez29) Tz29 6 N Tryz.f161 [Z4] [(.arr 3 Z2)] [false] x=nops_operands x:=by kernel_rfl
theorem lz29 (N:Nat) (x:Y7):rise (Ez29) Tz29 6 N Tryz.f161 [Z4] [(.arr 3 Z2)] [false] x=mops_operands N x:=(jz29 N x).trans rfl
def cops_operands (x:Y7):Option (Y3):=mops_operands big x
def Gz29:Fn2:=⟨[Z4],[(.arr 3 Z2)],[false],fun x=>cops_operands x⟩
theorem Lz29:Rises Tryz.prog 161 Gz29:=rises_of (E:=Ez29) ⟨tabOk,fsNil2,fun _ _ _=>rfl,mixed,inlNil,rcsNil,owsNil⟩ Tryz.func161 rfl (by decide) (by kernel_rfl) (by kernel_rfl) (by kernel_rfl) (by kernel_rfl) (fun x r _ h=>⟨Tz29,6,big,(lz29 big x).trans h⟩)
def Tz30:LT:={ live:=[],keep:=[] }
noncomputable def Ez30:Env2:={ tab:=tab,fs:=[],inl:=[] }
def nops_isIndex (x:Int×Int):Option (Bool):=
 (bif (decide (x.1≥(0:Int))) then (some (decide (x.1 < x.2))) else (some false))
def mops_isIndex (N:Nat) (x:Int×Int):Option (Bool):=nops_isIndex x
theorem jz30 (N:Nat) (x:Int×Int):rise (Ez30) Tz30 6 N Tryz.f167 [Z2,Z2] [.bool] [false] x=nops_isIndex x:=by kernel_rfl
theorem lz30 (N:Nat) (x:Int×Int):rise (Ez30) Tz30 6 N Tryz.f167 [Z2,Z2] [.bool] [false] x=mops_isIndex N x:=(jz30 N x).trans rfl
def cops_isIndex (x:Int×Int):Option (Bool):=mops_isIndex big x
def Gz30:Fn2:=⟨[Z2,Z2],[.bool],[false],fun x=>cops_isIndex x⟩
theorem Lz30:Rises Tryz.prog 167 Gz30:=rises_of (E:=Ez30) ⟨tabOk,fsNil2,fun _ _ _=>rfl,mixed,inlNil,rcsNil,owsNil⟩ Tryz.func167 rfl (by decide) (by kernel_rfl) (by kernel_rfl) (by kernel_rfl) (by kernel_rfl) (fun x r _ h=>⟨Tz30,6,big,(lz30 big x).trans h⟩)
def Tz31:LT:={ live:=[],keep:=[] }
noncomputable def Ez31:Env2:={ tab:=tab,fs:=[(167,Gz30)],inl:=[] }
def nops_fits (x:Int×Int):Option (Bool):=
 (bif (x.1==(5:Int)) then (some true) else (bif (x.1==(3:Int)) then (bif (x.1==(3:Int)) then (bif (x.2==(-1:Int)) then (some true) else ((cops_isIndex (x.2,(16:Int))).bind fun x1=>(some x1))) else (bif (x.1==(1:Int)) then (bif (x.1==(1:Int)) then ((cops_isIndex (x.2,(16:Int))).bind fun x2=>(some x2)) else (bif (x.1==(6:Int)) then ((cops_isIndex (x.2,(2:Int))).bind fun x3=>(some x3)) else (bif (x.1==(7:Int)) then ((cops_isIndex (x.2,(32:Int))).bind fun x4=>(some x4)) else (bif (x.1==(8:Int)) then ((cops_isIndex (x.2,(8:Int))).bind fun x5=>(some x5)) else (bif (x.1==(9:Int)) then ((cops_isIndex (x.2,(32:Int))).bind fun x6=>(some x6)) else (bif (x.1==(10:Int)) then ((cops_isIndex (x.2,(200:Int))).bind fun x7=>(some x7)) else (some (x.2==(0:Int))))))))) else (bif (x.1==(2:Int)) then ((cops_isIndex (x.2,(16:Int))).bind fun x8=>(some x8)) else (bif (x.1==(6:Int)) then ((cops_isIndex (x.2,(2:Int))).bind fun x9=>(some x9)) else (bif (x.1==(7:Int)) then ((cops_isIndex (x.2,(32:Int))).bind fun x10=>(some x10)) else (bif (x.1==(8:Int)) then ((cops_isIndex (x.2,(8:Int))).bind fun x11=>(some x11)) else (bif (x.1==(9:Int)) then ((cops_isIndex (x.2,(32:Int))).bind fun x12=>(some x12)) else (bif (x.1==(10:Int)) then ((cops_isIndex (x.2,(200:Int))).bind fun x13=>(some x13)) else (some (x.2==(0:Int))))))))))) else (bif (x.1==(4:Int)) then (bif (x.2==(-1:Int)) then (some true) else ((cops_isIndex (x.2,(16:Int))).bind fun x14=>(some x14))) else (bif (x.1==(1:Int)) then (bif (x.1==(1:Int)) then ((cops_isIndex (x.2,(16:Int))).bind fun x15=>(some x15)) else (bif (x.1==(6:Int)) then ((cops_isIndex (x.2,(2:Int))).bind fun x16=>(some x16)) else (bif (x.1==(7:Int)) then ((cops_isIndex (x.2,(32:Int))).bind fun x17=>(some x17)) else (bif (x.1==(8:Int)) then ((cops_isIndex (x.2,(8:Int))).bind fun x18=>(some x18)) else (bif (x.1==(9:Int)) then ((cops_isIndex (x.2,(32:Int))).bind fun x19=>(some x19)) else (bif (x.1==(10:Int)) then ((cops_isIndex (x.2,(200:Int))).bind fun x20=>(some x20)) else (some (x.2==(0:Int))))))))) else (bif (x.1==(2:Int)) then ((cops_isIndex (x.2,(16:Int))).bind fun x21=>(some x21)) else (bif (x.1==(6:Int)) then ((cops_isIndex (x.2,(2:Int))).bind fun x22=>(some x22)) else (bif (x.1==(7:Int)) then ((cops_isIndex (x.2,(32:Int))).bind fun x23=>(some x23)) else (bif (x.1==(8:Int)) then ((cops_isIndex (x.2,(8:Int))).bind fun x24=>(some x24)) else (bif (x.1==(9:Int)) then ((cops_isIndex (x.2,(32:Int))).bind fun x25=>(some x25)) else (bif (x.1==(10:Int)) then ((cops_isIndex (x.2,(200:Int))).bind fun x26=>(some x26)) else (some (x.2==(0:Int)))))))))))))
def mops_fits (N:Nat) (x:Int×Int):Option (Bool):=nops_fits x
theorem jz31 (N:Nat) (x:Int×Int):rise (Ez31) Tz31 6 N Tryz.f162 [Z9,Z2] [.bool] [false] x=nops_fits x:=by kernel_rfl
theorem lz31 (N:Nat) (x:Int×Int):rise (Ez31) Tz31 6 N Tryz.f162 [Z9,Z2] [.bool] [false] x=mops_fits N x:=(jz31 N x).trans rfl
def cops_fits (x:Int×Int):Option (Bool):=mops_fits big x
def Gz31:Fn2:=⟨[Z9,Z2],[.bool],[false],fun x=>cops_fits x⟩
theorem Lz31:Rises Tryz.prog 162 Gz31:=rises_of (E:=Ez31) ⟨tabOk,(fsCons2 Lz30 fsNil2),fun _ _ _=>rfl,mixed,inlNil,rcsNil,owsNil⟩ Tryz.func162 rfl (by decide) (by kernel_rfl) (by kernel_rfl) (by kernel_rfl) (by kernel_rfl) (fun x r _ h=>⟨Tz31,6,big,(lz31 big x).trans h⟩)
def Tz32:LT:={ live:=[(5,[3,16,17])],keep:=[] }
noncomputable def Ez32:Env2:={ tab:=tab,fs:=[(143,Gz28),(161,Gz29),(162,Gz31)],inl:=[] }
noncomputable def ez32_0 (v:Y3×Int×Y3):St:={ s:=[(3,(.loc 0 [])),(16,(.val ⟨(.arr 3 Z9),v.1⟩)),(17,(.val ⟨Z2,v.2.1⟩))],l:=[(0,.var (.arr 3 Z2) (.val ⟨(.arr 3 Z2),v.2.2⟩))],k:=[],b:=4096 }
def hops_Check_0 (self0:Y3×Int×Y3→Option (Int)) (v:Y3×Int×Y3):Option (Int):=
 (bif (decide (v.2.1 < (3:Int))) then ((getI v.1 v.2.1).bind fun x4=>(bif (decide (0≤v.2.1)&&decide (v.2.1 < (3:Int))) then ((nth v.2.2 (Int.toNat v.2.1)).bind fun x5=>((cops_fits (x4,x5)).bind fun x6=>(bif (!x6) then (some (8:Int)) else (let x7:Int:=(IntKind.i64.wrap (v.2.1+(1:Int)));(self0 (v.1,x7,v.2.2)))))) else none)) else (some (0:Int)))
def gops_Check_0 (N:Nat) (self0:Y3×Int×Y3→Option (Int)) (v:Y3×Int×Y3):Option (Int):=hops_Check_0 self0 v
theorem kz32_0 (N:Nat) (s0:St→Option (Int)) (v):(floc (Ez32) Tz32 6 N Tryz.f145 [Z2] [false] [] 0 nowhereR) s0 (ez32_0 v)=hops_Check_0 (fun v=>s0 (ez32_0 v)) v:=by kernel_rfl
theorem bz32_0 (N:Nat) (s0:St→Option (Int)) (v):(floc (Ez32) Tz32 6 N Tryz.f145 [Z2] [false] [] 0 nowhereR) s0 (ez32_0 v)=gops_Check_0 N (fun v=>s0 (ez32_0 v)) v:=kz32_0 N s0 v
def nops_Check (loop0:Y3×Int×Y3→Option (Int)) (x:Y7):Option (Int):=
 ((cops_isOperation x.1).bind fun x1=>(bif (!x1) then (some (8:Int)) else ((cops_operands x).bind fun x2=>((getI gl0 x.1).bind fun x3=>(loop0 (x3.2.1,(0:Int),x2))))))
def mops_Check (N:Nat) (x:Y7):Option (Int):=nops_Check (iterV (gops_Check_0 N) N) x
theorem jz32 (N:Nat) (x:Y7):rise (Ez32) Tz32 6 N Tryz.f145 [Z4] [Z2] [false] x=nops_Check (fun v=>iterR (floc (Ez32) Tz32 6 N Tryz.f145 [Z2] [false] [] 0 nowhereR) N (ez32_0 v)) x:=by kernel_rfl
theorem lz32 (N:Nat) (x:Y7):rise (Ez32) Tz32 6 N Tryz.f145 [Z4] [Z2] [false] x=mops_Check N x:=(jz32 N x).trans (by rw [funext (iterR_eq ez32_0 (bz32_0 N) N)];rfl)
def cops_Check (x:Y7):Option (Int):=mops_Check big x
def Gz32:Fn2:=⟨[Z4],[Z2],[false],fun x=>cops_Check x⟩
theorem Lz32:Rises Tryz.prog 145 Gz32:=rises_of (E:=Ez32) ⟨tabOk,(fsCons2 Lz28 (fsCons2 Lz29 (fsCons2 Lz31 fsNil2))),fun _ _ _=>rfl,mixed,inlNil,rcsNil,owsNil⟩ Tryz.func145 rfl (by decide) (by kernel_rfl) (by kernel_rfl) (by kernel_rfl) (by kernel_rfl) (fun x r _ h=>⟨Tz32,6,big,(lz32 big x).trans h⟩)
def Tz33:LT:={ live:=[(4,[13,14,15])],keep:=[] }
noncomputable def Ez33:Env2:={ tab:=tab,fs:=[(145,Gz32)],inl:=[] }
noncomputable def ez33_0 (v:(List Y7)×Int×Int):St:={ s:=[(13,(.val ⟨(.slice Z4),v.1⟩)),(14,(.val ⟨Z2,v.2.1⟩)),(15,(.val ⟨Z2,v.2.2⟩))],l:=[],k:=[],b:=4096 }
def himage_isCode_0 (self0:(List Y7)×Int×Int→Option (Bool)) (v:(List Y7)×Int×Int):Option (Bool):=
 (bif (decide (v.2.2 < v.2.1)) then ((getI v.1 v.2.2).bind fun x1=>((cops_Check x1).bind fun x2=>(bif (x2 != (0:Int)) then (some false) else (let x3:Int:=(IntKind.i64.wrap (v.2.2+(1:Int)));(self0 (v.1,v.2.1,x3)))))) else (some true))
def gimage_isCode_0 (N:Nat) (self0:(List Y7)×Int×Int→Option (Bool)) (v:(List Y7)×Int×Int):Option (Bool):=himage_isCode_0 self0 v
theorem kz33_0 (N:Nat) (s0:St→Option (Bool)) (v):(floc (Ez33) Tz33 6 N Tryz.f125 [.bool] [false] [] 0 nowhereR) s0 (ez33_0 v)=himage_isCode_0 (fun v=>s0 (ez33_0 v)) v:=by kernel_rfl
theorem bz33_0 (N:Nat) (s0:St→Option (Bool)) (v):(floc (Ez33) Tz33 6 N Tryz.f125 [.bool] [false] [] 0 nowhereR) s0 (ez33_0 v)=gimage_isCode_0 N (fun v=>s0 (ez33_0 v)) v:=kz33_0 N s0 v
def nimage_isCode (loop0:(List Y7)×Int×Int→Option (Bool)) (x:(List Y7)):Option (Bool):=
 (bif (decide ((List.length x:Int) < (1:Int))) then (some false) else (bif (decide ((List.length x:Int) > (200:Int))) then (some false) else (loop0 (x,(List.length x:Int),(0:Int)))))
def mimage_isCode (N:Nat) (x:(List Y7)):Option (Bool):=nimage_isCode (iterV (gimage_isCode_0 N) N) x
theorem jz33 (N:Nat) (x:(List Y7)):rise (Ez33) Tz33 6 N Tryz.f125 [(.slice Z4)] [.bool] [false] x=nimage_isCode (fun v=>iterR (floc (Ez33) Tz33 6 N Tryz.f125 [.bool] [false] [] 0 nowhereR) N (ez33_0 v)) x:=by kernel_rfl
theorem lz33 (N:Nat) (x:(List Y7)):rise (Ez33) Tz33 6 N Tryz.f125 [(.slice Z4)] [.bool] [false] x=mimage_isCode N x:=(jz33 N x).trans (by rw [funext (iterR_eq ez33_0 (bz33_0 N) N)];rfl)
def cimage_isCode (x:(List Y7)):Option (Bool):=mimage_isCode big x
def Gz33:Fn2:=⟨[(.slice Z4)],[.bool],[false],fun x=>cimage_isCode x⟩
theorem Lz33:Rises Tryz.prog 125 Gz33:=rises_of (E:=Ez33) ⟨tabOk,(fsCons2 Lz32 fsNil2),fun _ _ _=>rfl,mixed,inlNil,rcsNil,owsNil⟩ Tryz.func125 rfl (by decide) (by kernel_rfl) (by kernel_rfl) (by kernel_rfl) (by kernel_rfl) (fun x r _ h=>⟨Tz33,6,big,(lz33 big x).trans h⟩)
def Tz34:LT:={ live:=[],keep:=[] }
noncomputable def Ez34:Env2:={ tab:=tab,fs:=[],inl:=[] }
def ntables_isCount (x:Int):Option (Bool):=
 (bif (decide (x≥(1:Int))) then (some (decide (x≤(200:Int)))) else (some false))
def mtables_isCount (N:Nat) (x:Int):Option (Bool):=ntables_isCount x
theorem jz34 (N:Nat) (x:Int):rise (Ez34) Tz34 6 N Tryz.f147 [Z2] [.bool] [false] x=ntables_isCount x:=by kernel_rfl
theorem lz34 (N:Nat) (x:Int):rise (Ez34) Tz34 6 N Tryz.f147 [Z2] [.bool] [false] x=mtables_isCount N x:=(jz34 N x).trans rfl
def ctables_isCount (x:Int):Option (Bool):=mtables_isCount big x
def Gz34:Fn2:=⟨[Z2],[.bool],[false],fun x=>ctables_isCount x⟩
theorem Lz34:Rises Tryz.prog 147 Gz34:=rises_of (E:=Ez34) ⟨tabOk,fsNil2,fun _ _ _=>rfl,mixed,inlNil,rcsNil,owsNil⟩ Tryz.func147 rfl (by decide) (by kernel_rfl) (by kernel_rfl) (by kernel_rfl) (by kernel_rfl) (fun x r _ h=>⟨Tz34,6,big,(lz34 big x).trans h⟩)
def Tz35:LT:={ live:=[],keep:=[] }
noncomputable def Ez35:Env2:={ tab:=tab,fs:=[],inl:=[] }
def ntables_sameValue (x:Y4×Y4):Option (Bool):=
 (some (eqD Z7 (x.2.1,x.1.2) x.2))
def mtables_sameValue (N:Nat) (x:Y4×Y4):Option (Bool):=ntables_sameValue x
theorem jz35 (N:Nat) (x:Y4×Y4):rise (Ez35) Tz35 6 N Tryz.f154 [Z7,Z7] [.bool] [false] x=ntables_sameValue x:=by kernel_rfl
theorem lz35 (N:Nat) (x:Y4×Y4):rise (Ez35) Tz35 6 N Tryz.f154 [Z7,Z7] [.bool] [false] x=mtables_sameValue N x:=(jz35 N x).trans rfl
def ctables_sameValue (x:Y4×Y4):Option (Bool):=mtables_sameValue big x
def Gz35:Fn2:=⟨[Z7,Z7],[.bool],[false],fun x=>ctables_sameValue x⟩
theorem Lz35:Rises Tryz.prog 154 Gz35:=rises_of (E:=Ez35) ⟨tabOk,fsNil2,fun _ _ _=>rfl,mixed,inlNil,rcsNil,owsNil⟩ Tryz.func154 rfl (by decide) (by kernel_rfl) (by kernel_rfl) (by kernel_rfl) (by kernel_rfl) (fun x r _ h=>⟨Tz35,6,big,(lz35 big x).trans h⟩)
def Tz36:LT:={ live:=[(6,[0,32,33])],keep:=[] }
noncomputable def Ez36:Env2:={ tab:=tab,fs:=[(147,Gz34),(154,Gz35)],inl:=[] }
noncomputable def ez36_0 (v:Y8×Int×Int):St:={ s:=[(0,(.val ⟨(.slice Z7),v.1⟩)),(32,(.val ⟨Z2,v.2.1⟩)),(33,(.val ⟨Z2,v.2.2⟩))],l:=[],k:=[],b:=4096 }
def htables_Check_0 (self0:Y8×Int×Int→Option (Int)) (v:Y8×Int×Int):Option (Int):=
 (bif (decide (v.2.2 < v.2.1)) then ((getI v.1 v.2.2).bind fun x6=>(let x7:Int:=(IntKind.i64.wrap (v.2.2+(1:Int)));((getI v.1 x7).bind fun x8=>(bif (decide (x6.1≥x8.1)) then (some (8:Int)) else ((getI v.1 v.2.2).bind fun x9=>(let x10:Int:=(IntKind.i64.wrap (v.2.2+(1:Int)));((getI v.1 x10).bind fun x11=>((ctables_sameValue (x9,x11)).bind fun x12=>(bif x12 then (some (8:Int)) else (let x13:Int:=(IntKind.i64.wrap (v.2.2+(1:Int)));(self0 (v.1,v.2.1,x13)))))))))))) else (some (0:Int)))
def gtables_Check_0 (N:Nat) (self0:Y8×Int×Int→Option (Int)) (v:Y8×Int×Int):Option (Int):=htables_Check_0 self0 v
theorem kz36_0 (N:Nat) (s0:St→Option (Int)) (v):(floc (Ez36) Tz36 6 N Tryz.f126 [Z2] [false] [] 0 nowhereR) s0 (ez36_0 v)=htables_Check_0 (fun v=>s0 (ez36_0 v)) v:=by kernel_rfl
theorem bz36_0 (N:Nat) (s0:St→Option (Int)) (v):(floc (Ez36) Tz36 6 N Tryz.f126 [Z2] [false] [] 0 nowhereR) s0 (ez36_0 v)=gtables_Check_0 N (fun v=>s0 (ez36_0 v)) v:=kz36_0 N s0 v
def ntables_Check (loop0:Y8×Int×Int→Option (Int)) (x:Y8×Int):Option (Int):=
 ((ctables_isCount x.2).bind fun x1=>(bif (!x1) then (some (2:Int)) else (bif ((List.length x.1:Int)==(0:Int)) then (some (8:Int)) else ((getI x.1 (0:Int)).bind fun x2=>(bif (x2.1 != (0:Int)) then (some (8:Int)) else (let x3:Int:=(IntKind.i64.wrap ((List.length x.1:Int) - (1:Int)));((getI x.1 x3).bind fun x4=>(bif (decide (x4.1≥x.2)) then (some (8:Int)) else (let x5:Int:=(IntKind.i64.wrap ((List.length x.1:Int) - (1:Int)));(loop0 (x.1,x5,(0:Int))))))))))))
def mtables_Check (N:Nat) (x:Y8×Int):Option (Int):=ntables_Check (iterV (gtables_Check_0 N) N) x
theorem jz36 (N:Nat) (x:Y8×Int):rise (Ez36) Tz36 6 N Tryz.f126 [(.slice Z7),Z2] [Z2] [false] x=ntables_Check (fun v=>iterR (floc (Ez36) Tz36 6 N Tryz.f126 [Z2] [false] [] 0 nowhereR) N (ez36_0 v)) x:=by kernel_rfl
theorem lz36 (N:Nat) (x:Y8×Int):rise (Ez36) Tz36 6 N Tryz.f126 [(.slice Z7),Z2] [Z2] [false] x=mtables_Check N x:=(jz36 N x).trans (by rw [funext (iterR_eq ez36_0 (bz36_0 N) N)];rfl)
def ctables_Check (x:Y8×Int):Option (Int):=mtables_Check big x
def Gz36:Fn2:=⟨[(.slice Z7),Z2],[Z2],[false],fun x=>ctables_Check x⟩
theorem Lz36:Rises Tryz.prog 126 Gz36:=rises_of (E:=Ez36) ⟨tabOk,(fsCons2 Lz34 (fsCons2 Lz35 fsNil2)),fun _ _ _=>rfl,mixed,inlNil,rcsNil,owsNil⟩ Tryz.func126 rfl (by decide) (by kernel_rfl) (by kernel_rfl) (by kernel_rfl) (by kernel_rfl) (fun x r _ h=>⟨Tz36,6,big,(lz36 big x).trans h⟩)
def Tz37:LT:={ live:=[],keep:=[] }
noncomputable def Ez37:Env2:={ tab:=tab,fs:=[(27,Gz24),(124,Gz27),(125,Gz33),(126,Gz36)],inl:=[] }
def nimage_isFunc (x:Y1×Int):Option (Bool):=
 ((cimage_areSlots (x.1.2.2.2.1,x.2)).bind fun x1=>(bif (!x1) then (some false) else (bif (decide (x.1.2.1 < (0:Int))) then (some false) else (bif (decide (x.1.2.1 > (List.length x.1.2.2.2.1:Int))) then (some false) else (bif (x.1.2.2.1 != (-1:Int)) then ((cimage_isIndex (x.1.2.2.1,x.2)).bind fun x2=>(bif (!x2) then (some false) else ((cimage_isCode x.1.2.2.2.2.1).bind fun x3=>(bif x3 then ((ctables_Check (x.1.2.2.2.2.2.1,(List.length x.1.2.2.2.2.1:Int))).bind fun x4=>(bif (x4==(0:Int)) then ((ctables_Check (x.1.2.2.2.2.2.2.1,(List.length x.1.2.2.2.2.1:Int))).bind fun x5=>(some (x5==(0:Int)))) else (some false))) else (some false))))) else ((cimage_isCode x.1.2.2.2.2.1).bind fun x6=>(bif x6 then ((ctables_Check (x.1.2.2.2.2.2.1,(List.length x.1.2.2.2.2.1:Int))).bind fun x7=>(bif (x7==(0:Int)) then ((ctables_Check (x.1.2.2.2.2.2.2.1,(List.length x.1.2.2.2.2.1:Int))).bind fun x8=>(some (x8==(0:Int)))) else (some false))) else (some false))))))))
def mimage_isFunc (N:Nat) (x:Y1×Int):Option (Bool):=nimage_isFunc x
theorem jz37 (N:Nat) (x:Y1×Int):rise (Ez37) Tz37 6 N Tryz.f89 [Z0,Z2] [.bool] [false] x=nimage_isFunc x:=by kernel_rfl
theorem lz37 (N:Nat) (x:Y1×Int):rise (Ez37) Tz37 6 N Tryz.f89 [Z0,Z2] [.bool] [false] x=mimage_isFunc N x:=(jz37 N x).trans rfl
def cimage_isFunc (x:Y1×Int):Option (Bool):=mimage_isFunc big x
def Gz37:Fn2:=⟨[Z0,Z2],[.bool],[false],fun x=>cimage_isFunc x⟩
theorem Lz37:Rises Tryz.prog 89 Gz37:=rises_of (E:=Ez37) ⟨tabOk,(fsCons2 Lz24 (fsCons2 Lz27 (fsCons2 Lz33 (fsCons2 Lz36 fsNil2)))),fun _ _ _=>rfl,mixed,inlNil,rcsNil,owsNil⟩ Tryz.func89 rfl (by decide) (by kernel_rfl) (by kernel_rfl) (by kernel_rfl) (by kernel_rfl) (fun x r _ h=>⟨Tz37,6,big,(lz37 big x).trans h⟩)
def Tz38:LT:={ live:=[(3,[1,5,10,11,12])],keep:=[] }
def Tz39:LT:={ live:=[],keep:=[] }
noncomputable def Ez39:Env2:={ tab:=tab,fs:=[],inl:=[] }
def nimage_areFuncs_1 (x:Y1):Option (Y3):=
 (some x.1)
def mimage_areFuncs_1 (N:Nat) (x:Y1):Option (Y3):=nimage_areFuncs_1 x
theorem jz39 (N:Nat) (x:Y1):rise (Ez39) Tz39 6 N Tryz.f91 [Z0] [.str] [false] x=nimage_areFuncs_1 x:=by kernel_rfl
theorem lz39 (N:Nat) (x:Y1):rise (Ez39) Tz39 6 N Tryz.f91 [Z0] [.str] [false] x=mimage_areFuncs_1 N x:=(jz39 N x).trans rfl
def cimage_areFuncs_1 (x:Y1):Option (Y3):=mimage_areFuncs_1 big x
def Gz39:Fn2:=⟨[Z0],[.str],[false],fun x=>cimage_areFuncs_1 x⟩
theorem Lz39:Rises Tryz.prog 91 Gz39:=rises_of (E:=Ez39) ⟨tabOk,fsNil2,fun _ _ _=>rfl,mixed,inlNil,rcsNil,owsNil⟩ Tryz.func91 rfl (by decide) (by kernel_rfl) (by kernel_rfl) (by kernel_rfl) (by kernel_rfl) (fun x r _ h=>⟨Tz39,6,big,(lz39 big x).trans h⟩)
def Tz40:LT:={ live:=[(4,[0,1,15,16,17])],keep:=[(27,[])] }
noncomputable def Ez40:Env2:={ tab:=tab,fs:=[(89,Gz37),(91,Gz39),(127,Gz7)],inl:=[(90,Tryz.f90,Tz38)] }
noncomputable def ez39 (v:(List Y1)×Int×Int×(List (Y3×Bool))):St:={ s:=[(1,(.clo 91 .unit)),(5,(.mp 0)),(10,(.val ⟨(.slice Z0),v.1⟩)),(11,(.val ⟨Z2,v.2.1⟩)),(12,(.val ⟨Z2,v.2.2.1⟩))],l:=[(0,.mp .str .bool v.2.2.2)],k:=[(4096,[])],b:=16891904 }
noncomputable def ez40_0 (v:(List Y1)×Int×(List Y1)×Int×Int):St:={ s:=[(0,(.val ⟨(.slice Z0),v.1⟩)),(1,(.val ⟨Z2,v.2.1⟩)),(15,(.val ⟨(.slice Z0),v.2.2.1⟩)),(16,(.val ⟨Z2,v.2.2.2.1⟩)),(17,(.val ⟨Z2,v.2.2.2.2⟩))],l:=[],k:=[],b:=4096 }
def himage_areFuncs_1 (self0:(List Y1)×Int×(List Y1)×Int×Int→Option (Bool)) (self1:(List Y1)×Int×Int×(List (Y3×Bool))→Option (Bool)) (v:(List Y1)×Int×Int×(List (Y3×Bool))):Option (Bool):=
 (bif (decide (v.2.2.1 < v.2.1)) then ((getI v.1 v.2.2.1).bind fun x4=>((cimage_areFuncs_1 x4).bind fun x5=>((ckinds_Named x5).bind fun x6=>(bif (!x6) then (some false) else (bif (@atK .str .bool x5 false v.2.2.2).1 then (some false) else (let x7:(List (Y3×Bool)):=(@putK .str .bool x5 true v.2.2.2);(let x8:Int:=(IntKind.i64.wrap (v.2.2.1+(1:Int)));(self1 (v.1,v.2.1,x8,x7))))))))) else (some true))
def gimage_areFuncs_1 (N:Nat) (self0:(List Y1)×Int×(List Y1)×Int×Int→Option (Bool)) (self1:(List Y1)×Int×Int×(List (Y3×Bool))→Option (Bool)) (v:(List Y1)×Int×Int×(List (Y3×Bool))):Option (Bool):=himage_areFuncs_1 self0 self1 v
theorem kz39 (N:Nat) (s0:St→Option (Bool)) (s1:St→Option (Bool)) (v):(floc (Ez40) Tz40 6 N Tryz.f51 [.bool] [false] [.call 9 1 90] 0 nowhereR) s1 (ez39 v)=himage_areFuncs_1 (fun v=>s0 (ez40_0 v)) (fun v=>s1 (ez39 v)) v:=by kernel_rfl
theorem bz39 (N:Nat) (s0:St→Option (Bool)) (s1:St→Option (Bool)) (v):(floc (Ez40) Tz40 6 N Tryz.f51 [.bool] [false] [.call 9 1 90] 0 nowhereR) s1 (ez39 v)=gimage_areFuncs_1 N (fun v=>s0 (ez40_0 v)) (fun v=>s1 (ez39 v)) v:=kz39 N s0 s1 v
def himage_areFuncs_0 (loop1:(List Y1)×Int×Int×(List (Y3×Bool))→Option (Bool)) (self0:(List Y1)×Int×(List Y1)×Int×Int→Option (Bool)) (v:(List Y1)×Int×(List Y1)×Int×Int):Option (Bool):=
 (bif (decide (v.2.2.2.2 < v.2.2.2.1)) then ((getI v.2.2.1 v.2.2.2.2).bind fun x1=>((cimage_isFunc (x1,v.2.1)).bind fun x2=>(bif (!x2) then (some false) else (let x3:Int:=(IntKind.i64.wrap (v.2.2.2.2+(1:Int)));(self0 (v.1,v.2.1,v.2.2.1,v.2.2.2.1,x3)))))) else (loop1 (v.1,(List.length v.1:Int),(0:Int),([]:List (Y3×Bool)))))
def gimage_areFuncs_0 (N:Nat) (self0:(List Y1)×Int×(List Y1)×Int×Int→Option (Bool)) (v:(List Y1)×Int×(List Y1)×Int×Int):Option (Bool):=himage_areFuncs_0 (iterV (gimage_areFuncs_1 N self0) N) self0 v
theorem kz40_0 (N:Nat) (s0:St→Option (Bool)) (v):(floc (Ez40) Tz40 6 N Tryz.f51 [.bool] [false] [] 0 nowhereR) s0 (ez40_0 v)=himage_areFuncs_0 (fun v=>iterR (floc (Ez40) Tz40 6 N Tryz.f51 [.bool] [false] [.call 9 1 90] 0 nowhereR) N (ez39 v)) (fun v=>s0 (ez40_0 v)) v:=by kernel_rfl
theorem bz40_0 (N:Nat) (s0:St→Option (Bool)) (v):(floc (Ez40) Tz40 6 N Tryz.f51 [.bool] [false] [] 0 nowhereR) s0 (ez40_0 v)=gimage_areFuncs_0 N (fun v=>s0 (ez40_0 v)) v:=(kz40_0 N s0 v).trans (by rw [funext (iterR_eq ez39 (bz39 N s0) N)];rfl)
def nimage_areFuncs (loop0:(List Y1)×Int×(List Y1)×Int×Int→Option (Bool)) (x:(List Y1)×Int):Option (Bool):=
 (bif (decide ((List.length x.1:Int) < (1:Int))) then (some false) else (bif (decide ((List.length x.1:Int) > (32:Int))) then (some false) else (loop0 (x.1,x.2,x.1,(List.length x.1:Int),(0:Int)))))
def mimage_areFuncs (N:Nat) (x:(List Y1)×Int):Option (Bool):=nimage_areFuncs (iterV (gimage_areFuncs_0 N) N) x
theorem jz40 (N:Nat) (x:(List Y1)×Int):rise (Ez40) Tz40 6 N Tryz.f51 [(.slice Z0),Z2] [.bool] [false] x=nimage_areFuncs (fun v=>iterR (floc (Ez40) Tz40 6 N Tryz.f51 [.bool] [false] [] 0 nowhereR) N (ez40_0 v)) x:=by kernel_rfl
theorem lz40 (N:Nat) (x:(List Y1)×Int):rise (Ez40) Tz40 6 N Tryz.f51 [(.slice Z0),Z2] [.bool] [false] x=mimage_areFuncs N x:=(jz40 N x).trans (by rw [funext (iterR_eq ez40_0 (bz40_0 N) N)];rfl)
def cimage_areFuncs (x:(List Y1)×Int):Option (Bool):=mimage_areFuncs big x
def Gz40:Fn2:=⟨[(.slice Z0),Z2],[.bool],[false],fun x=>cimage_areFuncs x⟩
theorem Lz40:Rises Tryz.prog 51 Gz40:=rises_of (E:=Ez40) ⟨tabOk,(fsCons2 Lz37 (fsCons2 Lz39 (fsCons2 Lz7 fsNil2))),fun _ _ _=>rfl,mixed,(inlCons (inlB_of Tryz.func90 rfl rfl (by kernel_rfl)) inlNil),rcsNil,owsNil⟩ Tryz.func51 rfl (by decide) (by kernel_rfl) (by kernel_rfl) (by kernel_rfl) (by kernel_rfl) (fun x r _ h=>⟨Tz40,6,big,(lz40 big x).trans h⟩)
def Tz41:LT:={ live:=[],keep:=[] }
noncomputable def Ez41:Env2:={ tab:=tab,fs:=[(49,Gz22),(50,Gz23),(51,Gz40)],inl:=[] }
def nimage_isValid (x:Y0):Option (Bool):=
 ((cimage_areTypes x.1).bind fun x1=>(bif x1 then ((cimage_areTexts x.2.1).bind fun x2=>(bif x2 then ((cimage_areFuncs (x.2.2.1,(List.length x.1:Int))).bind fun x3=>(some x3)) else (some false))) else (some false)))
def mimage_isValid (N:Nat) (x:Y0):Option (Bool):=nimage_isValid x
theorem jz41 (N:Nat) (x:Y0):rise (Ez41) Tz41 6 N Tryz.f29 [Z3] [.bool] [false] x=nimage_isValid x:=by kernel_rfl
theorem lz41 (N:Nat) (x:Y0):rise (Ez41) Tz41 6 N Tryz.f29 [Z3] [.bool] [false] x=mimage_isValid N x:=(jz41 N x).trans rfl
def cimage_isValid (x:Y0):Option (Bool):=mimage_isValid big x
def Gz41:Fn2:=⟨[Z3],[.bool],[false],fun x=>cimage_isValid x⟩
theorem Lz41:Rises Tryz.prog 29 Gz41:=rises_of (E:=Ez41) ⟨tabOk,(fsCons2 Lz22 (fsCons2 Lz23 (fsCons2 Lz40 fsNil2))),fun _ _ _=>rfl,mixed,inlNil,rcsNil,owsNil⟩ Tryz.func29 rfl (by decide) (by kernel_rfl) (by kernel_rfl) (by kernel_rfl) (by kernel_rfl) (fun x r _ h=>⟨Tz41,6,big,(lz41 big x).trans h⟩)
def Tz42:LT:={ live:=[(3,[0,3,9,10,11]),(9,[6,22,23,24])],keep:=[] }
noncomputable def Ez42 (mk:(α:Type)→Nat→α→List α):Env2:={ tab:=tab,fs:=[],inl:=[],rep:=mk }
noncomputable def ez42_1 (v:Y9×Int×Int×Y3):St:={ s:=[(6,(.row 0)),(22,(.val ⟨(.slice Z5),v.1⟩)),(23,(.val ⟨Z2,v.2.1⟩)),(24,(.val ⟨Z2,v.2.2.1⟩))],l:=[(0,.row Z9 v.2.2.2)],k:=[],b:=4096 }
noncomputable def ez42_0 (v:Y9×Int×Y9×Int×Int):St:={ s:=[(0,(.val ⟨(.slice Z5),v.1⟩)),(3,(.val ⟨Z2,v.2.1⟩)),(9,(.val ⟨(.slice Z5),v.2.2.1⟩)),(10,(.val ⟨Z2,v.2.2.2.1⟩)),(11,(.val ⟨Z2,v.2.2.2.2⟩))],l:=[],k:=[],b:=4096 }
def hwire_joined_1 (mk:(α:Type)→Nat→α→List α) (self0:Y9×Int×Y9×Int×Int→Option (Y3)) (self1:Y9×Int×Int×Y3→Option (Y3)) (v:Y9×Int×Int×Y3):Option (Y3):=
 (bif (decide (v.2.2.1 < v.2.1)) then ((getI v.1 v.2.2.1).bind fun x5=>(bif (Nat.ble 1 1&&Nat.ble (List.length v.2.2.2+List.length x5) lim) then (let x6:Int:=(IntKind.i64.wrap (v.2.2.1+(1:Int)));(self1 (v.1,v.2.1,x6,(List.append v.2.2.2 x5)))) else none)) else (some v.2.2.2))
def gwire_joined_1 (mk:(α:Type)→Nat→α→List α) (N:Nat) (self0:Y9×Int×Y9×Int×Int→Option (Y3)) (self1:Y9×Int×Int×Y3→Option (Y3)) (v:Y9×Int×Int×Y3):Option (Y3):=hwire_joined_1 mk self0 self1 v
theorem kz42_1 (mk:(α:Type)→Nat→α→List α) (N:Nat) (s0:St→Option (Y3)) (s1:St→Option (Y3)) (v):(floc (Ez42 mk) Tz42 6 N Tryz.f129 [Z5] [true] [] 1 nowhereR) s1 (ez42_1 v)=hwire_joined_1 mk (fun v=>s0 (ez42_0 v)) (fun v=>s1 (ez42_1 v)) v:=by kernel_rfl
theorem bz42_1 (mk:(α:Type)→Nat→α→List α) (N:Nat) (s0:St→Option (Y3)) (s1:St→Option (Y3)) (v):(floc (Ez42 mk) Tz42 6 N Tryz.f129 [Z5] [true] [] 1 nowhereR) s1 (ez42_1 v)=gwire_joined_1 mk N (fun v=>s0 (ez42_0 v)) (fun v=>s1 (ez42_1 v)) v:=kz42_1 mk N s0 s1 v
def hwire_joined_0 (mk:(α:Type)→Nat→α→List α) (loop1:Y9×Int×Int×Y3→Option (Y3)) (self0:Y9×Int×Y9×Int×Int→Option (Y3)) (v:Y9×Int×Y9×Int×Int):Option (Y3):=
 (bif (decide (v.2.2.2.2 < v.2.2.2.1)) then ((getI v.2.2.1 v.2.2.2.2).bind fun x1=>(let x2:Int:=(IntKind.i64.wrap (v.2.1+(List.length x1:Int)));(let x3:Int:=(IntKind.i64.wrap (v.2.2.2.2+(1:Int)));(self0 (v.1,x2,v.2.2.1,v.2.2.2.1,x3))))) else (bif (decide (0≤(0:Int))&&(decide ((0:Int)≤v.2.1)&&(decide (v.2.1≤68719476736)&&true))) then (let x4:Y3:=(mk Int (Int.toNat (0:Int)) (0:Int));(loop1 (v.1,(List.length v.1:Int),(0:Int),x4))) else none))
def gwire_joined_0 (mk:(α:Type)→Nat→α→List α) (N:Nat) (self0:Y9×Int×Y9×Int×Int→Option (Y3)) (v:Y9×Int×Y9×Int×Int):Option (Y3):=hwire_joined_0 mk (iterV (gwire_joined_1 mk N self0) N) self0 v
theorem kz42_0 (mk:(α:Type)→Nat→α→List α) (N:Nat) (s0:St→Option (Y3)) (v):(floc (Ez42 mk) Tz42 6 N Tryz.f129 [Z5] [true] [] 0 nowhereR) s0 (ez42_0 v)=hwire_joined_0 mk (fun v=>iterR (floc (Ez42 mk) Tz42 6 N Tryz.f129 [Z5] [true] [] 1 nowhereR) N (ez42_1 v)) (fun v=>s0 (ez42_0 v)) v:=by kernel_rfl
theorem bz42_0 (mk:(α:Type)→Nat→α→List α) (N:Nat) (s0:St→Option (Y3)) (v):(floc (Ez42 mk) Tz42 6 N Tryz.f129 [Z5] [true] [] 0 nowhereR) s0 (ez42_0 v)=gwire_joined_0 mk N (fun v=>s0 (ez42_0 v)) v:=(kz42_0 mk N s0 v).trans (by rw [funext (iterR_eq ez42_1 (bz42_1 mk N s0) N)];rfl)
def nwire_joined (mk:(α:Type)→Nat→α→List α) (loop0:Y9×Int×Y9×Int×Int→Option (Y3)) (x:Y9):Option (Y3):=
 (loop0 (x,(0:Int),x,(List.length x:Int),(0:Int)))
def mwire_joined (mk:(α:Type)→Nat→α→List α) (N:Nat) (x:Y9):Option (Y3):=nwire_joined mk (iterV (gwire_joined_0 mk N) N) x
theorem jz42 (mk:(α:Type)→Nat→α→List α) (N:Nat) (x:Y9):rise (Ez42 mk) Tz42 6 N Tryz.f129 [(.slice Z5)] [Z5] [true] x=nwire_joined mk (fun v=>iterR (floc (Ez42 mk) Tz42 6 N Tryz.f129 [Z5] [true] [] 0 nowhereR) N (ez42_0 v)) x:=by kernel_rfl
theorem lz42 (mk:(α:Type)→Nat→α→List α) (N:Nat) (x:Y9):rise (Ez42 mk) Tz42 6 N Tryz.f129 [(.slice Z5)] [Z5] [true] x=mwire_joined mk N x:=(jz42 mk N x).trans (by rw [funext (iterR_eq ez42_0 (bz42_0 mk N) N)];rfl)
def cwire_joined (x:Y9):Option (Y3):=mwire_joined (fun _=>List.replicate) big x
def Gz42:Fn2:=⟨[(.slice Z5)],[Z5],[true],fun x=>cwire_joined x⟩
theorem Lz42:Rises Tryz.prog 129 Gz42:=rises_of (E:=Ez42 (fun _=>List.replicate)) ⟨tabOk,fsNil2,fun _ _ _=>rfl,mixed,inlNil,rcsNil,owsNil⟩ Tryz.func129 rfl (by decide) (by kernel_rfl) (by kernel_rfl) (by kernel_rfl) (by kernel_rfl) (fun x r _ h=>⟨Tz42,6,big,(lz42 (fun _=>List.replicate) big x).trans h⟩)
def Tz43:LT:={ live:=[(3,[0,3,4])],keep:=[] }
noncomputable def Ez43:Env2:={ tab:=tab,fs:=[(129,Gz42)],inl:=[] }
noncomputable def ez43_0 (v:Int×Int×Y3):St:={ s:=[(0,(.val ⟨(.int .u64),v.1⟩)),(3,(.loc 0 [])),(4,(.val ⟨Z2,v.2.1⟩))],l:=[(0,.var (.arr 10 Z9) (.val ⟨(.arr 10 Z9),v.2.2⟩))],k:=[],b:=4096 }
def hwire_Vary_0 (self0:Int×Int×Y3→Option (Y3)) (v:Int×Int×Y3):Option (Y3):=
 (bif (decide (v.1≥(128:Int))) then (let x1:Int:=(bits .or .u8 (IntKind.u8.wrap v.1) (128:Int));(bif (decide (0≤v.2.1)&&decide (v.2.1 < (10:Int))) then (let x2:Y3:=(List.set v.2.2 (Int.toNat v.2.1) x1);(let x3:Int:=(IntKind.i64.wrap (v.2.1+(1:Int)));(self0 ((v.1.fdiv (2 ^ 7)),x3,x2)))) else none)) else (bif (decide (0≤v.2.1)&&decide (v.2.1 < (10:Int))) then (let x4:Y3:=(List.set v.2.2 (Int.toNat v.2.1) (IntKind.u8.wrap v.1));(let x5:Int:=(IntKind.i64.wrap (v.2.1+(1:Int)));(bif (decide (0≤x5)&&decide (x5≤(List.length x4:Int))) then (let x6:Y3:=(List.take (Int.toNat x5) x4);(let x7:Y9:=([x6]:Y9);((cwire_joined x7).bind fun x8=>(some x8)))) else none))) else none))
def gwire_Vary_0 (N:Nat) (self0:Int×Int×Y3→Option (Y3)) (v:Int×Int×Y3):Option (Y3):=hwire_Vary_0 self0 v
theorem kz43_0 (N:Nat) (s0:St→Option (Y3)) (v):(floc (Ez43) Tz43 6 N Tryz.f128 [Z5] [true] [] 0 nowhereR) s0 (ez43_0 v)=hwire_Vary_0 (fun v=>s0 (ez43_0 v)) v:=by kernel_rfl
theorem bz43_0 (N:Nat) (s0:St→Option (Y3)) (v):(floc (Ez43) Tz43 6 N Tryz.f128 [Z5] [true] [] 0 nowhereR) s0 (ez43_0 v)=gwire_Vary_0 N (fun v=>s0 (ez43_0 v)) v:=kz43_0 N s0 v
def nwire_Vary (loop0:Int×Int×Y3→Option (Y3)) (x:Int):Option (Y3):=
 (loop0 (x,(0:Int),(List.replicate 10 (0:Int))))
def mwire_Vary (N:Nat) (x:Int):Option (Y3):=nwire_Vary (iterV (gwire_Vary_0 N) N) x
theorem jz43 (N:Nat) (x:Int):rise (Ez43) Tz43 6 N Tryz.f128 [(.int .u64)] [Z5] [true] x=nwire_Vary (fun v=>iterR (floc (Ez43) Tz43 6 N Tryz.f128 [Z5] [true] [] 0 nowhereR) N (ez43_0 v)) x:=by kernel_rfl
theorem lz43 (N:Nat) (x:Int):rise (Ez43) Tz43 6 N Tryz.f128 [(.int .u64)] [Z5] [true] x=mwire_Vary N x:=(jz43 N x).trans (by rw [funext (iterR_eq ez43_0 (bz43_0 N) N)];rfl)
def cwire_Vary (x:Int):Option (Y3):=mwire_Vary big x
def Gz43:Fn2:=⟨[(.int .u64)],[Z5],[true],fun x=>cwire_Vary x⟩
theorem Lz43:Rises Tryz.prog 128 Gz43:=rises_of (E:=Ez43) ⟨tabOk,(fsCons2 Lz42 fsNil2),fun _ _ _=>rfl,mixed,inlNil,rcsNil,owsNil⟩ Tryz.func128 rfl (by decide) (by kernel_rfl) (by kernel_rfl) (by kernel_rfl) (by kernel_rfl) (fun x r _ h=>⟨Tz43,6,big,(lz43 big x).trans h⟩)
def Tz44:LT:={ live:=[],keep:=[] }
noncomputable def Ez44:Env2:={ tab:=tab,fs:=[(128,Gz43)],inl:=[] }
def nimage_appendNumber (x:Y3) (y:(Int×Unit)):Option (Y3):=
 ((cwire_Vary (IntKind.u64.wrap y.1)).bind fun x1=>(bif (Nat.ble 1 1&&Nat.ble (List.length x+List.length x1) lim) then (some (List.append x x1)) else none))
def mimage_appendNumber (N:Nat) (x:Y3) (y:(Int×Unit)):Option (Y3):=nimage_appendNumber x y
theorem jz44 (N:Nat) (x:Y3) (y:(Int×Unit)):riseO (Ez44) Tz44 6 N Tryz.f92 Z9 [.hole Z2] x y=nimage_appendNumber x y:=by kernel_rfl
theorem lz44 (N:Nat) (x:Y3) (y:(Int×Unit)):riseO (Ez44) Tz44 6 N Tryz.f92 Z9 [.hole Z2] x y=mimage_appendNumber N x y:=(jz44 N x y).trans rfl
def cimage_appendNumber (x:Y3) (y:(Int×Unit)):Option (Y3):=mimage_appendNumber big x y
@[reducible] def Oz44:OwnC:=⟨Z9,[.hole Z2],fun x y=>cimage_appendNumber x y⟩
theorem Lz44:OwnOk Tryz.prog 92 Oz44:=own_of (c:=Oz44) (E:=Ez44) ⟨tabOk,(fsCons2 Lz43 fsNil2),fun _ _ _=>rfl,mixed,inlNil,rcsNil,owsNil⟩ Tryz.func92 rfl (by decide) (by kernel_rfl) (by kernel_rfl) (fun x y z h=>⟨Tz44,6,big,(lz44 big x y).trans h⟩)
def Tz45:LT:={ live:=[(3,[0,2,13,14,15])],keep:=[] }
def Tz46:LT:={ live:=[(3,[0,2,13,14,15])],keep:=[] }
def Tz47:LT:={ live:=[],keep:=[] }
noncomputable def Ez47:Env2:={ tab:=tab,fs:=[(128,Gz43),(129,Gz42)],inl:=[] }
def nwire_Text (x:Y3):Option (Y3×Int):=
 (bif (decide ((List.length x:Int) > (200000:Int))) then (some (([]:List Int),(4:Int))) else (let x1:Int:=(IntKind.u64.wrap (List.length x:Int));((cwire_Vary x1).bind fun x2=>(let x3:Y9:=([x2,x]:Y9);((cwire_joined x3).bind fun x4=>(some (x4,(0:Int))))))))
def mwire_Text (N:Nat) (x:Y3):Option (Y3×Int):=nwire_Text x
theorem jz47 (N:Nat) (x:Y3):rise (Ez47) Tz47 6 N Tryz.f95 [.str] [Z5,Z2] [true,false] x=nwire_Text x:=by kernel_rfl
theorem lz47 (N:Nat) (x:Y3):rise (Ez47) Tz47 6 N Tryz.f95 [.str] [Z5,Z2] [true,false] x=mwire_Text N x:=(jz47 N x).trans rfl
def cwire_Text (x:Y3):Option (Y3×Int):=mwire_Text big x
def Gz47:Fn2:=⟨[.str],[Z5,Z2],[true,false],fun x=>cwire_Text x⟩
theorem Lz47:Rises Tryz.prog 95 Gz47:=rises_of (E:=Ez47) ⟨tabOk,(fsCons2 Lz43 (fsCons2 Lz42 fsNil2)),fun _ _ _=>rfl,mixed,inlNil,rcsNil,owsNil⟩ Tryz.func95 rfl (by decide) (by kernel_rfl) (by kernel_rfl) (by kernel_rfl) (by kernel_rfl) (fun x r _ h=>⟨Tz47,6,big,(lz47 big x).trans h⟩)
def Tz48:LT:={ live:=[],keep:=[] }
noncomputable def Ez48:Env2:={ tab:=tab,fs:=[(95,Gz47)],inl:=[] }
def nimage_appendText (x:Y3) (y:(Y3×Unit)):Option (Y3):=
 ((cwire_Text y.1).bind fun x1=>(bif (Nat.ble 1 1&&Nat.ble (List.length x+List.length x1.1) lim) then (some (List.append x x1.1)) else none))
def mimage_appendText (N:Nat) (x:Y3) (y:(Y3×Unit)):Option (Y3):=nimage_appendText x y
theorem jz48 (N:Nat) (x:Y3) (y:(Y3×Unit)):riseO (Ez48) Tz48 6 N Tryz.f58 Z9 [.hole .str] x y=nimage_appendText x y:=by kernel_rfl
theorem lz48 (N:Nat) (x:Y3) (y:(Y3×Unit)):riseO (Ez48) Tz48 6 N Tryz.f58 Z9 [.hole .str] x y=mimage_appendText N x y:=(jz48 N x y).trans rfl
def cimage_appendText (x:Y3) (y:(Y3×Unit)):Option (Y3):=mimage_appendText big x y
@[reducible] def Oz48:OwnC:=⟨Z9,[.hole .str],fun x y=>cimage_appendText x y⟩
theorem Lz48:OwnOk Tryz.prog 58 Oz48:=own_of (c:=Oz48) (E:=Ez48) ⟨tabOk,(fsCons2 Lz47 fsNil2),fun _ _ _=>rfl,mixed,inlNil,rcsNil,owsNil⟩ Tryz.func58 rfl (by decide) (by kernel_rfl) (by kernel_rfl) (fun x y z h=>⟨Tz48,6,big,(lz48 big x y).trans h⟩)
def Tz49:LT:={ live:=[],keep:=[] }
noncomputable def Ez49:Env2:={ tab:=tab,fs:=[],inl:=[],ow:=[(58,Oz48),(92,Oz44)] }
def nimage_appendField (x:Y3) (y:((Y3×(Int×Unit))×Unit)):Option (Y3):=
 ((cimage_appendText x (y.1.1,())).bind fun x1=>((cimage_appendNumber x1 (y.1.2.1,())).bind fun x2=>(some x2)))
def mimage_appendField (N:Nat) (x:Y3) (y:((Y3×(Int×Unit))×Unit)):Option (Y3):=nimage_appendField x y
theorem jz49 (N:Nat) (x:Y3) (y:((Y3×(Int×Unit))×Unit)):riseO (Ez49) Tz49 6 N Tryz.f94 Z9 [.hole (.pair .str (.pair Z2 .unit))] x y=nimage_appendField x y:=by kernel_rfl
theorem lz49 (N:Nat) (x:Y3) (y:((Y3×(Int×Unit))×Unit)):riseO (Ez49) Tz49 6 N Tryz.f94 Z9 [.hole (.pair .str (.pair Z2 .unit))] x y=mimage_appendField N x y:=(jz49 N x y).trans rfl
def cimage_appendField (x:Y3) (y:((Y3×(Int×Unit))×Unit)):Option (Y3):=mimage_appendField big x y
@[reducible] def Oz49:OwnC:=⟨Z9,[.hole (.pair .str (.pair Z2 .unit))],fun x y=>cimage_appendField x y⟩
theorem Lz49:OwnOk Tryz.prog 94 Oz49:=own_of (c:=Oz49) (E:=Ez49) ⟨tabOk,fsNil2,fun _ _ _=>rfl,mixed,inlNil,rcsNil,(owsCons Lz48 (owsCons Lz44 owsNil))⟩ Tryz.func94 rfl (by decide) (by kernel_rfl) (by kernel_rfl) (fun x y z h=>⟨Tz49,6,big,(lz49 big x y).trans h⟩)
def Tz50:LT:={ live:=[],keep:=[(34,[])] }
noncomputable def Ez50:Env2:={ tab:=tab,fs:=[],inl:=[(93,Tryz.f93,Tz46)],ow:=[(92,Oz44),(94,Oz49)] }
noncomputable def ez50_0 (v:Y5×Int×Int×Y3):St:={ s:=[(0,(.row 0)),(2,(.clo 94 .unit)),(13,(.val ⟨Z6,v.1⟩)),(14,(.val ⟨Z2,v.2.1⟩)),(15,(.val ⟨Z2,v.2.2.1⟩))],l:=[(0,.row Z9 v.2.2.2)],k:=[(4096,[])],b:=16920576 }
def himage_appendType_0 (self0:Y5×Int×Int×Y3→Option (Y3)) (v:Y5×Int×Int×Y3):Option (Y3):=
 (bif (decide (v.2.2.1 < v.2.1)) then ((getI v.1 v.2.2.1).bind fun x6=>((cimage_appendField v.2.2.2 (x6,())).bind fun x7=>(let x8:Int:=(IntKind.i64.wrap (v.2.2.1+(1:Int)));(self0 (v.1,v.2.1,x8,x7))))) else (some v.2.2.2))
def gimage_appendType_0 (N:Nat) (self0:Y5×Int×Int×Y3→Option (Y3)) (v:Y5×Int×Int×Y3):Option (Y3):=himage_appendType_0 self0 v
theorem kz50_0 (N:Nat) (s0:St→Option (Y3)) (v):(flocO (Ez50) Tz50 6 N Tryz.f56 Z9 [.call 10 3 93] 0 nowhereR) s0 (ez50_0 v)=himage_appendType_0 (fun v=>s0 (ez50_0 v)) v:=by kernel_rfl
theorem bz50_0 (N:Nat) (s0:St→Option (Y3)) (v):(flocO (Ez50) Tz50 6 N Tryz.f56 Z9 [.call 10 3 93] 0 nowhereR) s0 (ez50_0 v)=gimage_appendType_0 N (fun v=>s0 (ez50_0 v)) v:=kz50_0 N s0 v
def nimage_appendType (loop0:Y5×Int×Int×Y3→Option (Y3)) (x:Y3) (y:(Y2×Unit)):Option (Y3):=
 (bif (Nat.ble 1 1&&Nat.ble (List.length x+List.length ([y.1.1]:Y3)) lim) then (let x1:Y3:=(List.append x ([y.1.1]:Y3));(bif (y.1.1==(4:Int)) then (bif (y.1.1==(4:Int)) then ((cimage_appendNumber x1 (y.1.2.1,())).bind fun x2=>(some x2)) else (bif (y.1.1==(6:Int)) then ((cimage_appendNumber x1 (y.1.2.1,())).bind fun x3=>((cimage_appendNumber x3 (y.1.2.2.1,())).bind fun x4=>(some x4))) else (bif (y.1.1==(5:Int)) then ((cimage_appendNumber x1 ((List.length y.1.2.2.2.1:Int),())).bind fun x5=>(loop0 (y.1.2.2.2.1,(List.length y.1.2.2.2.1:Int),(0:Int),x5))) else (some x1)))) else (bif (y.1.1==(7:Int)) then ((cimage_appendNumber x1 (y.1.2.1,())).bind fun x9=>(some x9)) else (bif (y.1.1==(6:Int)) then ((cimage_appendNumber x1 (y.1.2.1,())).bind fun x10=>((cimage_appendNumber x10 (y.1.2.2.1,())).bind fun x11=>(some x11))) else (bif (y.1.1==(5:Int)) then ((cimage_appendNumber x1 ((List.length y.1.2.2.2.1:Int),())).bind fun x12=>(loop0 (y.1.2.2.2.1,(List.length y.1.2.2.2.1:Int),(0:Int),x12))) else (some x1)))))) else none)
def mimage_appendType (N:Nat) (x:Y3) (y:(Y2×Unit)):Option (Y3):=nimage_appendType (iterV (gimage_appendType_0 N) N) x y
theorem jz50 (N:Nat) (x:Y3) (y:(Y2×Unit)):riseO (Ez50) Tz50 6 N Tryz.f56 Z9 [.hole Z1] x y=nimage_appendType (fun v=>iterR (flocO (Ez50) Tz50 6 N Tryz.f56 Z9 [.call 10 3 93] 0 nowhereR) N (ez50_0 v)) x y:=by kernel_rfl
theorem lz50 (N:Nat) (x:Y3) (y:(Y2×Unit)):riseO (Ez50) Tz50 6 N Tryz.f56 Z9 [.hole Z1] x y=mimage_appendType N x y:=(jz50 N x y).trans (by rw [funext (iterR_eq ez50_0 (bz50_0 N) N)];rfl)
def cimage_appendType (x:Y3) (y:(Y2×Unit)):Option (Y3):=mimage_appendType big x y
@[reducible] def Oz50:OwnC:=⟨Z9,[.hole Z1],fun x y=>cimage_appendType x y⟩
theorem Lz50:OwnOk Tryz.prog 56 Oz50:=own_of (c:=Oz50) (E:=Ez50) ⟨tabOk,fsNil2,fun _ _ _=>rfl,mixed,(inlCons (inlB_of Tryz.func93 rfl rfl (by kernel_rfl)) inlNil),rcsNil,(owsCons Lz44 (owsCons Lz49 owsNil))⟩ Tryz.func56 rfl (by decide) (by kernel_rfl) (by kernel_rfl) (fun x y z h=>⟨Tz50,6,big,(lz50 big x y).trans h⟩)
def Tz51:LT:={ live:=[(3,[0,2,13,14,15])],keep:=[] }
def Tz52:LT:={ live:=[(3,[0,2,13,14,15])],keep:=[] }
def Tz53:LT:={ live:=[],keep:=[] }
noncomputable def Ez53:Env2:={ tab:=tab,fs:=[(128,Gz43)],inl:=[] }
def nwire_Signed (x:Int):Option (Y3):=
 (bif (decide (x < (0:Int))) then (let x1:Int:=(bits .xor .i64 (if IntKind.signed .i64 then -1 else IntKind.max .i64) x);(let x2:Int:=(IntKind.u64.wrap ((IntKind.u64.wrap x1) * 2 ^ 1));(let x3:Int:=(bits .or .u64 x2 (1:Int));((cwire_Vary x3).bind fun x4=>(some x4))))) else (let x5:Int:=(IntKind.u64.wrap ((IntKind.u64.wrap x) * 2 ^ 1));((cwire_Vary x5).bind fun x6=>(some x6))))
def mwire_Signed (N:Nat) (x:Int):Option (Y3):=nwire_Signed x
theorem jz53 (N:Nat) (x:Int):rise (Ez53) Tz53 6 N Tryz.f96 [Z2] [Z5] [true] x=nwire_Signed x:=by kernel_rfl
theorem lz53 (N:Nat) (x:Int):rise (Ez53) Tz53 6 N Tryz.f96 [Z2] [Z5] [true] x=mwire_Signed N x:=(jz53 N x).trans rfl
def cwire_Signed (x:Int):Option (Y3):=mwire_Signed big x
def Gz53:Fn2:=⟨[Z2],[Z5],[true],fun x=>cwire_Signed x⟩
theorem Lz53:Rises Tryz.prog 96 Gz53:=rises_of (E:=Ez53) ⟨tabOk,(fsCons2 Lz43 fsNil2),fun _ _ _=>rfl,mixed,inlNil,rcsNil,owsNil⟩ Tryz.func96 rfl (by decide) (by kernel_rfl) (by kernel_rfl) (by kernel_rfl) (by kernel_rfl) (fun x r _ h=>⟨Tz53,6,big,(lz53 big x).trans h⟩)
def Tz54:LT:={ live:=[(3,[0,2,13,14,15])],keep:=[] }
def Tz55:LT:={ live:=[],keep:=[] }
noncomputable def Ez55:Env2:={ tab:=tab,fs:=[],inl:=[] }
def nops_isSigned (x:Int):Option (Bool):=
 (bif (x==(5:Int)) then (some true) else (bif (x==(3:Int)) then (some true) else (some (x==(4:Int)))))
def mops_isSigned (N:Nat) (x:Int):Option (Bool):=nops_isSigned x
theorem jz55 (N:Nat) (x:Int):rise (Ez55) Tz55 6 N Tryz.f159 [Z9] [.bool] [false] x=nops_isSigned x:=by kernel_rfl
theorem lz55 (N:Nat) (x:Int):rise (Ez55) Tz55 6 N Tryz.f159 [Z9] [.bool] [false] x=mops_isSigned N x:=(jz55 N x).trans rfl
def cops_isSigned (x:Int):Option (Bool):=mops_isSigned big x
def Gz55:Fn2:=⟨[Z9],[.bool],[false],fun x=>cops_isSigned x⟩
theorem Lz55:Rises Tryz.prog 159 Gz55:=rises_of (E:=Ez55) ⟨tabOk,fsNil2,fun _ _ _=>rfl,mixed,inlNil,rcsNil,owsNil⟩ Tryz.func159 rfl (by decide) (by kernel_rfl) (by kernel_rfl) (by kernel_rfl) (by kernel_rfl) (fun x r _ h=>⟨Tz55,6,big,(lz55 big x).trans h⟩)
def Tz56:LT:={ live:=[],keep:=[] }
def Tz57:LT:={ live:=[(3,[1,4,13,14])],keep:=[(25,[1,4,13,14])] }
def Tz58:LT:={ live:=[],keep:=[(16,[5])] }
noncomputable def Ez58:Env2:={ tab:=tab,fs:=[(96,Gz53),(128,Gz43),(145,Gz32),(159,Gz55),(161,Gz29)],inl:=[(157,Tryz.f157,Tz57),(158,Tryz.f158,Tz56)] }
noncomputable def ez58_0 (v:Y3×Int×Y3×Y3):St:={ s:=[(1,(.clo 158 (.pair (.loc 0 []) .unit))),(4,(.loc 2 [])),(13,(.val ⟨(.arr 3 Z9),v.1⟩)),(14,(.val ⟨Z2,v.2.1⟩))],l:=[(0,.var Z5 (.row 1)),(1,.row Z9 v.2.2.1),(2,.var (.arr 3 Z2) (.val ⟨(.arr 3 Z2),v.2.2.2⟩))],k:=[(4096,[(5,(.loc 0 []))])],b:=16846848 }
def hops_Encode_0 (self0:Y3×Int×Y3×Y3→Option (Y3×Int)) (v:Y3×Int×Y3×Y3):Option (Y3×Int):=
 (bif (decide (v.2.1 < (3:Int))) then ((getI v.1 v.2.1).bind fun x4=>(bif (x4 != (0:Int)) then (bif (decide (0≤v.2.1)&&decide (v.2.1 < (3:Int))) then ((nth v.2.2.2 (Int.toNat v.2.1)).bind fun x5=>((cops_isSigned x4).bind fun x6=>(bif x6 then ((cwire_Signed x5).bind fun x7=>(bif (Nat.ble 1 1&&Nat.ble (List.length v.2.2.1+List.length x7) lim) then (let x8:Int:=(IntKind.i64.wrap (v.2.1+(1:Int)));(self0 (v.1,x8,(List.append v.2.2.1 x7),v.2.2.2))) else none)) else ((cwire_Vary (IntKind.u64.wrap x5)).bind fun x9=>(bif (Nat.ble 1 1&&Nat.ble (List.length v.2.2.1+List.length x9) lim) then (let x10:Int:=(IntKind.i64.wrap (v.2.1+(1:Int)));(self0 (v.1,x10,(List.append v.2.2.1 x9),v.2.2.2))) else none))))) else none) else (let x11:Int:=(IntKind.i64.wrap (v.2.1+(1:Int)));(self0 (v.1,x11,v.2.2.1,v.2.2.2))))) else (some (v.2.2.1,(0:Int))))
def gops_Encode_0 (N:Nat) (self0:Y3×Int×Y3×Y3→Option (Y3×Int)) (v:Y3×Int×Y3×Y3):Option (Y3×Int):=hops_Encode_0 self0 v
theorem kz58_0 (N:Nat) (s0:St→Option (Y3×Int)) (v):(floc (Ez58) Tz58 6 N Tryz.f130 [Z5,Z2] [true,false] [.call 5 2 157] 0 nowhereR) s0 (ez58_0 v)=hops_Encode_0 (fun v=>s0 (ez58_0 v)) v:=by kernel_rfl
theorem bz58_0 (N:Nat) (s0:St→Option (Y3×Int)) (v):(floc (Ez58) Tz58 6 N Tryz.f130 [Z5,Z2] [true,false] [.call 5 2 157] 0 nowhereR) s0 (ez58_0 v)=gops_Encode_0 N (fun v=>s0 (ez58_0 v)) v:=kz58_0 N s0 v
def nops_Encode (loop0:Y3×Int×Y3×Y3→Option (Y3×Int)) (x:Y7):Option (Y3×Int):=
 ((cops_Check x).bind fun x1=>(bif (x1 != (0:Int)) then (some (([]:List Int),x1)) else ((cops_operands x).bind fun x2=>((getI gl0 x.1).bind fun x3=>(loop0 (x3.2.1,(0:Int),([x.1]:Y3),x2))))))
def mops_Encode (N:Nat) (x:Y7):Option (Y3×Int):=nops_Encode (iterV (gops_Encode_0 N) N) x
theorem jz58 (N:Nat) (x:Y7):rise (Ez58) Tz58 6 N Tryz.f130 [Z4] [Z5,Z2] [true,false] x=nops_Encode (fun v=>iterR (floc (Ez58) Tz58 6 N Tryz.f130 [Z5,Z2] [true,false] [.call 5 2 157] 0 nowhereR) N (ez58_0 v)) x:=by kernel_rfl
theorem lz58 (N:Nat) (x:Y7):rise (Ez58) Tz58 6 N Tryz.f130 [Z4] [Z5,Z2] [true,false] x=mops_Encode N x:=(jz58 N x).trans (by rw [funext (iterR_eq ez58_0 (bz58_0 N) N)];rfl)
def cops_Encode (x:Y7):Option (Y3×Int):=mops_Encode big x
def Gz58:Fn2:=⟨[Z4],[Z5,Z2],[true,false],fun x=>cops_Encode x⟩
theorem Lz58:Rises Tryz.prog 130 Gz58:=rises_of (E:=Ez58) ⟨tabOk,(fsCons2 Lz53 (fsCons2 Lz43 (fsCons2 Lz32 (fsCons2 Lz55 (fsCons2 Lz29 fsNil2))))),fun _ _ _=>rfl,mixed,(inlCons (inlB_of Tryz.func157 rfl rfl (by kernel_rfl)) (inlCons (inlB_of Tryz.func158 rfl rfl (by kernel_rfl)) inlNil)),rcsNil,owsNil⟩ Tryz.func130 rfl (by decide) (by kernel_rfl) (by kernel_rfl) (by kernel_rfl) (by kernel_rfl) (fun x r _ h=>⟨Tz58,6,big,(lz58 big x).trans h⟩)
def Tz59:LT:={ live:=[],keep:=[] }
noncomputable def Ez59:Env2:={ tab:=tab,fs:=[(130,Gz58)],inl:=[] }
def nimage_appendInstr (x:Y3) (y:(Y7×Unit)):Option (Y3):=
 ((cops_Encode y.1).bind fun x1=>(bif (Nat.ble 1 1&&Nat.ble (List.length x+List.length x1.1) lim) then (some (List.append x x1.1)) else none))
def mimage_appendInstr (N:Nat) (x:Y3) (y:(Y7×Unit)):Option (Y3):=nimage_appendInstr x y
theorem jz59 (N:Nat) (x:Y3) (y:(Y7×Unit)):riseO (Ez59) Tz59 6 N Tryz.f98 Z9 [.hole Z4] x y=nimage_appendInstr x y:=by kernel_rfl
theorem lz59 (N:Nat) (x:Y3) (y:(Y7×Unit)):riseO (Ez59) Tz59 6 N Tryz.f98 Z9 [.hole Z4] x y=mimage_appendInstr N x y:=(jz59 N x y).trans rfl
def cimage_appendInstr (x:Y3) (y:(Y7×Unit)):Option (Y3):=mimage_appendInstr big x y
@[reducible] def Oz59:OwnC:=⟨Z9,[.hole Z4],fun x y=>cimage_appendInstr x y⟩
theorem Lz59:OwnOk Tryz.prog 98 Oz59:=own_of (c:=Oz59) (E:=Ez59) ⟨tabOk,(fsCons2 Lz58 fsNil2),fun _ _ _=>rfl,mixed,inlNil,rcsNil,owsNil⟩ Tryz.func98 rfl (by decide) (by kernel_rfl) (by kernel_rfl) (fun x y z h=>⟨Tz59,6,big,(lz59 big x y).trans h⟩)
def Tz60:LT:={ live:=[(7,[7,8,21,22,23])],keep:=[] }
noncomputable def Ez60:Env2:={ tab:=tab,fs:=[(126,Gz36),(128,Gz43)],inl:=[] }
noncomputable def ez60_0 (v:Int×Y8×Int×Int×Y3):St:={ s:=[(7,(.row 0)),(8,(.val ⟨Z2,v.1⟩)),(21,(.val ⟨(.slice Z7),v.2.1⟩)),(22,(.val ⟨Z2,v.2.2.1⟩)),(23,(.val ⟨Z2,v.2.2.2.1⟩))],l:=[(0,.row Z9 v.2.2.2.2)],k:=[],b:=4096 }
def htables_Encode_0 (self0:Int×Y8×Int×Int×Y3→Option (Y3×Int)) (v:Int×Y8×Int×Int×Y3):Option (Y3×Int):=
 (bif (decide (v.2.2.2.1 < v.2.2.1)) then ((getI v.2.1 v.2.2.2.1).bind fun x4=>(let x5:Int:=(IntKind.i64.wrap (x4.1 - v.1));((cwire_Vary (IntKind.u64.wrap x5)).bind fun x6=>(bif (Nat.ble 1 1&&Nat.ble (List.length v.2.2.2.2+List.length x6) lim) then (let x7:Y3:=(List.append v.2.2.2.2 x6);((cwire_Vary x4.2.1).bind fun x8=>(bif (Nat.ble 1 1&&Nat.ble (List.length x7+List.length x8) lim) then (let x9:Int:=(IntKind.i64.wrap (v.2.2.2.1+(1:Int)));(self0 (x4.1,v.2.1,v.2.2.1,x9,(List.append x7 x8)))) else none))) else none)))) else (some (v.2.2.2.2,(0:Int))))
def gtables_Encode_0 (N:Nat) (self0:Int×Y8×Int×Int×Y3→Option (Y3×Int)) (v:Int×Y8×Int×Int×Y3):Option (Y3×Int):=htables_Encode_0 self0 v
theorem kz60_0 (N:Nat) (s0:St→Option (Y3×Int)) (v):(floc (Ez60) Tz60 6 N Tryz.f131 [Z5,Z2] [true,false] [] 0 nowhereR) s0 (ez60_0 v)=htables_Encode_0 (fun v=>s0 (ez60_0 v)) v:=by kernel_rfl
theorem bz60_0 (N:Nat) (s0:St→Option (Y3×Int)) (v):(floc (Ez60) Tz60 6 N Tryz.f131 [Z5,Z2] [true,false] [] 0 nowhereR) s0 (ez60_0 v)=gtables_Encode_0 N (fun v=>s0 (ez60_0 v)) v:=kz60_0 N s0 v
def ntables_Encode (loop0:Int×Y8×Int×Int×Y3→Option (Y3×Int)) (x:Y8×Int):Option (Y3×Int):=
 ((ctables_Check (x.1,x.2)).bind fun x1=>(bif (x1 != (0:Int)) then (some (([]:List Int),x1)) else (let x2:Int:=(IntKind.u64.wrap (List.length x.1:Int));((cwire_Vary x2).bind fun x3=>(loop0 ((0:Int),x.1,(List.length x.1:Int),(0:Int),x3))))))
def mtables_Encode (N:Nat) (x:Y8×Int):Option (Y3×Int):=ntables_Encode (iterV (gtables_Encode_0 N) N) x
theorem jz60 (N:Nat) (x:Y8×Int):rise (Ez60) Tz60 6 N Tryz.f131 [(.slice Z7),Z2] [Z5,Z2] [true,false] x=ntables_Encode (fun v=>iterR (floc (Ez60) Tz60 6 N Tryz.f131 [Z5,Z2] [true,false] [] 0 nowhereR) N (ez60_0 v)) x:=by kernel_rfl
theorem lz60 (N:Nat) (x:Y8×Int):rise (Ez60) Tz60 6 N Tryz.f131 [(.slice Z7),Z2] [Z5,Z2] [true,false] x=mtables_Encode N x:=(jz60 N x).trans (by rw [funext (iterR_eq ez60_0 (bz60_0 N) N)];rfl)
def ctables_Encode (x:Y8×Int):Option (Y3×Int):=mtables_Encode big x
def Gz60:Fn2:=⟨[(.slice Z7),Z2],[Z5,Z2],[true,false],fun x=>ctables_Encode x⟩
theorem Lz60:Rises Tryz.prog 131 Gz60:=rises_of (E:=Ez60) ⟨tabOk,(fsCons2 Lz36 (fsCons2 Lz43 fsNil2)),fun _ _ _=>rfl,mixed,inlNil,rcsNil,owsNil⟩ Tryz.func131 rfl (by decide) (by kernel_rfl) (by kernel_rfl) (by kernel_rfl) (by kernel_rfl) (fun x r _ h=>⟨Tz60,6,big,(lz60 big x).trans h⟩)
def Tz61:LT:={ live:=[],keep:=[] }
noncomputable def Ez61:Env2:={ tab:=tab,fs:=[(131,Gz60)],inl:=[] }
def nimage_appendRuns (x:Y3) (y:(Y8×(Int×Unit))):Option (Y3):=
 ((ctables_Encode (y.1,y.2.1)).bind fun x1=>(bif (Nat.ble 1 1&&Nat.ble (List.length x+List.length x1.1) lim) then (some (List.append x x1.1)) else none))
def mimage_appendRuns (N:Nat) (x:Y3) (y:(Y8×(Int×Unit))):Option (Y3):=nimage_appendRuns x y
theorem jz61 (N:Nat) (x:Y3) (y:(Y8×(Int×Unit))):riseO (Ez61) Tz61 6 N Tryz.f99 Z9 [.hole (.slice Z7),.hole Z2] x y=nimage_appendRuns x y:=by kernel_rfl
theorem lz61 (N:Nat) (x:Y3) (y:(Y8×(Int×Unit))):riseO (Ez61) Tz61 6 N Tryz.f99 Z9 [.hole (.slice Z7),.hole Z2] x y=mimage_appendRuns N x y:=(jz61 N x y).trans rfl
def cimage_appendRuns (x:Y3) (y:(Y8×(Int×Unit))):Option (Y3):=mimage_appendRuns big x y
@[reducible] def Oz61:OwnC:=⟨Z9,[.hole (.slice Z7),.hole Z2],fun x y=>cimage_appendRuns x y⟩
theorem Lz61:OwnOk Tryz.prog 99 Oz61:=own_of (c:=Oz61) (E:=Ez61) ⟨tabOk,(fsCons2 Lz60 fsNil2),fun _ _ _=>rfl,mixed,inlNil,rcsNil,owsNil⟩ Tryz.func99 rfl (by decide) (by kernel_rfl) (by kernel_rfl) (fun x y z h=>⟨Tz61,6,big,(lz61 big x y).trans h⟩)
def Tz62:LT:={ live:=[],keep:=[(21,[3]),(25,[3])] }
noncomputable def Ez62:Env2:={ tab:=tab,fs:=[(96,Gz53)],inl:=[(93,Tryz.f93,Tz46),(97,Tryz.f97,Tz54)],ow:=[(58,Oz48),(92,Oz44),(94,Oz49),(98,Oz59),(99,Oz61)] }
noncomputable def ez62_1 (v:(List Y7)×Int×Int×Y3×Y1):St:={ s:=[(0,(.row 0)),(2,(.clo 98 .unit)),(13,(.val ⟨(.slice Z4),v.1⟩)),(14,(.val ⟨Z2,v.2.1⟩)),(15,(.val ⟨Z2,v.2.2.1⟩))],l:=[(0,.row Z9 v.2.2.2.1),(1,.var Z0 (.val ⟨Z0,v.2.2.2.2⟩))],k:=[(4096,[(3,(.loc 1 []))])],b:=16883712 }
noncomputable def ez62_0 (v:Y5×Int×Int×Y3×Y1):St:={ s:=[(0,(.row 0)),(2,(.clo 94 .unit)),(13,(.val ⟨Z6,v.1⟩)),(14,(.val ⟨Z2,v.2.1⟩)),(15,(.val ⟨Z2,v.2.2.1⟩))],l:=[(0,.row Z9 v.2.2.2.1),(1,.var Z0 (.val ⟨Z0,v.2.2.2.2⟩))],k:=[(4096,[(3,(.loc 1 []))])],b:=16867328 }
def himage_appendFunc_1 (self0:Y5×Int×Int×Y3×Y1→Option (Y3)) (self1:(List Y7)×Int×Int×Y3×Y1→Option (Y3)) (v:(List Y7)×Int×Int×Y3×Y1):Option (Y3):=
 (bif (decide (v.2.2.1 < v.2.1)) then ((getI v.1 v.2.2.1).bind fun x9=>((cimage_appendInstr v.2.2.2.1 (x9,())).bind fun x10=>(let x11:Int:=(IntKind.i64.wrap (v.2.2.1+(1:Int)));(self1 (v.1,v.2.1,x11,x10,v.2.2.2.2))))) else ((cimage_appendRuns v.2.2.2.1 (v.2.2.2.2.2.2.2.2.2.1,((List.length v.2.2.2.2.2.2.2.2.1:Int),()))).bind fun x12=>((cimage_appendRuns x12 (v.2.2.2.2.2.2.2.2.2.2.1,((List.length v.2.2.2.2.2.2.2.2.1:Int),()))).bind fun x13=>(some x13))))
def gimage_appendFunc_1 (N:Nat) (self0:Y5×Int×Int×Y3×Y1→Option (Y3)) (self1:(List Y7)×Int×Int×Y3×Y1→Option (Y3)) (v:(List Y7)×Int×Int×Y3×Y1):Option (Y3):=himage_appendFunc_1 self0 self1 v
theorem kz62_1 (N:Nat) (s0:St→Option (Y3)) (s1:St→Option (Y3)) (v):(flocO (Ez62) Tz62 6 N Tryz.f60 Z9 [.call 5 3 97] 0 nowhereR) s1 (ez62_1 v)=himage_appendFunc_1 (fun v=>s0 (ez62_0 v)) (fun v=>s1 (ez62_1 v)) v:=by kernel_rfl
theorem bz62_1 (N:Nat) (s0:St→Option (Y3)) (s1:St→Option (Y3)) (v):(flocO (Ez62) Tz62 6 N Tryz.f60 Z9 [.call 5 3 97] 0 nowhereR) s1 (ez62_1 v)=gimage_appendFunc_1 N (fun v=>s0 (ez62_0 v)) (fun v=>s1 (ez62_1 v)) v:=kz62_1 N s0 s1 v
def himage_appendFunc_0 (loop1:(List Y7)×Int×Int×Y3×Y1→Option (Y3)) (self0:Y5×Int×Int×Y3×Y1→Option (Y3)) (v:Y5×Int×Int×Y3×Y1):Option (Y3):=
 (bif (decide (v.2.2.1 < v.2.1)) then ((getI v.1 v.2.2.1).bind fun x5=>((cimage_appendField v.2.2.2.1 (x5,())).bind fun x6=>(let x7:Int:=(IntKind.i64.wrap (v.2.2.1+(1:Int)));(self0 (v.1,v.2.1,x7,x6,v.2.2.2.2))))) else ((cimage_appendNumber v.2.2.2.1 ((List.length v.2.2.2.2.2.2.2.2.1:Int),())).bind fun x8=>(loop1 (v.2.2.2.2.2.2.2.2.1,(List.length v.2.2.2.2.2.2.2.2.1:Int),(0:Int),x8,v.2.2.2.2))))
def gimage_appendFunc_0 (N:Nat) (self0:Y5×Int×Int×Y3×Y1→Option (Y3)) (v:Y5×Int×Int×Y3×Y1):Option (Y3):=himage_appendFunc_0 (iterV (gimage_appendFunc_1 N self0) N) self0 v
theorem kz62_0 (N:Nat) (s0:St→Option (Y3)) (v):(flocO (Ez62) Tz62 6 N Tryz.f60 Z9 [.call 4 3 93] 0 nowhereR) s0 (ez62_0 v)=himage_appendFunc_0 (fun v=>iterR (flocO (Ez62) Tz62 6 N Tryz.f60 Z9 [.call 5 3 97] 0 nowhereR) N (ez62_1 v)) (fun v=>s0 (ez62_0 v)) v:=by kernel_rfl
theorem bz62_0 (N:Nat) (s0:St→Option (Y3)) (v):(flocO (Ez62) Tz62 6 N Tryz.f60 Z9 [.call 4 3 93] 0 nowhereR) s0 (ez62_0 v)=gimage_appendFunc_0 N (fun v=>s0 (ez62_0 v)) v:=(kz62_0 N s0 v).trans (by rw [funext (iterR_eq ez62_1 (bz62_1 N s0) N)];rfl)
def nimage_appendFunc (loop0:Y5×Int×Int×Y3×Y1→Option (Y3)) (x:Y3) (y:(Y1×Unit)):Option (Y3):=
 ((cimage_appendText x (y.1.1,())).bind fun x1=>((cimage_appendNumber x1 (y.1.2.1,())).bind fun x2=>((cwire_Signed y.1.2.2.1).bind fun x3=>(bif (Nat.ble 1 1&&Nat.ble (List.length x2+List.length x3) lim) then ((cimage_appendNumber (List.append x2 x3) ((List.length y.1.2.2.2.1:Int),())).bind fun x4=>(loop0 (y.1.2.2.2.1,(List.length y.1.2.2.2.1:Int),(0:Int),x4,y.1))) else none))))
def mimage_appendFunc (N:Nat) (x:Y3) (y:(Y1×Unit)):Option (Y3):=nimage_appendFunc (iterV (gimage_appendFunc_0 N) N) x y
theorem jz62 (N:Nat) (x:Y3) (y:(Y1×Unit)):riseO (Ez62) Tz62 6 N Tryz.f60 Z9 [.hole Z0] x y=nimage_appendFunc (fun v=>iterR (flocO (Ez62) Tz62 6 N Tryz.f60 Z9 [.call 4 3 93] 0 nowhereR) N (ez62_0 v)) x y:=by kernel_rfl
theorem lz62 (N:Nat) (x:Y3) (y:(Y1×Unit)):riseO (Ez62) Tz62 6 N Tryz.f60 Z9 [.hole Z0] x y=mimage_appendFunc N x y:=(jz62 N x y).trans (by rw [funext (iterR_eq ez62_0 (bz62_0 N) N)];rfl)
def cimage_appendFunc (x:Y3) (y:(Y1×Unit)):Option (Y3):=mimage_appendFunc big x y
@[reducible] def Oz62:OwnC:=⟨Z9,[.hole Z0],fun x y=>cimage_appendFunc x y⟩
theorem Lz62:OwnOk Tryz.prog 60 Oz62:=own_of (c:=Oz62) (E:=Ez62) ⟨tabOk,(fsCons2 Lz53 fsNil2),fun _ _ _=>rfl,mixed,(inlCons (inlB_of Tryz.func93 rfl rfl (by kernel_rfl)) (inlCons (inlB_of Tryz.func97 rfl rfl (by kernel_rfl)) inlNil)),rcsNil,(owsCons Lz48 (owsCons Lz44 (owsCons Lz49 (owsCons Lz59 (owsCons Lz61 owsNil)))))⟩ Tryz.func60 rfl (by decide) (by kernel_rfl) (by kernel_rfl) (fun x y z h=>⟨Tz62,6,big,(lz62 big x y).trans h⟩)
def Tz63:LT:={ live:=[],keep:=[(8,[3]),(12,[3]),(16,[])] }
noncomputable def Ez63:Env2:={ tab:=tab,fs:=[],inl:=[(55,Tryz.f55,Tz45),(57,Tryz.f57,Tz51),(59,Tryz.f59,Tz52)],ow:=[(56,Oz50),(58,Oz48),(60,Oz62),(92,Oz44)] }
noncomputable def ez63_2 (v:(List Y1)×Int×Int×Y3):St:={ s:=[(0,(.row 0)),(2,(.clo 60 .unit)),(13,(.val ⟨(.slice Z0),v.1⟩)),(14,(.val ⟨Z2,v.2.1⟩)),(15,(.val ⟨Z2,v.2.2.1⟩))],l:=[(0,.row Z9 v.2.2.2)],k:=[(4096,[])],b:=16846848 }
noncomputable def ez63_1 (v:Y9×Int×Int×Y3×Y0):St:={ s:=[(0,(.row 0)),(2,(.clo 58 .unit)),(13,(.val ⟨(.slice .str),v.1⟩)),(14,(.val ⟨Z2,v.2.1⟩)),(15,(.val ⟨Z2,v.2.2.1⟩))],l:=[(0,.row Z9 v.2.2.2.1),(1,.var Z3 (.val ⟨Z3,v.2.2.2.2⟩))],k:=[(4096,[(3,(.loc 1 []))])],b:=16830464 }
noncomputable def ez63_0 (v:Y6×Int×Int×Y3×Y0):St:={ s:=[(0,(.row 0)),(2,(.clo 56 .unit)),(13,(.val ⟨Z11,v.1⟩)),(14,(.val ⟨Z2,v.2.1⟩)),(15,(.val ⟨Z2,v.2.2.1⟩))],l:=[(0,.row Z9 v.2.2.2.1),(1,.var Z3 (.val ⟨Z3,v.2.2.2.2⟩))],k:=[(4096,[(3,(.loc 1 []))])],b:=16814080 }
def himage_appendImage_2 (self0:Y6×Int×Int×Y3×Y0→Option (Y3)) (self1:Y9×Int×Int×Y3×Y0→Option (Y3)) (self2:(List Y1)×Int×Int×Y3→Option (Y3)) (v:(List Y1)×Int×Int×Y3):Option (Y3):=
 (bif (decide (v.2.2.1 < v.2.1)) then ((getI v.1 v.2.2.1).bind fun x10=>((cimage_appendFunc v.2.2.2 (x10,())).bind fun x11=>(let x12:Int:=(IntKind.i64.wrap (v.2.2.1+(1:Int)));(self2 (v.1,v.2.1,x12,x11))))) else (some v.2.2.2))
def gimage_appendImage_2 (N:Nat) (self0:Y6×Int×Int×Y3×Y0→Option (Y3)) (self1:Y9×Int×Int×Y3×Y0→Option (Y3)) (self2:(List Y1)×Int×Int×Y3→Option (Y3)) (v:(List Y1)×Int×Int×Y3):Option (Y3):=himage_appendImage_2 self0 self1 self2 v
theorem kz63_2 (N:Nat) (s0:St→Option (Y3)) (s1:St→Option (Y3)) (s2:St→Option (Y3)) (v):(flocO (Ez63) Tz63 6 N Tryz.f34 Z9 [.call 3 3 59] 0 nowhereR) s2 (ez63_2 v)=himage_appendImage_2 (fun v=>s0 (ez63_0 v)) (fun v=>s1 (ez63_1 v)) (fun v=>s2 (ez63_2 v)) v:=by kernel_rfl
theorem bz63_2 (N:Nat) (s0:St→Option (Y3)) (s1:St→Option (Y3)) (s2:St→Option (Y3)) (v):(flocO (Ez63) Tz63 6 N Tryz.f34 Z9 [.call 3 3 59] 0 nowhereR) s2 (ez63_2 v)=gimage_appendImage_2 N (fun v=>s0 (ez63_0 v)) (fun v=>s1 (ez63_1 v)) (fun v=>s2 (ez63_2 v)) v:=kz63_2 N s0 s1 s2 v
def himage_appendImage_1 (loop2:(List Y1)×Int×Int×Y3→Option (Y3)) (self0:Y6×Int×Int×Y3×Y0→Option (Y3)) (self1:Y9×Int×Int×Y3×Y0→Option (Y3)) (v:Y9×Int×Int×Y3×Y0):Option (Y3):=
 (bif (decide (v.2.2.1 < v.2.1)) then ((getI v.1 v.2.2.1).bind fun x6=>((cimage_appendText v.2.2.2.1 (x6,())).bind fun x7=>(let x8:Int:=(IntKind.i64.wrap (v.2.2.1+(1:Int)));(self1 (v.1,v.2.1,x8,x7,v.2.2.2.2))))) else ((cimage_appendNumber v.2.2.2.1 ((List.length v.2.2.2.2.2.2.1:Int),())).bind fun x9=>(loop2 (v.2.2.2.2.2.2.1,(List.length v.2.2.2.2.2.2.1:Int),(0:Int),x9))))
def gimage_appendImage_1 (N:Nat) (self0:Y6×Int×Int×Y3×Y0→Option (Y3)) (self1:Y9×Int×Int×Y3×Y0→Option (Y3)) (v:Y9×Int×Int×Y3×Y0):Option (Y3):=himage_appendImage_1 (iterV (gimage_appendImage_2 N self0 self1) N) self0 self1 v
theorem kz63_1 (N:Nat) (s0:St→Option (Y3)) (s1:St→Option (Y3)) (v):(flocO (Ez63) Tz63 6 N Tryz.f34 Z9 [.call 2 3 57] 0 nowhereR) s1 (ez63_1 v)=himage_appendImage_1 (fun v=>iterR (flocO (Ez63) Tz63 6 N Tryz.f34 Z9 [.call 3 3 59] 0 nowhereR) N (ez63_2 v)) (fun v=>s0 (ez63_0 v)) (fun v=>s1 (ez63_1 v)) v:=by kernel_rfl
theorem bz63_1 (N:Nat) (s0:St→Option (Y3)) (s1:St→Option (Y3)) (v):(flocO (Ez63) Tz63 6 N Tryz.f34 Z9 [.call 2 3 57] 0 nowhereR) s1 (ez63_1 v)=gimage_appendImage_1 N (fun v=>s0 (ez63_0 v)) (fun v=>s1 (ez63_1 v)) v:=(kz63_1 N s0 s1 v).trans (by rw [funext (iterR_eq ez63_2 (bz63_2 N s0 s1) N)];rfl)
def himage_appendImage_0 (loop1:Y9×Int×Int×Y3×Y0→Option (Y3)) (self0:Y6×Int×Int×Y3×Y0→Option (Y3)) (v:Y6×Int×Int×Y3×Y0):Option (Y3):=
 (bif (decide (v.2.2.1 < v.2.1)) then ((getI v.1 v.2.2.1).bind fun x2=>((cimage_appendType v.2.2.2.1 (x2,())).bind fun x3=>(let x4:Int:=(IntKind.i64.wrap (v.2.2.1+(1:Int)));(self0 (v.1,v.2.1,x4,x3,v.2.2.2.2))))) else ((cimage_appendNumber v.2.2.2.1 ((List.length v.2.2.2.2.2.1:Int),())).bind fun x5=>(loop1 (v.2.2.2.2.2.1,(List.length v.2.2.2.2.2.1:Int),(0:Int),x5,v.2.2.2.2))))
def gimage_appendImage_0 (N:Nat) (self0:Y6×Int×Int×Y3×Y0→Option (Y3)) (v:Y6×Int×Int×Y3×Y0):Option (Y3):=himage_appendImage_0 (iterV (gimage_appendImage_1 N self0) N) self0 v
theorem kz63_0 (N:Nat) (s0:St→Option (Y3)) (v):(flocO (Ez63) Tz63 6 N Tryz.f34 Z9 [.call 1 3 55] 0 nowhereR) s0 (ez63_0 v)=himage_appendImage_0 (fun v=>iterR (flocO (Ez63) Tz63 6 N Tryz.f34 Z9 [.call 2 3 57] 0 nowhereR) N (ez63_1 v)) (fun v=>s0 (ez63_0 v)) v:=by kernel_rfl
theorem bz63_0 (N:Nat) (s0:St→Option (Y3)) (v):(flocO (Ez63) Tz63 6 N Tryz.f34 Z9 [.call 1 3 55] 0 nowhereR) s0 (ez63_0 v)=gimage_appendImage_0 N (fun v=>s0 (ez63_0 v)) v:=(kz63_0 N s0 v).trans (by rw [funext (iterR_eq ez63_1 (bz63_1 N s0) N)];rfl)
def nimage_appendImage (loop0:Y6×Int×Int×Y3×Y0→Option (Y3)) (x:Y3) (y:(Y0×Unit)):Option (Y3):=
 ((cimage_appendNumber x ((List.length y.1.1:Int),())).bind fun x1=>(loop0 (y.1.1,(List.length y.1.1:Int),(0:Int),x1,y.1)))
def mimage_appendImage (N:Nat) (x:Y3) (y:(Y0×Unit)):Option (Y3):=nimage_appendImage (iterV (gimage_appendImage_0 N) N) x y
theorem jz63 (N:Nat) (x:Y3) (y:(Y0×Unit)):riseO (Ez63) Tz63 6 N Tryz.f34 Z9 [.hole Z3] x y=nimage_appendImage (fun v=>iterR (flocO (Ez63) Tz63 6 N Tryz.f34 Z9 [.call 1 3 55] 0 nowhereR) N (ez63_0 v)) x y:=by kernel_rfl
theorem lz63 (N:Nat) (x:Y3) (y:(Y0×Unit)):riseO (Ez63) Tz63 6 N Tryz.f34 Z9 [.hole Z3] x y=mimage_appendImage N x y:=(jz63 N x y).trans (by rw [funext (iterR_eq ez63_0 (bz63_0 N) N)];rfl)
def cimage_appendImage (x:Y3) (y:(Y0×Unit)):Option (Y3):=mimage_appendImage big x y
@[reducible] def Oz63:OwnC:=⟨Z9,[.hole Z3],fun x y=>cimage_appendImage x y⟩
theorem Lz63:OwnOk Tryz.prog 34 Oz63:=own_of (c:=Oz63) (E:=Ez63) ⟨tabOk,fsNil2,fun _ _ _=>rfl,mixed,(inlCons (inlB_of Tryz.func55 rfl rfl (by kernel_rfl)) (inlCons (inlB_of Tryz.func57 rfl rfl (by kernel_rfl)) (inlCons (inlB_of Tryz.func59 rfl rfl (by kernel_rfl)) inlNil))),rcsNil,(owsCons Lz50 (owsCons Lz48 (owsCons Lz62 (owsCons Lz44 owsNil))))⟩ Tryz.func34 rfl (by decide) (by kernel_rfl) (by kernel_rfl) (fun x y z h=>⟨Tz63,6,big,(lz63 big x y).trans h⟩)
def Tz64:LT:={ live:=[],keep:=[] }
noncomputable def Ez64:Env2:={ tab:=tab,fs:=[(29,Gz41)],inl:=[],ow:=[(34,Oz63)] }
def nimage_Encode (x:Y0):Option (Y3×Int):=
 ((cimage_isValid x).bind fun x1=>(bif (!x1) then (some (([]:List Int),(8:Int))) else ((cimage_appendImage ([]:List Int) (x,())).bind fun x2=>(bif (decide ((List.length x2:Int) > (20000:Int))) then (some (([]:List Int),(4:Int))) else (some (x2,(0:Int)))))))
def mimage_Encode (N:Nat) (x:Y0):Option (Y3×Int):=nimage_Encode x
theorem jz64 (N:Nat) (x:Y0):rise (Ez64) Tz64 6 N Tryz.f20 [Z3] [Z5,Z2] [true,false] x=nimage_Encode x:=by kernel_rfl
theorem lz64 (N:Nat) (x:Y0):rise (Ez64) Tz64 6 N Tryz.f20 [Z3] [Z5,Z2] [true,false] x=mimage_Encode N x:=(jz64 N x).trans rfl
def cimage_Encode (x:Y0):Option (Y3×Int):=mimage_Encode big x
def Gz64:Fn2:=⟨[Z3],[Z5,Z2],[true,false],fun x=>cimage_Encode x⟩
theorem Lz64:Rises Tryz.prog 20 Gz64:=rises_of (E:=Ez64) ⟨tabOk,(fsCons2 Lz41 fsNil2),fun _ _ _=>rfl,mixed,inlNil,rcsNil,(owsCons Lz63 owsNil)⟩ Tryz.func20 rfl (by decide) (by kernel_rfl) (by kernel_rfl) (by kernel_rfl) (by kernel_rfl) (fun x r _ h=>⟨Tz64,6,big,(lz64 big x).trans h⟩)
def Tz93:LT:={ live:=[],keep:=[] }
noncomputable def Ez93:Env2:={ tab:=tab,fs:=[(20,Gz64)],inl:=[] }
def nimage_Check (x:Y0):Option (Int):=
 ((cimage_Encode x).bind fun x1=>(some x1.2))
def mimage_Check (N:Nat) (x:Y0):Option (Int):=nimage_Check x
theorem jz93 (N:Nat) (x:Y0):rise (Ez93) Tz93 6 N Tryz.f15 [Z3] [Z2] [false] x=nimage_Check x:=by kernel_rfl
theorem lz93 (N:Nat) (x:Y0):rise (Ez93) Tz93 6 N Tryz.f15 [Z3] [Z2] [false] x=mimage_Check N x:=(jz93 N x).trans rfl
def cimage_Check (x:Y0):Option (Int):=mimage_Check big x
def Gz93:Fn2:=⟨[Z3],[Z2],[false],fun x=>cimage_Check x⟩
theorem Lz93:Rises Tryz.prog 15 Gz93:=rises_of (E:=Ez93) ⟨tabOk,(fsCons2 Lz64 fsNil2),fun _ _ _=>rfl,mixed,inlNil,rcsNil,owsNil⟩ Tryz.func15 rfl (by decide) (by kernel_rfl) (by kernel_rfl) (by kernel_rfl) (by kernel_rfl) (fun x r _ h=>⟨Tz93,6,big,(lz93 big x).trans h⟩)
def Tz94:LT:={ live:=[],keep:=[] }
noncomputable def Ez94:Env2:={ tab:=tab,fs:=[(15,Gz93),(27,Gz24)],inl:=[] }
def nimage_Address (x:Y0×Int×Int):Option (Int×Int):=
 ((cimage_Check x.1).bind fun x1=>(bif (x1 != (0:Int)) then (some ((0:Int),x1)) else ((cimage_isIndex (x.2.1,(List.length x.1.2.2.1:Int))).bind fun x2=>(bif (!x2) then (some ((0:Int),(2:Int))) else ((getI x.1.2.2.1 x.2.1).bind fun x3=>((cimage_isIndex (x.2.2,(List.length x3.2.2.2.2.1:Int))).bind fun x4=>(bif (!x4) then (some ((0:Int),(2:Int))) else (let x5:Int:=(IntKind.u64.wrap ((IntKind.u64.wrap x.2.1)+(1:Int)));(let x6:Int:=(IntKind.u64.wrap ((256:Int) * x5));(let x7:Int:=(IntKind.u64.wrap (x6+(IntKind.u64.wrap x.2.2)));(some (x7,(0:Int)))))))))))))
def mimage_Address (N:Nat) (x:Y0×Int×Int):Option (Int×Int):=nimage_Address x
theorem jz94 (N:Nat) (x:Y0×Int×Int):rise (Ez94) Tz94 6 N Tryz.f10 [Z3,Z2,Z2] [(.int .u64),Z2] [false,false] x=nimage_Address x:=by kernel_rfl
theorem lz94 (N:Nat) (x:Y0×Int×Int):rise (Ez94) Tz94 6 N Tryz.f10 [Z3,Z2,Z2] [(.int .u64),Z2] [false,false] x=mimage_Address N x:=(jz94 N x).trans rfl
def cimage_Address (x:Y0×Int×Int):Option (Int×Int):=mimage_Address big x
def Gz94:Fn2:=⟨[Z3,Z2,Z2],[(.int .u64),Z2],[false,false],fun x=>cimage_Address x⟩
theorem Lz94:Rises Tryz.prog 10 Gz94:=rises_of (E:=Ez94) ⟨tabOk,(fsCons2 Lz93 (fsCons2 Lz24 fsNil2)),fun _ _ _=>rfl,mixed,inlNil,rcsNil,owsNil⟩ Tryz.func10 rfl (by decide) (by kernel_rfl) (by kernel_rfl) (by kernel_rfl) (by kernel_rfl) (fun x r _ h=>⟨Tz94,6,big,(lz94 big x).trans h⟩)
def Tz97:LT:={ live:=[],keep:=[] }
noncomputable def Ez97:Env2:={ tab:=tab,fs:=[(15,Gz93),(27,Gz24)],inl:=[] }
def nimage_Find (x:Y0×Int):Option (Int×Int×Int):=
 ((cimage_Check x.1).bind fun x1=>(bif (x1 != (0:Int)) then (some ((0:Int),(0:Int),x1)) else (let x2:Int:=(IntKind.u64.wrap (x.2.tdiv (256:Int)));(let x3:Int:=(IntKind.i64.wrap ((IntKind.i64.wrap x2) - (1:Int)));(let x4:Int:=(IntKind.i64.wrap (x.2.tmod (256:Int)));((cimage_isIndex (x3,(List.length x.1.2.2.1:Int))).bind fun x5=>(bif (!x5) then (some ((0:Int),(0:Int),(6:Int))) else ((getI x.1.2.2.1 x3).bind fun x6=>((cimage_isIndex (x4,(List.length x6.2.2.2.2.1:Int))).bind fun x7=>(bif (!x7) then (some ((0:Int),(0:Int),(6:Int))) else (some (x3,x4,(0:Int)))))))))))))
def mimage_Find (N:Nat) (x:Y0×Int):Option (Int×Int×Int):=nimage_Find x
theorem jz97 (N:Nat) (x:Y0×Int):rise (Ez97) Tz97 6 N Tryz.f12 [Z3,(.int .u64)] [Z2,Z2,Z2] [false,false,false] x=nimage_Find x:=by kernel_rfl
theorem lz97 (N:Nat) (x:Y0×Int):rise (Ez97) Tz97 6 N Tryz.f12 [Z3,(.int .u64)] [Z2,Z2,Z2] [false,false,false] x=mimage_Find N x:=(jz97 N x).trans rfl
def cimage_Find (x:Y0×Int):Option (Int×Int×Int):=mimage_Find big x
def Gz97:Fn2:=⟨[Z3,(.int .u64)],[Z2,Z2,Z2],[false,false,false],fun x=>cimage_Find x⟩
theorem Lz97:Rises Tryz.prog 12 Gz97:=rises_of (E:=Ez97) ⟨tabOk,(fsCons2 Lz93 (fsCons2 Lz24 fsNil2)),fun _ _ _=>rfl,mixed,inlNil,rcsNil,owsNil⟩ Tryz.func12 rfl (by decide) (by kernel_rfl) (by kernel_rfl) (by kernel_rfl) (by kernel_rfl) (fun x r _ h=>⟨Tz97,6,big,(lz97 big x).trans h⟩)
end Go.Proofs.YtlhnlcbcikbokaaGreatDoor
