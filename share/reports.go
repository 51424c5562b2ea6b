package share

import (
	"cmp"
	"slices"

	"bijou/api"
)

// auditor stands for the till of all audits, as the tills that these name do not matter.
const auditor = -1

// grossOf returns the gross of a film in a week.
func grossOf(l []api.Report, film, week int) int {
	last := lastReports(l, film, week)
	if audit, ok := last[auditor]; ok {
		return audit.Cents
	}
	sum := 0
	for _, r := range last {
		sum += r.Cents
	}
	return sum
}

// lastReports returns for each till its report with the greatest Id about a film and a week.
func lastReports(l []api.Report, film, week int) map[int]api.Report {
	last := map[int]api.Report{}
	for _, r := range l {
		if r.Film != film || r.Week != week {
			continue
		}
		till := r.Till
		if r.Kind == api.Audited {
			till = auditor
		}
		if earlier, ok := last[till]; !ok || r.Id > earlier.Id {
			last[till] = r
		}
	}
	return last
}

// eachOnce returns all reports of two lists, equal ones once, ordered by Id, if none of them clash.
func eachOnce(l, more []api.Report) []api.Report {
	all := slices.Concat(l, more)
	slices.SortFunc(all, func(a, b api.Report) int { return cmp.Compare(a.Id, b.Id) })
	return slices.Compact(all)
}

// clash tells whether two reports with the same Id are not equal.
func clash(l []api.Report) bool {
	came := map[int]api.Report{}
	for _, r := range l {
		if other, ok := came[r.Id]; ok && r != other {
			return true
		}
		came[r.Id] = r
	}
	return false
}
